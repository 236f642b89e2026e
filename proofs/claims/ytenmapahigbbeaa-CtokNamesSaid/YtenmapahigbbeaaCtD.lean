/- ctok.digit, and the iterator digits. -/
import Derived.Test.YtenmapahigbbeaaCtN
import Derived.Test.YtenmapahigbbeaaGen
import Derived.Test.YtenmapahigbbeaaKeeps
import Derived.Test.YtenmapahigbbeaaRegion
import Derived.Test.YtenmapahigbbeaaRun
import Derived.IntWalk
import Derived.BigQuiet
import Derived.Deep.QuietTactic
namespace Go.Proofs.Ytenmapahigbbeaa
open Go.RowKit Go.Shelf

/-- A region that draws its order and only reads, in a round. -/
theorem region_round_quiet {P : Program} {Q : Exit → Act → World → Prop} {id n l : Nat} {a : Act} {w : World} {ls : List Oper} (hm : P.follows .mixedOrders = true) (hB : Region.lexB .any ls.toArray = true) (hd : ls.toArray.all noDefer = true) (hL : ¬ LetsOut Q)
    (h : wpQuiet P ls.toArray (fun w' => ∃ n, w' = w.drewN n) (fun a' => ∀ w', (∃ n, w' = w.drewN n) → Q .normal a' w') ls a) : (Code.region id ls.toArray true).wpIn (Fence.wide.inRound l) n P Q a w := by
  have hB2 := hB
  simp only [Region.lexB, Bool.and_eq_true] at hB2
  refine wpIn_region_any hm (anyIn_round hd hL _ _ _ _ (wpAny_of_quiet (C := fun w' => ∃ n, w' = w.drewN n) (Q := fun a' => ∀ w', (∃ n, w' = w.drewN n) → Q .normal a' w') (fun _ w' hw' h => h w' hw') _ _ _ _ ⟨1, rfl⟩ ?_))
  have := wpAnyQ_lex (C := fun w' => ∃ n, w' = w.drewN n) (md := .any) hB2.1 ls 0 (Array.replicate ls.toArray.size false) a (by simp) (by simpa using hB2.2) (by simpa using h)
  simpa using this

set_option maxHeartbeats 1000000 in
theorem ctDigit_any (c : UInt8) (w : World) : Calls Try.prog 58 #[.int .u8 c.toNat] w fun e w' => e = .returned (.int .u64 (digV c : Nat)) ∧ w = w' := by
  have hc := c.toNat_lt
  go_enter Try.func58, Try.ntmps58
  go_wp2
  all_goals
    go_ret
    refine ⟨ri ?_, rfl⟩
    rw [digV_nat]
    repeat' split
    all_goals omega

set_option maxHeartbeats 400000 in
theorem digits_any (s : ByteArray) (w : World) :
    Calls Try.prog 44 #[.string s] w fun e w' => e = .returned (.func (.func 57) #[] #[.pointer (some ⟨w.heap.size, 0, none⟩)]) ∧ w' = w.alloc (.cells #[.string s] 9) := by
  go_enter Try.func44, Try.ntmps44
  go_wp2
  go_ret
  exact ⟨rfl, rfl⟩

/-- What a round keeps for the iterator: its box. -/
def BoxKept (t : TypeId) (Bn : Nat) (Y W : World) : Prop := ∀ v, Boxed Y Bn t v → Boxed W Bn t v
theorem boxKept_t {t : TypeId} {Bn : Nat} {A X C : World} (h : BoxKept t Bn A X) (k : BoxKept t Bn X C) : BoxKept t Bn A C := fun v hv => k v (h v hv)
theorem boxKept_b {t : TypeId} {Bn n : Nat} (W : World) (l : Nat) (o o' : Obj) (_ : n ≤ l) (h : W.heap[l]? = some o) (hc : o.isCells = false) (_ : o.isWalk = false) : BoxKept t Bn W (W.putObj l o') := fun v hv =>
  hv.kept (grownBy_putObj' W l o') (fun e => by
    obtain rfl : Bn = l := by simpa using e
    rw [show W.heap[Bn]? = _ from hv] at h; cases h; cases hc)
theorem boxKept_below {t : TypeId} {Bn : Nat} {W W' : World} (h : Below W.heap.size W W') : BoxKept t Bn W W' := fun _ hv => (h.block Bn hv.lt).trans hv
theorem boxKept_set {t : TypeId} {Bn B' : Nat} {W : World} (hB : Bn ≠ B') (u : Value) : BoxKept t Bn W (W.setCell ⟨B', 0, none⟩ u) := fun _ hv => hv.other hB u

def encD (c : UInt8) : Array Value := #[.int .u64 (digV c : Nat)]
theorem take_more {s : ByteArray} {k : Nat} (h : k < s.size) : s.data.toList.take (k + 1) = s.data.toList.take k ++ [s[k]] := by
  rw [List.take_add_one, data_get s k h]; rfl

set_option maxRecDepth 100000 in
set_option maxHeartbeats 1000000 in
/-- The iterator: each byte in order, as long as a round says 'go on'. -/
theorem digits1_in (n : Nat) (hn : 1 ≤ n) (s : ByteArray) (hs : s.size ≤ maxLen) (l Bn : Nat) (J Jx : List UInt8 → World → Prop) (B0 : Nat) (_hJa : AbidesFrom B0 J)
    (hY : ∀ pre (x : UInt8) W, J pre W → pre.length < s.size → YieldAt Fence.wide (n - 1) Try.prog l (encD x) W fun e W' =>
      (e = .returned (.bool true) ∧ J (pre ++ [x]) W' ∧ BoxKept 9 Bn W W') ∨ (e = .returned (.bool false) ∧ Jx (pre ++ [x]) W'))
    (W : World) (hBn : Boxed W Bn 9 (.string s)) (h0 : J [] W) :
    CallsIn Fence.wide n Try.prog 57 #[.func (.yield l) #[] #[], .pointer (some ⟨Bn, 0, none⟩)] W fun e W' => (∃ v, e = .returned v) ∧
      ((∃ ys, ys = s.data.toList ∧ J ys W') ∨ (∃ pre, pre <+: s.data.toList ∧ Jx pre W')) := by
  unfold maxLen at hs
  refine callsIn_of_wp Try.func57 rfl trivial ?_ rfl
  simp only [Try.ntmps57, List.size_toArray, List.length_cons, List.length_nil, Nat.reduceAdd, Nat.reduceSub, Array.replicate_succ, Array.replicate_zero, List.push_toArray, List.append_toArray, List.nil_append, List.cons_append]
  have hc := hBn.cell
  gi_wp2
  gi_loopw [6] (fun p wr => ∃ k : Nat, p = .int .i64 k ∧ k ≤ s.size ∧ J (s.data.toList.take k) wr ∧ Boxed wr Bn 9 (.string s))
    (fun p _ => s.size - (intOf p).toNat)
  case atStart =>
    exact ⟨0, rfl, Nat.zero_le _, by rw [List.take_zero]; exact h0, hBn⟩
  case round =>
    obtain ⟨k, rfl, hk, hJs, hbx⟩ := hrel
    have hcr := hbx.cell
    by_cases hlt : k < s.size
    · have hlen : (s.data.toList.take k).length < s.size := by rw [List.length_take, size_list]; omega
      have h1 : (k : Int) < (s.size : Int) := by omega
      have HT := Lib.hid (take_more hlt)
      obtain ⟨fn, tmps, assign, body, hy, hR⟩ := hY _ s[k] _ hJs hlen
      unfold encD at hy
      clear hJs hlen
      gi_wp2_with (refine ⟨trivial, (callsIn_wide.2 (ctDigit_any _ _)).mono ?_⟩; rintro e w' ⟨rfl, rfl⟩)
      refine hR.mono ?_
      rintro e W3 (⟨rfl, hJ3, hk3⟩ | ⟨rfl, hJx3⟩)
      · have hb3 := hk3 _ hbx
        gi_wp2
        go_roundw
        case rel => exact ⟨k + 1, by go_num, hlt, by rw [HT.out]; exact hJ3, hb3⟩
        case measure => simp [intOf]; omega
      · gi_wp2
        refine bodyPost_ret (results_none rfl _ _ _) rfl ?_
        exact ⟨⟨_, rfl⟩, .inr ⟨s.data.toList.take (k + 1), List.take_prefix _ _, by rw [HT.out]; exact hJx3⟩⟩
    · have HT := Lib.hid (show s.data.toList.take k = s.data.toList from List.take_of_length_le (by rw [size_list]; omega))
      have h1 : ¬ (k : Int) < (s.size : Int) := by omega
      gi_wp2
      go_end0
      exact ⟨⟨_, rfl⟩, .inl (by rw [HT.out] at hJs; exact hJs)⟩

theorem digits_stops (n : Nat) (hn : 1 ≤ n) (s : ByteArray) (hs : s.size ≤ maxLen) (Bn : Nat) (w : World) (hc : Boxed w Bn 9 (.string s)) :
    SeqStopsK Fence.wide n Try.prog 57 #[.pointer (some ⟨Bn, 0, none⟩)] encD
      (BoxKept 9 Bn) (fun ys => ys = s.data.toList) (fun pre => pre <+: s.data.toList) s.size w := fun l J Jx W hW hJ _ hY h0 =>
  digits1_in n hn s hs l Bn J Jx W.heap.size hJ hY W ((hW.block Bn hc.lt).trans hc) h0

end Go.Proofs.Ytenmapahigbbeaa
