/- scan.tokens: the iterator over a logical text's tokens. -/
import Derived.Test.YtaodjipnffgihaaNext
import Derived.Test.YtaodjipnffgihaaMyA
import Derived.Test.YtaodjipnffgihaaGen
import Derived.Test.YtaodjipnffgihaaMyD
import Derived.Shelf.RegionOpen
import Derived.BigQuiet
import Derived.Deep.QuietTactic
namespace Go.Proofs.Ytaodjipnffgihaa
open Go.RowKit Go.Shelf

attribute [local go_sem] Oper.semAt_some

/-- What the iterator hands over: a token and 0, or nothing and an error. -/
structure Yd where
  k : Nat
  tx : ByteArray
  a : Nat
  e : Nat
  sp : Bool
  er : Nat

def tokY (s : ByteArray) (t : Tk) : Yd := ⟨t.k, s.extract t.a t.e, t.a, t.e, t.sp, 0⟩
def errY (r : Nat) : Yd := ⟨0, ⟨#[]⟩, 0, 0, false, r⟩
def Yd.cells (y : Yd) : Array Value := #[.int .i64 y.k, .string y.tx, .int .i64 y.a, .int .i64 y.e, .bool y.sp]
def encY (y : Yd) : Array Value := #[.agg #[.int .i64 y.k, .string y.tx, .int .i64 y.a, .int .i64 y.e, .bool y.sp], .int .i64 y.er]

/-- All that is handed over behind a place. -/
def ydFrom (s : ByteArray) (e st : Nat) : List Yd := (toks s.data.toList e st).1.map (tokY s) ++ if (toks s.data.toList e st).2 = 0 then [] else [errY (toks s.data.toList e st).2]
def ydAll (s : ByteArray) : List Yd := ydFrom s 0 0
abbrev Yt (s : ByteArray) := { y : Yd // y ∈ ydAll s }
def yts (s : ByteArray) : List (Yt s) := (ydAll s).attach
theorem yts_val (s : ByteArray) : (yts s).map (·.1) = ydAll s := by unfold yts; exact List.attach_map_subtype_val _

theorem yd_end {s : ByteArray} {e st : Nat} (he : e ≤ s.size) (h : s.size ≤ atOf s.data.toList e) : ydFrom s e st = [] := by
  unfold ydFrom
  rw [toks_end he h]; rfl
theorem yd_err {s : ByteArray} {e st : Nat} (h : atOf s.data.toList e < s.size) (h2 : (nextAt s.data.toList e st).2.2 ≠ 0) : ydFrom s e st = [errY (nextAt s.data.toList e st).2.2] := by
  unfold ydFrom
  rw [toks_err h h2]
  simp only [List.map_nil, List.nil_append]
  rw [if_neg h2]
theorem yd_cons {s : ByteArray} {e st : Nat} (h : atOf s.data.toList e < s.size) (h2 : (nextAt s.data.toList e st).2.2 = 0) :
    ydFrom s e st = tokY s (tokAt s.data.toList e st) :: ydFrom s (tokAt s.data.toList e st).e (stAt s.data.toList e st) := by
  unfold ydFrom
  rw [toks_cons h h2]; rfl

/-! ### What a round keeps for the iterator -/

def ptr (W : World) (B : Nat) : Option Nat := (W.cell? ⟨B, 0, none⟩).bind Value.ownBlock
theorem ptr_boxed {W : World} {Bl : Nat} {t : TypeId} {v : Value} (h : Boxed W Bl t v) : ptr W Bl = v.ownBlock := by
  unfold ptr
  rw [h.cell]; rfl
def PtrOk (Bl : Nat) (W : World) : Prop := ∃ v, Boxed W Bl 22 v ∧ ∀ k, v.ownBlock = some k → k < W.heap.size
theorem PtrOk.lt {Bl : Nat} {W : World} (h : PtrOk Bl W) : Bl < W.heap.size := by obtain ⟨v, hv, _⟩ := h; exact hv.lt
theorem PtrOk.ptr_lt {Bl : Nat} {W : World} (h : PtrOk Bl W) {k : Nat} (hk : ptr W Bl = some k) : k < W.heap.size := by
  obtain ⟨v, hv, h2⟩ := h
  rw [ptr_boxed hv] at hk
  exact h2 k hk
theorem PtrOk.below {Bl : Nat} {W W' : World} (h : PtrOk Bl W) (hb : Below W.heap.size W W') : PtrOk Bl W' := by
  obtain ⟨v, hv, h2⟩ := h
  exact ⟨v, (hb.block Bl hv.lt).trans hv, fun k hk => Nat.lt_of_lt_of_le (h2 k hk) hb.size⟩

/-- The last block of tokens that is not the row at Bl, the text's box, the library's number. -/
structure LastKept (Bl Bn : Nat) (Y W : World) : Prop where
  size : Y.heap.size ≤ W.heap.size
  last : ∀ c fz, Y.heap[Y.heap.size - 1]? = some (.cells c 49 fz) → ptr Y Bl ≠ some (Y.heap.size - 1) → W.heap[Y.heap.size - 1]? = some (.cells c 49 fz)
  ok : PtrOk Bl Y → PtrOk Bl W
  box : ∀ v, Boxed Y Bn 9 v → Boxed W Bn 9 v
  lib : LibVar Y → LibVar W

structure Env (Bl Bn : Nat) (s : ByteArray) (W : World) : Prop where
  box : Boxed W Bn 9 (.string s)
  ok : PtrOk Bl W
  lib : LibVar W

theorem ptr_below {B : Nat} {W W' : World} (h : Below W.heap.size W W') (hB : B < W.heap.size) : ptr W' B = ptr W B := by
  unfold ptr
  rw [h.cell (p := ⟨B, 0, none⟩) hB]
theorem Env.below {Bl Bn : Nat} {s : ByteArray} {W W' : World} (h : Env Bl Bn s W) (hb : Below W.heap.size W W') : Env Bl Bn s W' :=
  ⟨(hb.block Bn h.box.lt).trans h.box, h.ok.below hb, libVar_below hb h.lib⟩
theorem Env.last {Bl Bn : Nat} {s : ByteArray} {Y W : World} (h : Env Bl Bn s Y) (hk : LastKept Bl Bn Y W) : Env Bl Bn s W :=
  ⟨hk.box _ h.box, hk.ok h.ok, hk.lib h.lib⟩

theorem last_box {w1 W3 : World} {Bl Bn : Nat} {s : ByteArray} {c : Array Value} (hE : Env Bl Bn s w1) (hk : LastKept Bl Bn (w1.alloc (.cells c 49)) W3) : W3.heap[w1.heap.size]? = some (.cells c 49 (0, 0)) := by
  have hsz : (w1.alloc (.cells c 49)).heap.size - 1 = w1.heap.size := by simp
  have hp : ptr (w1.alloc (.cells c 49)) Bl = ptr w1 Bl := ptr_below ((Below.refl _ _).alloc (Nat.le_refl _) _) hE.ok.lt
  have h := hk.last c (0, 0) (by rw [hsz]; exact World.alloc_heap_new w1 _) (by
    rw [hsz, hp]
    intro h
    exact absurd (hE.ok.ptr_lt h) (Nat.lt_irrefl _))
  rw [hsz] at h
  exact h

set_option maxHeartbeats 400000 in
theorem tokens_any (s : ByteArray) (w : World) :
    Calls Try.prog 39 #[.string s] w fun e w' => e = .returned (.func (.func 60) #[] #[.pointer (some ⟨w.heap.size, 0, none⟩)]) ∧ w' = w.alloc (.cells #[.string s] 9) := by
  go_enter Try.func39, Try.ntmps39
  go_wp2
  go_ret
  exact ⟨rfl, rfl⟩

/-- How much white space stands behind a place. -/
def wsAt (s : ByteArray) (e : Nat) : Nat := runLen isWS (s.data.toList.drop e)
theorem atOf_ws (s : ByteArray) (e : Nat) : atOf s.data.toList e = e + wsAt s e := rfl
/-- whiteSpace behind a place. -/
theorem ws_at (s : ByteArray) (e : Nat) (w : World) (hs : s.size ≤ 200000) (he : e ≤ s.size) :
    Calls Try.prog 61 #[.string (s.extract e s.size)] w fun e' w' => e' = .returned (.int .i64 (wsAt s e : Nat)) ∧ w = w' := by
  refine (whiteSpace_any (s.extract e s.size) w (by rw [ByteArray.size_extract]; unfold maxLen; omega)).mono ?_
  rintro e' w' ⟨rfl, rfl⟩
  refine ⟨ri ?_, rfl⟩
  rw [extract_end]
  rfl
theorem beq2 (j : Nat) : ((j : Int) == 2) = (j == 2) := by rw [Bool.eq_iff_iff, beq_iff_eq, beq_iff_eq]; omega
theorem next_at (s : ByteArray) (e st : Nat) (w : World) (hs : s.size ≤ 200000) (ha : e + wsAt s e < s.size) (hL : LibVar w) :
    Calls Try.prog 62 #[.string (s.extract (e + wsAt s e) s.size), .bool ((st : Int) == 2)] w fun e' w' => e' = .returned (.tuple #[.int .i64 ((nextAt s.data.toList e st).1 : Nat), .int .i64 ((nextAt s.data.toList e st).2.1 : Nat), .int .i64 ((nextAt s.data.toList e st).2.2 : Nat)]) ∧ Below w.heap.size w w' := by
  have h := next_any (s.extract (e + wsAt s e) s.size) (st == 2) w (by rw [ByteArray.size_extract]; omega) (by rw [ByteArray.size_extract]; omega) hL
  rw [extract_end] at h
  rw [beq2]
  exact h

set_option maxRecDepth 100000 in
set_option maxHeartbeats 2000000 in
/-- The iterator: each token in order, as long as a round says 'go on'. -/
theorem tokens1_in (n : Nat) (hn : 1 ≤ n) (s : ByteArray) (hs : s.size ≤ 200000) (l Bn Bl : Nat) (J Jx : List (Yt s) → World → Prop) (B0 : Nat) (hJa : AbidesFrom B0 J)
    (hY : ∀ pre (x : Yt s) W, J pre W → pre.length < (yts s).length → YieldAt Fence.wide (n - 1) Try.prog l (encY x.1) W fun e W' =>
      (e = .returned (.bool true) ∧ J (pre ++ [x]) W' ∧ LastKept Bl Bn W W') ∨ (e = .returned (.bool false) ∧ Jx (pre ++ [x]) W'))
    (W : World) (hE : Env Bl Bn s W) (h0 : J [] W) :
    CallsIn Fence.wide n Try.prog 60 #[.func (.yield l) #[] #[], .pointer (some ⟨Bn, 0, none⟩)] W fun e W' => (∃ v, e = .returned v) ∧
      ((∃ ys, ys = yts s ∧ J ys W') ∨ (∃ pre, pre <+: yts s ∧ Jx pre W')) := by
  refine callsIn_of_wp Try.func60 rfl trivial ?_ rfl
  simp only [Try.ntmps60, List.size_toArray, List.length_cons, List.length_nil, Nat.reduceAdd, Nat.reduceSub, Array.replicate_succ, Array.replicate_zero, List.push_toArray, List.append_toArray, List.nil_append, List.cons_append]
  gi_wp2
  gi_loopw [3, 4] (fun st e wr => ∃ (pre rest : List (Yt s)) (k j : Nat), st = .int .i64 j ∧ j ≤ 3 ∧ e = .int .i64 k ∧ k ≤ s.size ∧ yts s = pre ++ rest ∧ rest.map (·.1) = ydFrom s k j ∧ J pre wr ∧ Env Bl Bn s wr)
    (fun _ e _ => s.size - (intOf e).toNat)
  case atStart =>
    exact ⟨[], yts s, 0, 0, rfl, Nat.zero_le _, rfl, Nat.zero_le _, rfl, yts_val s, h0, hE⟩
  case round =>
    obtain ⟨pre, rest, k, j, rfl, hj, rfl, hk, hx, hr, hJs, hEr⟩ := hrel
    have hc := hEr.box.cell
    have hal := atOf_le (l := s.data.toList) (e := k) hk
    rw [size_list, atOf_ws] at hal
    have hws := fun w => ws_at s k w hs hk
    by_cases hlt : k + wsAt s k < s.size
    · have hnx := fun w h => next_at s k j w hs hlt h
      by_cases her : (nextAt s.data.toList k j).2.2 = 0
      · rw [yd_cons hlt her] at hr
        have hnl := nextAt_len hlt her
        have hstl : stAt s.data.toList k j ≤ 3 := lineWith_le hj
        have hkd : (nextAt s.data.toList k j).1 ≤ 9 := nextOf_kind _ _
        rw [size_list, atOf_ws] at hnl
        obtain ⟨x, rest, rfl⟩ : ∃ x r, rest = x :: r := by
          cases rest with
          | nil => simp at hr
          | cons x r => exact ⟨x, r, rfl⟩
        simp only [List.map_cons, List.cons.injEq] at hr
        obtain ⟨hx1, hr⟩ := hr
        have hlen : pre.length < (yts s).length := by rw [hx]; simp
        have hst : Hid (stAt s.data.toList k j = lineWith j x.1.k x.1.tx.data.toList) := Lib.hid (by
          rw [hx1]; unfold stAt txt tokY; simp only; rw [extract_list]; rfl)
        have hxa : x.1 = ⟨(nextAt s.data.toList k j).1, s.extract (k + wsAt s k) (k + wsAt s k + (nextAt s.data.toList k j).2.1), k + wsAt s k, k + wsAt s k + (nextAt s.data.toList k j).2.1, decide (k < k + wsAt s k), 0⟩ := by rw [hx1]; rfl
        have hte : (tokAt s.data.toList k j).e = k + wsAt s k + (nextAt s.data.toList k j).2.1 := rfl
        rw [hte] at hr
        clear hte hx1
        rw [her] at hnx
        generalize stAt s.data.toList k j = j' at *
        generalize wsAt s k = d at *
        generalize nextAt s.data.toList k j = nx at *
        obtain ⟨kd, nl, er⟩ := nx
        simp only at her hnl hkd hxa hr hnx
        have HX := Lib.hid hx; clear hx
        have HR := Lib.hid hr; clear hr
        have HA := Lib.hid hxa; clear hxa her
        gi_wp2_with fail
        refine ⟨trivial, (callsIn_wide.2 (hws _)).mono ?_⟩
        rintro e w1 ⟨rfl, rfl⟩
        gi_wp2_with fail
        refine ⟨trivial, (callsIn_wide.2 (hnx _ hEr.lib)).mono ?_⟩
        rintro e w1 ⟨rfl, hb1⟩
        have hE1 := hEr.below hb1
        have hc1 := hE1.box.cell
        have hcell : encY x.1 = #[.agg #[.int .i64 kd, .string (s.extract (k + d) (k + d + nl)), .int .i64 ((k : Int) + d), .int .i64 ((k : Int) + d + nl), .bool (decide ((k : Int) < (k : Int) + d))], .int .i64 0] := by
          have e3 : decide (k < k + d) = decide ((k : Int) < (k : Int) + d) := by rw [decide_eq_decide]; omega
          rw [HA.out]
          unfold encY
          simp only [e3, Int.natCast_add]
          rfl
        have hb2 : Below wr.heap.size wr (w1.alloc (.cells #[.int .i64 kd, .string (s.extract (k + d) (k + d + nl)), .int .i64 ((k : Int) + d), .int .i64 ((k : Int) + d + nl), .bool (decide ((k : Int) < (k : Int) + d))] 49)) := hb1.alloc hb1.size _
        obtain ⟨fn, tmps, assign, body, hy, hR⟩ := hY pre x _ (abides_below hJa hJs hb2) hlen
        rw [hcell] at hy
        clear hcell
        gi_wp2_with fail
        refine hR.mono ?_
        rintro e W3 (⟨rfl, hJ3, hk3⟩ | ⟨rfl, hJx3⟩)
        · have hb3 := last_box hE1 hk3
          have hE3 := (hE1.below ((Below.refl _ _).alloc (Nat.le_refl _) _)).last hk3
          clear hk3
          have d0 : W3.cell? ⟨w1.heap.size, 0, none⟩ = some (.int .i64 kd) := by rw [Lib.cell_of_heap hb3]; rfl
          have d1 : W3.cell? ⟨w1.heap.size, 1, none⟩ = some (.string (s.extract (k + d) (k + d + nl))) := by rw [Lib.cell_of_heap hb3]; rfl
          have d2 : W3.cell? ⟨w1.heap.size, 2, none⟩ = some (.int .i64 ((k : Int) + d)) := by rw [Lib.cell_of_heap hb3]; rfl
          have d3 : W3.cell? ⟨w1.heap.size, 3, none⟩ = some (.int .i64 ((k : Int) + d + nl)) := by rw [Lib.cell_of_heap hb3]; rfl
          have d4 : W3.cell? ⟨w1.heap.size, 4, none⟩ = some (.bool (decide ((k : Int) < (k : Int) + d))) := by rw [Lib.cell_of_heap hb3]; rfl
          have hmx : Try.prog.follows .mixedOrders = true := by kernel_rfl
          have hl3 : w1.heap.size < W3.heap.size := (Array.getElem?_eq_some_iff.1 hb3).1
          have hC := fun W => with_any j kd (k + d) (k + d + nl) (s.extract (k + d) (k + d + nl)) (decide ((k : Int) < (k : Int) + d)) W hj hkd
          simp only [Int.natCast_add] at hC
          have hj' : lineWith j kd (s.extract (k + d) (k + d + nl)).data.toList = j' := by
            have h1 := hst.out
            rw [HA.out] at h1
            exact h1.symm
          rw [hj'] at hC
          clear hj'
          gi_wp2_with fail
          gi_region_with_o (refine ⟨trivial, ?_⟩; gi_at_call 63; refine (callsIn_wide.2 (hC _)).mono ?_; rintro e w' ⟨rfl, rfl⟩)
          all_goals
            gi_wp2
            go_roundw
            case rel =>
              have hbw : Below W3.heap.size W3 (W3.alloc (.cells #[.int .i64 kd, .string (s.extract (k + d) (k + d + nl)), .int .i64 ((k : Int) + d), .int .i64 ((k : Int) + d + nl), .bool (decide ((k : Int) < (k : Int) + d))] 49)).drew := ((Below.refl _ _).alloc (Nat.le_refl _) _).drew
              (repeat apply Exists.intro)
              exact ⟨⟨pre ++ [x], rest, k + d + nl, j', rfl, hstl, by go_num, by omega, by rw [HX.out]; simp, HR.out, abides_below hJa hJ3 hbw, hE3.below hbw⟩, rfl⟩
            case measure =>
              show s.size - (intOf (.int .i64 ((k : Int) + d + nl))).toNat < s.size - (intOf (.int .i64 (k : Int))).toNat
              simp [intOf]; omega
        · gi_wp2
          refine bodyPost_ret (results_none rfl _ _ _) rfl ?_
          exact ⟨⟨_, rfl⟩, .inr ⟨pre ++ [x], ⟨rest, by rw [HX.out]; simp⟩, hJx3⟩⟩
      · rw [yd_err hlt her] at hr
        obtain ⟨x, rfl⟩ : ∃ x, rest = [x] := by
          cases rest with
          | nil => simp at hr
          | cons x r =>
            cases r with
            | nil => exact ⟨x, rfl⟩
            | cons y r => simp at hr
        simp only [List.map_cons, List.map_nil, List.cons.injEq, and_true] at hr
        have hlen : pre.length < (yts s).length := by rw [hx]; simp
        have hEv : ∀ w, Below w.heap.size w w := fun w => Below.refl _ _
        generalize wsAt s k = d at *
        generalize nextAt s.data.toList k j = nx at *
        obtain ⟨kd, nl, er⟩ := nx
        simp only at her hr hnx
        have her0 : 0 < er := by omega
        have hcell : encY x.1 = #[.agg #[.int .i64 0, .string ⟨#[]⟩, .int .i64 0, .int .i64 0, .bool false], .int .i64 er] := by rw [hr]; rfl
        have HX := Lib.hid hx; clear hx hr her
        gi_wp2_with fail
        refine ⟨trivial, (callsIn_wide.2 (hws _)).mono ?_⟩
        rintro e w1 ⟨rfl, rfl⟩
        gi_wp2_with fail
        refine ⟨trivial, (callsIn_wide.2 (hnx _ hEr.lib)).mono ?_⟩
        rintro e w1 ⟨rfl, hb1⟩
        obtain ⟨fn, tmps, assign, body, hy, hR⟩ := hY pre x _ (abides_below hJa hJs hb1) hlen
        rw [hcell] at hy
        clear hcell
        gi_wp2_with fail
        refine hR.mono ?_
        rintro e W3 (⟨rfl, hJ3, hk3⟩ | ⟨rfl, hJx3⟩)
        · gi_wp2
          refine bodyPost_ret (results_none rfl _ _ _) rfl ?_
          exact ⟨⟨_, rfl⟩, .inl ⟨pre ++ [x], HX.out.symm, hJ3⟩⟩
        · gi_wp2
          refine bodyPost_ret (results_none rfl _ _ _) rfl ?_
          exact ⟨⟨_, rfl⟩, .inr ⟨pre ++ [x], by rw [HX.out]; exact List.prefix_rfl, hJx3⟩⟩
    · rw [yd_end hk (by rw [atOf_ws]; omega), List.map_eq_nil_iff] at hr
      subst hr
      rw [List.append_nil] at hx
      have HX := Lib.hid hx; clear hx
      generalize wsAt s k = d at *
      have hkd : (k : Int) + d = s.size := by omega
      gi_wp2_with (refine ⟨trivial, (callsIn_wide.2 (hws _)).mono ?_⟩; rintro e w1 ⟨rfl, rfl⟩)
      refine bodyPost_ret (results_none rfl _ _ _) rfl ?_
      exact ⟨⟨_, rfl⟩, .inl ⟨pre, HX.out.symm, hJs⟩⟩

/-- tokens' ITERATOR: all in order, or a prefix, where a round has said 'no more'. -/
theorem tokens_stops (n : Nat) (hn : 1 ≤ n) (s : ByteArray) (hs : s.size ≤ 200000) (Bn Bl : Nat) (w : World) (hE : Env Bl Bn s w) :
    SeqStopsK Fence.wide n Try.prog 60 #[.pointer (some ⟨Bn, 0, none⟩)] (fun x : Yt s => encY x.1)
      (LastKept Bl Bn) (fun ys => ys = yts s) (fun pre => pre <+: yts s) (yts s).length w := fun l J Jx W hW hJ _ hY h0 =>
  tokens1_in n hn s hs l Bn Bl J Jx W.heap.size hJ hY W (hE.below hW) h0

end Go.Proofs.Ytaodjipnffgihaa
