/- Several texts laid together. -/
import Derived.Test.YtaodjipnffgihaaGreatMzE
import Derived.Test.YtaodjipnffgihaaGreatMzA
import Derived.Test.YtaodjipnffgihaaGreatGen
import Derived.Test.YtaodjipnffgihaaGreatMzF
import Derived.Shelf.RegionOpen
import Derived.BigQuiet
import Derived.Deep.QuietTactic
import Derived.Test.YtaodjipnffgihaaGreatRange
import Derived.IntWalk
import Derived.OneCell
import Derived.Laws.OwnMore
import Derived.Test.YtaodjipnffgihaaGreatShelf
import Derived.WalkKit
import Derived.WalkSpells
import Derived.WalkLawsBesides
import Derived.Test.YtaodjipnffgihaaGreatMzC
import Derived.Lib.Hide
import Derived.RangeFuncNested
import Derived.RangeFuncLeaves
import Derived.RangeFuncBox
import Derived.Shelf.Abstract
import Derived.OwnWalkIn
import Derived.TacticsInMore
import Derived.LoopNIn
import Derived.LoopIn

namespace Go.Proofs.YtaodjipnffgihaaGreat
open Go.RowKit Go.Shelf

attribute [local go_sem] Oper.semAt_some

/-- What the iterator hands over: a token and 0, or nothing and an error. -/
structure Yd where
  k : Nat
  tx : ByteArray
  a : Nat
  e : Nat
  sp : Bool
  er : Nat

def tokY (s : ByteArray) (t : Tk) : Yd := ⟨t.k, s.extract t.a t.e, t.a, t.e, t.sp, 0⟩
def errY (r : Nat) : Yd := ⟨0, ⟨#[]⟩, 0, 0, false, r⟩
def Yd.cells (y : Yd) : Array Value := #[.int .i64 y.k, .string y.tx, .int .i64 y.a, .int .i64 y.e, .bool y.sp]
def encY (y : Yd) : Array Value := #[.agg #[.int .i64 y.k, .string y.tx, .int .i64 y.a, .int .i64 y.e, .bool y.sp], .int .i64 y.er]

/-- All that is handed over behind a place. -/
def ydFrom (s : ByteArray) (e st : Nat) : List Yd := (toks s.data.toList e st).1.map (tokY s) ++ if (toks s.data.toList e st).2 = 0 then [] else [errY (toks s.data.toList e st).2]
def ydAll (s : ByteArray) : List Yd := ydFrom s 0 0
abbrev Yt (s : ByteArray) := { y : Yd // y ∈ ydAll s }
def yts (s : ByteArray) : List (Yt s) := (ydAll s).attach
theorem yts_val (s : ByteArray) : (yts s).map (·.1) = ydAll s := by unfold yts; exact List.attach_map_subtype_val _

theorem yd_end {s : ByteArray} {e st : Nat} (he : e ≤ s.size) (h : s.size ≤ atOf s.data.toList e) : ydFrom s e st = [] := by
  unfold ydFrom
  rw [toks_end he h]; rfl
theorem yd_err {s : ByteArray} {e st : Nat} (h : atOf s.data.toList e < s.size) (h2 : (nextAt s.data.toList e st).2.2 ≠ 0) : ydFrom s e st = [errY (nextAt s.data.toList e st).2.2] := by
  unfold ydFrom
  rw [toks_err h h2]
  simp only [List.map_nil, List.nil_append]
  rw [if_neg h2]
theorem yd_cons {s : ByteArray} {e st : Nat} (h : atOf s.data.toList e < s.size) (h2 : (nextAt s.data.toList e st).2.2 = 0) :
    ydFrom s e st = tokY s (tokAt s.data.toList e st) :: ydFrom s (tokAt s.data.toList e st).e (stAt s.data.toList e st) := by
  unfold ydFrom
  rw [toks_cons h h2]; rfl

/-! ### What a round keeps for the iterator -/

def ptr (W : World) (B : Nat) : Option Nat := (W.cell? ⟨B, 0, none⟩).bind Value.ownBlock
theorem ptr_boxed {W : World} {Bl : Nat} {t : TypeId} {v : Value} (h : Boxed W Bl t v) : ptr W Bl = v.ownBlock := by
  unfold ptr
  rw [h.cell]; rfl
def PtrOk (Bl : Nat) (W : World) : Prop := ∃ v, Boxed W Bl 44 v ∧ ∀ k, v.ownBlock = some k → k < W.heap.size
theorem PtrOk.lt {Bl : Nat} {W : World} (h : PtrOk Bl W) : Bl < W.heap.size := by obtain ⟨v, hv, _⟩ := h; exact hv.lt
theorem PtrOk.ptr_lt {Bl : Nat} {W : World} (h : PtrOk Bl W) {k : Nat} (hk : ptr W Bl = some k) : k < W.heap.size := by
  obtain ⟨v, hv, h2⟩ := h
  rw [ptr_boxed hv] at hk
  exact h2 k hk
theorem PtrOk.below {Bl : Nat} {W W' : World} (h : PtrOk Bl W) (hb : Below W.heap.size W W') : PtrOk Bl W' := by
  obtain ⟨v, hv, h2⟩ := h
  exact ⟨v, (hb.block Bl hv.lt).trans hv, fun k hk => Nat.lt_of_lt_of_le (h2 k hk) hb.size⟩

/-- The last block of tokens that is not the row at Bl, the text's box, the library's number. -/
structure LastKept (Bl Bn : Nat) (Y W : World) : Prop where
  size : Y.heap.size ≤ W.heap.size
  last : ∀ c fz, Y.heap[Y.heap.size - 1]? = some (.cells c 83 fz) → ptr Y Bl ≠ some (Y.heap.size - 1) → W.heap[Y.heap.size - 1]? = some (.cells c 83 fz)
  ok : PtrOk Bl Y → PtrOk Bl W
  box : ∀ v, Boxed Y Bn 9 v → Boxed W Bn 9 v
  lib : LibVar Y → LibVar W

structure Env (Bl Bn : Nat) (s : ByteArray) (W : World) : Prop where
  box : Boxed W Bn 9 (.string s)
  ok : PtrOk Bl W
  lib : LibVar W

theorem ptr_below {B : Nat} {W W' : World} (h : Below W.heap.size W W') (hB : B < W.heap.size) : ptr W' B = ptr W B := by
  unfold ptr
  rw [h.cell (p := ⟨B, 0, none⟩) hB]
theorem Env.below {Bl Bn : Nat} {s : ByteArray} {W W' : World} (h : Env Bl Bn s W) (hb : Below W.heap.size W W') : Env Bl Bn s W' :=
  ⟨(hb.block Bn h.box.lt).trans h.box, h.ok.below hb, libVar_below hb h.lib⟩
theorem Env.last {Bl Bn : Nat} {s : ByteArray} {Y W : World} (h : Env Bl Bn s Y) (hk : LastKept Bl Bn Y W) : Env Bl Bn s W :=
  ⟨hk.box _ h.box, hk.ok h.ok, hk.lib h.lib⟩

theorem last_box {w1 W3 : World} {Bl Bn : Nat} {s : ByteArray} {c : Array Value} (hE : Env Bl Bn s w1) (hk : LastKept Bl Bn (w1.alloc (.cells c 83)) W3) : W3.heap[w1.heap.size]? = some (.cells c 83 (0, 0)) := by
  have hsz : (w1.alloc (.cells c 83)).heap.size - 1 = w1.heap.size := by simp
  have hp : ptr (w1.alloc (.cells c 83)) Bl = ptr w1 Bl := ptr_below ((Below.refl _ _).alloc (Nat.le_refl _) _) hE.ok.lt
  have h := hk.last c (0, 0) (by rw [hsz]; exact World.alloc_heap_new w1 _) (by
    rw [hsz, hp]
    intro h
    exact absurd (hE.ok.ptr_lt h) (Nat.lt_irrefl _))
  rw [hsz] at h
  exact h

set_option maxHeartbeats 400000 in
theorem tokens_any (s : ByteArray) (w : World) :
    Calls Tryz.prog 52 #[.string s] w fun e w' => e = .returned (.func (.func 72) #[] #[.pointer (some ⟨w.heap.size, 0, none⟩)]) ∧ w' = w.alloc (.cells #[.string s] 9) := by
  go_enter Tryz.func52, Tryz.ntmps52
  go_wp2
  go_ret
  exact ⟨rfl, rfl⟩

/-- How much white space stands behind a place. -/
def wsAt (s : ByteArray) (e : Nat) : Nat := runLen isWS (s.data.toList.drop e)
theorem atOf_ws (s : ByteArray) (e : Nat) : atOf s.data.toList e = e + wsAt s e := rfl
/-- whiteSpace behind a place. -/
theorem ws_at (s : ByteArray) (e : Nat) (w : World) (hs : s.size ≤ 200000) (he : e ≤ s.size) :
    Calls Tryz.prog 73 #[.string (s.extract e s.size)] w fun e' w' => e' = .returned (.int .i64 (wsAt s e : Nat)) ∧ w = w' := by
  refine (whiteSpace_any (s.extract e s.size) w (by rw [ByteArray.size_extract]; unfold maxLen; omega)).mono ?_
  rintro e' w' ⟨rfl, rfl⟩
  refine ⟨ri ?_, rfl⟩
  rw [extract_end]
  rfl
theorem beq2 (j : Nat) : ((j : Int) == 2) = (j == 2) := by rw [Bool.eq_iff_iff, beq_iff_eq, beq_iff_eq]; omega
theorem next_at (s : ByteArray) (e st : Nat) (w : World) (hs : s.size ≤ 200000) (ha : e + wsAt s e < s.size) (hL : LibVar w) :
    Calls Tryz.prog 74 #[.string (s.extract (e + wsAt s e) s.size), .bool ((st : Int) == 2)] w fun e' w' => e' = .returned (.tuple #[.int .i64 ((nextAt s.data.toList e st).1 : Nat), .int .i64 ((nextAt s.data.toList e st).2.1 : Nat), .int .i64 ((nextAt s.data.toList e st).2.2 : Nat)]) ∧ Below w.heap.size w w' := by
  have h := next_any (s.extract (e + wsAt s e) s.size) (st == 2) w (by rw [ByteArray.size_extract]; omega) (by rw [ByteArray.size_extract]; omega) hL
  rw [extract_end] at h
  rw [beq2]
  exact h

set_option maxRecDepth 100000 in
set_option maxHeartbeats 2000000 in
/-- The iterator: each token in order, as long as a round says 'go on'. -/
theorem tokens1_in (n : Nat) (hn : 1 ≤ n) (s : ByteArray) (hs : s.size ≤ 200000) (l Bn Bl : Nat) (J Jx : List (Yt s) → World → Prop) (B0 : Nat) (hJa : AbidesFrom B0 J)
    (hY : ∀ pre (x : Yt s) W, J pre W → pre.length < (yts s).length → YieldAt Fence.wide (n - 1) Tryz.prog l (encY x.1) W fun e W' =>
      (e = .returned (.bool true) ∧ J (pre ++ [x]) W' ∧ LastKept Bl Bn W W') ∨ (e = .returned (.bool false) ∧ Jx (pre ++ [x]) W'))
    (W : World) (hE : Env Bl Bn s W) (h0 : J [] W) :
    CallsIn Fence.wide n Tryz.prog 72 #[.func (.yield l) #[] #[], .pointer (some ⟨Bn, 0, none⟩)] W fun e W' => (∃ v, e = .returned v) ∧
      ((∃ ys, ys = yts s ∧ J ys W') ∨ (∃ pre, pre <+: yts s ∧ Jx pre W')) := by
  refine callsIn_of_wp Tryz.func72 rfl trivial ?_ rfl
  simp only [Tryz.ntmps72, List.size_toArray, List.length_cons, List.length_nil, Nat.reduceAdd, Nat.reduceSub, Array.replicate_succ, Array.replicate_zero, List.push_toArray, List.append_toArray, List.nil_append, List.cons_append]
  gi_wp2
  gi_loopw [3, 4] (fun st e wr => ∃ (pre rest : List (Yt s)) (k j : Nat), st = .int .i64 j ∧ j ≤ 3 ∧ e = .int .i64 k ∧ k ≤ s.size ∧ yts s = pre ++ rest ∧ rest.map (·.1) = ydFrom s k j ∧ J pre wr ∧ Env Bl Bn s wr)
    (fun _ e _ => s.size - (intOf e).toNat)
  case atStart =>
    exact ⟨[], yts s, 0, 0, rfl, Nat.zero_le _, rfl, Nat.zero_le _, rfl, yts_val s, h0, hE⟩
  case round =>
    obtain ⟨pre, rest, k, j, rfl, hj, rfl, hk, hx, hr, hJs, hEr⟩ := hrel
    have hc := hEr.box.cell
    have hal := atOf_le (l := s.data.toList) (e := k) hk
    rw [size_list, atOf_ws] at hal
    have hws := fun w => ws_at s k w hs hk
    by_cases hlt : k + wsAt s k < s.size
    · have hnx := fun w h => next_at s k j w hs hlt h
      by_cases her : (nextAt s.data.toList k j).2.2 = 0
      · rw [yd_cons hlt her] at hr
        have hnl := nextAt_len hlt her
        have hstl : stAt s.data.toList k j ≤ 3 := lineWith_le hj
        have hkd : (nextAt s.data.toList k j).1 ≤ 9 := nextOf_kind _ _
        rw [size_list, atOf_ws] at hnl
        obtain ⟨x, rest, rfl⟩ : ∃ x r, rest = x :: r := by
          cases rest with
          | nil => simp at hr
          | cons x r => exact ⟨x, r, rfl⟩
        simp only [List.map_cons, List.cons.injEq] at hr
        obtain ⟨hx1, hr⟩ := hr
        have hlen : pre.length < (yts s).length := by rw [hx]; simp
        have hst : Hid (stAt s.data.toList k j = lineWith j x.1.k x.1.tx.data.toList) := Lib.hid (by
          rw [hx1]; unfold stAt txt tokY; simp only; rw [extract_list]; rfl)
        have hxa : x.1 = ⟨(nextAt s.data.toList k j).1, s.extract (k + wsAt s k) (k + wsAt s k + (nextAt s.data.toList k j).2.1), k + wsAt s k, k + wsAt s k + (nextAt s.data.toList k j).2.1, decide (k < k + wsAt s k), 0⟩ := by rw [hx1]; rfl
        have hte : (tokAt s.data.toList k j).e = k + wsAt s k + (nextAt s.data.toList k j).2.1 := rfl
        rw [hte] at hr
        clear hte hx1
        rw [her] at hnx
        generalize stAt s.data.toList k j = j' at *
        generalize wsAt s k = d at *
        generalize nextAt s.data.toList k j = nx at *
        obtain ⟨kd, nl, er⟩ := nx
        simp only at her hnl hkd hxa hr hnx
        have HX := Lib.hid hx; clear hx
        have HR := Lib.hid hr; clear hr
        have HA := Lib.hid hxa; clear hxa her
        gi_wp2_with fail
        refine ⟨trivial, (callsIn_wide.2 (hws _)).mono ?_⟩
        rintro e w1 ⟨rfl, rfl⟩
        gi_wp2_with fail
        refine ⟨trivial, (callsIn_wide.2 (hnx _ hEr.lib)).mono ?_⟩
        rintro e w1 ⟨rfl, hb1⟩
        have hE1 := hEr.below hb1
        have hc1 := hE1.box.cell
        have hcell : encY x.1 = #[.agg #[.int .i64 kd, .string (s.extract (k + d) (k + d + nl)), .int .i64 ((k : Int) + d), .int .i64 ((k : Int) + d + nl), .bool (decide ((k : Int) < (k : Int) + d))], .int .i64 0] := by
          have e3 : decide (k < k + d) = decide ((k : Int) < (k : Int) + d) := by rw [decide_eq_decide]; omega
          rw [HA.out]
          unfold encY
          simp only [e3, Int.natCast_add]
          rfl
        have hb2 : Below wr.heap.size wr (w1.alloc (.cells #[.int .i64 kd, .string (s.extract (k + d) (k + d + nl)), .int .i64 ((k : Int) + d), .int .i64 ((k : Int) + d + nl), .bool (decide ((k : Int) < (k : Int) + d))] 83)) := hb1.alloc hb1.size _
        obtain ⟨fn, tmps, assign, body, hy, hR⟩ := hY pre x _ (abides_below hJa hJs hb2) hlen
        rw [hcell] at hy
        clear hcell
        gi_wp2_with fail
        refine hR.mono ?_
        rintro e W3 (⟨rfl, hJ3, hk3⟩ | ⟨rfl, hJx3⟩)
        · have hb3 := last_box hE1 hk3
          have hE3 := (hE1.below ((Below.refl _ _).alloc (Nat.le_refl _) _)).last hk3
          clear hk3
          have d0 : W3.cell? ⟨w1.heap.size, 0, none⟩ = some (.int .i64 kd) := by rw [Lib.cell_of_heap hb3]; rfl
          have d1 : W3.cell? ⟨w1.heap.size, 1, none⟩ = some (.string (s.extract (k + d) (k + d + nl))) := by rw [Lib.cell_of_heap hb3]; rfl
          have d2 : W3.cell? ⟨w1.heap.size, 2, none⟩ = some (.int .i64 ((k : Int) + d)) := by rw [Lib.cell_of_heap hb3]; rfl
          have d3 : W3.cell? ⟨w1.heap.size, 3, none⟩ = some (.int .i64 ((k : Int) + d + nl)) := by rw [Lib.cell_of_heap hb3]; rfl
          have d4 : W3.cell? ⟨w1.heap.size, 4, none⟩ = some (.bool (decide ((k : Int) < (k : Int) + d))) := by rw [Lib.cell_of_heap hb3]; rfl
          have hmx : Tryz.prog.follows .mixedOrders = true := by kernel_rfl
          have hl3 : w1.heap.size < W3.heap.size := (Array.getElem?_eq_some_iff.1 hb3).1
          have hC := fun W => with_any j kd (k + d) (k + d + nl) (s.extract (k + d) (k + d + nl)) (decide ((k : Int) < (k : Int) + d)) W hj hkd
          simp only [Int.natCast_add] at hC
          have hj' : lineWith j kd (s.extract (k + d) (k + d + nl)).data.toList = j' := by
            have h1 := hst.out
            rw [HA.out] at h1
            exact h1.symm
          rw [hj'] at hC
          clear hj'
          gi_wp2_with fail
          gi_region_with_o (refine ⟨trivial, ?_⟩; gi_at_call 75; refine (callsIn_wide.2 (hC _)).mono ?_; rintro e w' ⟨rfl, rfl⟩)
          all_goals
            gi_wp2
            go_roundw
            case rel =>
              have hbw : Below W3.heap.size W3 (W3.alloc (.cells #[.int .i64 kd, .string (s.extract (k + d) (k + d + nl)), .int .i64 ((k : Int) + d), .int .i64 ((k : Int) + d + nl), .bool (decide ((k : Int) < (k : Int) + d))] 83)).drew := ((Below.refl _ _).alloc (Nat.le_refl _) _).drew
              (repeat apply Exists.intro)
              exact ⟨⟨pre ++ [x], rest, k + d + nl, j', rfl, hstl, by go_num, by omega, by rw [HX.out]; simp, HR.out, abides_below hJa hJ3 hbw, hE3.below hbw⟩, rfl⟩
            case measure =>
              show s.size - (intOf (.int .i64 ((k : Int) + d + nl))).toNat < s.size - (intOf (.int .i64 (k : Int))).toNat
              simp [intOf]; omega
        · gi_wp2
          refine bodyPost_ret (results_none rfl _ _ _) rfl ?_
          exact ⟨⟨_, rfl⟩, .inr ⟨pre ++ [x], ⟨rest, by rw [HX.out]; simp⟩, hJx3⟩⟩
      · rw [yd_err hlt her] at hr
        obtain ⟨x, rfl⟩ : ∃ x, rest = [x] := by
          cases rest with
          | nil => simp at hr
          | cons x r =>
            cases r with
            | nil => exact ⟨x, rfl⟩
            | cons y r => simp at hr
        simp only [List.map_cons, List.map_nil, List.cons.injEq, and_true] at hr
        have hlen : pre.length < (yts s).length := by rw [hx]; simp
        have hEv : ∀ w, Below w.heap.size w w := fun w => Below.refl _ _
        generalize wsAt s k = d at *
        generalize nextAt s.data.toList k j = nx at *
        obtain ⟨kd, nl, er⟩ := nx
        simp only at her hr hnx
        have her0 : 0 < er := by omega
        have hcell : encY x.1 = #[.agg #[.int .i64 0, .string ⟨#[]⟩, .int .i64 0, .int .i64 0, .bool false], .int .i64 er] := by rw [hr]; rfl
        have HX := Lib.hid hx; clear hx hr her
        gi_wp2_with fail
        refine ⟨trivial, (callsIn_wide.2 (hws _)).mono ?_⟩
        rintro e w1 ⟨rfl, rfl⟩
        gi_wp2_with fail
        refine ⟨trivial, (callsIn_wide.2 (hnx _ hEr.lib)).mono ?_⟩
        rintro e w1 ⟨rfl, hb1⟩
        obtain ⟨fn, tmps, assign, body, hy, hR⟩ := hY pre x _ (abides_below hJa hJs hb1) hlen
        rw [hcell] at hy
        clear hcell
        gi_wp2_with fail
        refine hR.mono ?_
        rintro e W3 (⟨rfl, hJ3, hk3⟩ | ⟨rfl, hJx3⟩)
        · gi_wp2
          refine bodyPost_ret (results_none rfl _ _ _) rfl ?_
          exact ⟨⟨_, rfl⟩, .inl ⟨pre ++ [x], HX.out.symm, hJ3⟩⟩
        · gi_wp2
          refine bodyPost_ret (results_none rfl _ _ _) rfl ?_
          exact ⟨⟨_, rfl⟩, .inr ⟨pre ++ [x], by rw [HX.out]; exact List.prefix_rfl, hJx3⟩⟩
    · rw [yd_end hk (by rw [atOf_ws]; omega), List.map_eq_nil_iff] at hr
      subst hr
      rw [List.append_nil] at hx
      have HX := Lib.hid hx; clear hx
      generalize wsAt s k = d at *
      have hkd : (k : Int) + d = s.size := by omega
      gi_wp2_with (refine ⟨trivial, (callsIn_wide.2 (hws _)).mono ?_⟩; rintro e w1 ⟨rfl, rfl⟩)
      refine bodyPost_ret (results_none rfl _ _ _) rfl ?_
      exact ⟨⟨_, rfl⟩, .inl ⟨pre, HX.out.symm, hJs⟩⟩

/-- tokens' ITERATOR: all in order, or a prefix, where a round has said 'no more'. -/
theorem tokens_stops (n : Nat) (hn : 1 ≤ n) (s : ByteArray) (hs : s.size ≤ 200000) (Bn Bl : Nat) (w : World) (hE : Env Bl Bn s w) :
    SeqStopsK Fence.wide n Tryz.prog 72 #[.pointer (some ⟨Bn, 0, none⟩)] (fun x : Yt s => encY x.1)
      (LastKept Bl Bn) (fun ys => ys = yts s) (fun pre => pre <+: yts s) (yts s).length w := fun l J Jx W hW hJ _ hY h0 =>
  tokens1_in n hn s hs l Bn Bl J Jx W.heap.size hJ hY W (hE.below hW) h0

end Go.Proofs.YtaodjipnffgihaaGreat

namespace Go.Proofs.YtaodjipnffgihaaGreat
open Go.RowKit Go.Shelf

attribute [local go_sem] Oper.semAt_some

/-- Every block of cells of Y stands in W as it stood. -/
def KeptC (Y W : World) : Prop := Y.heap.size ≤ W.heap.size ∧ ∀ (k : Nat) (c : Array Value) (T : TypeId) (fz : Nat × Nat), Y.heap[k]? = some (.cells c T fz) → W.heap[k]? = some (.cells c T fz)
theorem KeptC.of_below {Y W : World} (h : Below Y.heap.size Y W) : KeptC Y W := ⟨h.size, fun k _ _ _ hk => (h.block k (Array.getElem?_eq_some_iff.1 hk).1).trans hk⟩
theorem KeptC.own {B : Nat} (Y : World) : OwnFrom B (fun (_ : Unit) W => KeptC Y W) := fun _ X Z row hs hg hr => ⟨Nat.le_trans hs.1 hg.size, fun k c T fz hk => by
  have hX := hs.2 k c T fz hk
  refine (hg.block k (Array.getElem?_eq_some_iff.1 hX).1 (fun e => ?_)).trans hX
  obtain ⟨_, o, ho, hc⟩ := hr k e.symm
  rw [hX] at ho; cases ho; cases hc⟩

theorem libVar_cells {w : World} (h : LibVar w) : ∃ c T fz, w.heap[0]? = some (Obj.cells c T fz) := by
  obtain ⟨m, hm⟩ := h
  cases hb : w.heap[0]? with
  | none => simp [World.cell?, hb] at hm
  | some o => cases o <;> first | exact ⟨_, _, _, rfl⟩ | simp [World.cell?, hb] at hm
theorem libVar_same {w w' : World} (h : LibVar w) (he : w'.heap[0]? = w.heap[0]?) : LibVar w' := by
  obtain ⟨m, hm⟩ := h
  exact ⟨m, (World.cell?_of_block (a := ⟨0, 0, none⟩) he).trans hm⟩

theorem lastKept_put {Bl Bn : Nat} {Y W : World} {l : Nat} {o : Obj} (o' : Obj) (hl : W.heap[l]? = some o) (ho : o.isCells = false) (h : LastKept Bl Bn Y W) : LastKept Bl Bn Y (W.putObj l o') := by
  have hne : ∀ k c T fz, W.heap[k]? = some (Obj.cells c T fz) → (W.putObj l o').heap[k]? = some (Obj.cells c T fz) := fun k c T fz hk => by
    by_cases e : k = l
    · subst e; rw [hl] at hk; cases hk; cases ho
    · exact (World.putObj_heap_other e).trans hk
  have hs : (W.putObj l o').heap.size = W.heap.size := by simp [World.putObj]
  refine ⟨by rw [hs]; exact h.size, fun c fz hk hp => hne _ _ _ _ (h.last c fz hk hp), fun hok => ?_, fun v hv => hne _ _ _ _ (h.box v hv), fun hL => ?_⟩
  · obtain ⟨v, hv, h2⟩ := h.ok hok
    exact ⟨v, hne _ _ _ _ hv, fun k hk => by rw [hs]; exact h2 k hk⟩
  · have hL2 := h.lib hL
    obtain ⟨c, T, fz, hc⟩ := libVar_cells hL2
    exact libVar_same hL2 ((hne _ _ _ _ hc).trans hc.symm)

/-- A round that has appended to the row at Bl. -/
theorem lastKept_app {Bl Bn base m : Nat} {Y W w1 : World} {v v' : Value} {k : Nat} {xs ys : List Value} {tmp : Obj}
    (hG : 0 < base) (hB : base ≤ Bl) (h : KeptC Y W) (hYv : Boxed Y Bl 44 v) (hrow : W.ownsRow base 83 5 v k xs)
    (hown' : w1.ownsRow base 83 5 v' m ys) (hgrow : (W.alloc tmp).grownBy w1 v.ownBlock) : LastKept Bl Bn Y (w1.setCell ⟨Bl, 0, none⟩ v') := by
  have hsz : W.heap.size ≤ w1.heap.size := Nat.le_trans (by simp) hgrow.size
  have hWv : Boxed W Bl 44 v := h.2 _ _ _ _ hYv
  have hv1 : Boxed w1 Bl 44 v := (hWv.alloc tmp).kept hgrow (hWv.not_row (by decide) hrow)
  have hkeep : ∀ j c T fz, Y.heap[j]? = some (Obj.cells c T fz) → v.ownBlock ≠ some j → j ≠ Bl → (w1.setCell ⟨Bl, 0, none⟩ v').heap[j]? = some (Obj.cells c T fz) := fun j c T fz hj h1 h2 => by
    have hW := h.2 _ _ _ _ hj
    have hlt := (Array.getElem?_eq_some_iff.1 hW).1
    rw [Below.heap_setCell _ _ _ _ (fun e => h2 e)]
    refine (hgrow.block j (by simp; omega) (fun e => h1 e.symm)).trans ?_
    exact (Below.heap_alloc _ _ _ (by omega)).trans hW
  have hrowT : ∀ j c T fz, Y.heap[j]? = some (Obj.cells c T fz) → T ≠ 83 → v.ownBlock ≠ some j := fun j c T fz hj hT e => by
    rcases hrow.2 with ⟨rfl, _⟩ | ⟨g, cap, cur, rfl, _, hgb, _⟩
    · simp [Value.ownBlock] at e
    · obtain rfl : g = j := by simpa [Value.ownBlock] using e
      rw [h.2 _ _ _ _ hj] at hgb
      simp only [Option.some.injEq, Obj.cells.injEq] at hgb
      exact hT hgb.2.1
  have hBl : ∀ j c T fz, Y.heap[j]? = some (Obj.cells c T fz) → T ≠ 44 → j ≠ Bl := fun j c T fz hj hT e => by
    subst e
    rw [show Y.heap[j]? = _ from hYv] at hj
    simp only [Option.some.injEq, Obj.cells.injEq] at hj
    exact hT hj.2.1.symm
  refine ⟨by simp; have := h.1; omega, fun c fz hk hp => ?_, fun _ => ?_, fun u hu => ?_, fun hL => ?_⟩
  · rw [ptr_boxed hYv] at hp
    exact hkeep _ _ _ _ hk hp (hBl _ _ _ _ hk (by decide))
  · refine ⟨v', hv1.set v', fun j hj => ?_⟩
    have := (hown'.lt j hj).2
    simpa using this
  · exact hkeep _ _ _ _ hu (hrowT _ _ _ _ hu (by decide)) (hBl _ _ _ _ hu (by decide))
  · obtain ⟨m, hm⟩ := hL
    have hL2 : LibVar Y := ⟨m, hm⟩
    obtain ⟨c, T, fz, hc⟩ := libVar_cells hL2
    refine libVar_same hL2 ((hkeep _ _ _ _ hc (fun e => ?_) (by omega)).trans hc.symm)
    have := (hrow.lt _ e).1
    omega

theorem box_app {W w1 : World} {tmp : Obj} {B base k : Nat} {t e : TypeId} {size : Nat} {u v : Value} {xs : List Value} (hb : Boxed W B t u) (hte : t ≠ e) (hrow : W.ownsRow base e size v k xs) (hgrow : (W.alloc tmp).grownBy w1 v.ownBlock) : Boxed w1 B t u :=
  (hb.alloc tmp).kept hgrow ((hb.alloc tmp).not_row hte (hrow.alloc tmp))

/-! ### Rows of tokens -/

def ydCells (ys : List Yd) : List Value := ys.flatMap fun y => [.int .i64 y.k, .string y.tx, .int .i64 y.a, .int .i64 y.e, .bool y.sp]
def ydCell (y : Yd) : List Value := [.int .i64 y.k, .string y.tx, .int .i64 y.a, .int .i64 y.e, .bool y.sp]
theorem ydCells_snoc (ys : List Yd) (y : Yd) : ydCells (ys ++ [y]) = ydCells ys ++ ydCell y := by simp [ydCells, ydCell]
def ydP {s : ByteArray} (pre : List (Yt s)) : List Yd := pre.map (·.1)
theorem ydP_snoc {s : ByteArray} (pre : List (Yt s)) (x : Yt s) : ydP (pre ++ [x]) = ydP pre ++ [x.1] := by simp [ydP]
theorem ydP_len {s : ByteArray} (pre : List (Yt s)) : (ydP pre).length = pre.length := by simp [ydP]

theorem infoTok : (Tryz.prog.info? 83).map (fun i => (i.zero, i.size, i.bytes)) = some (some (.agg #[.int .i64 0, .string ⟨#[]⟩, .int .i64 0, .int .i64 0, .bool false]), 5, 48) := by kernel_rfl

/-- The tokens of a logical text, as they are handed over. -/
def toksY (s : ByteArray) : List Yd := (toks s.data.toList 0 0).1.map (tokY s)
def firstOf (s : ByteArray) (m : Nat) : List Yd := (toksY s).take m
theorem ydAll_eq (s : ByteArray) : ydAll s = toksY s ++ if (toks s.data.toList 0 0).2 = 0 then [] else [errY (toks s.data.toList 0 0).2] := rfl
theorem toksY_er {s : ByteArray} : ∀ y ∈ toksY s, y.er = 0 := by
  intro y hy
  obtain ⟨t, _, rfl⟩ := List.mem_map.1 hy
  rfl
theorem ydP_pre {s : ByteArray} {q : List (Yt s)} (h : q <+: yts s) : ydP q <+: ydAll s := by
  rw [← yts_val]
  obtain ⟨t, ht⟩ := h
  exact ⟨t.map (·.1), by rw [← ht]; simp [ydP]⟩

/-- Where an error comes, what was ahead of it are all tokens; it is theirs. -/
theorem pre_err {s : ByteArray} {q : List (Yt s)} {x : Yt s} (h : q ++ [x] <+: yts s) (h0 : ∀ p ∈ q, p.1.er = 0) (hx : x.1.er ≠ 0) : ydP q = toksY s ∧ (toks s.data.toList 0 0).2 = x.1.er := by
  have h1 := ydP_pre h
  rw [ydAll_eq, ydP_snoc] at h1
  by_cases he : (toks s.data.toList 0 0).2 = 0
  · exfalso
    rw [if_pos he, List.append_nil] at h1
    have hm : x.1 ∈ toksY s := h1.subset (by simp)
    exact hx (toksY_er _ hm)
  · rw [if_neg he] at h1
    rcases List.prefix_concat_iff.1 h1 with h2 | h2
    · have h3 := List.append_inj' h2 rfl
      have h4 : x.1 = errY (toks s.data.toList 0 0).2 := by simpa using h3.2
      exact ⟨h3.1, by rw [h4]; rfl⟩
    · exfalso
      have hm : x.1 ∈ toksY s := h2.subset (by simp)
      exact hx (toksY_er _ hm)
theorem all_done {s : ByteArray} {q : List (Yt s)} (h : q = yts s) (h0 : ∀ p ∈ q, p.1.er = 0) : ydP q = toksY s ∧ (toks s.data.toList 0 0).2 = 0 := by
  have h1 : ydP q = ydAll s := by rw [h]; exact yts_val s
  rw [ydAll_eq] at h1
  by_cases he : (toks s.data.toList 0 0).2 = 0
  · rw [if_pos he, List.append_nil] at h1; exact ⟨h1, he⟩
  · exfalso
    rw [if_neg he] at h1
    have hm : errY (toks s.data.toList 0 0).2 ∈ ydP q := by rw [h1]; simp
    obtain ⟨p, hp, hpe⟩ := List.mem_map.1 hm
    have := h0 p hp
    rw [hpe] at this
    exact he this
theorem toks_count {l : List UInt8} : ∀ (m e st : Nat), l.length - e ≤ m → e ≤ l.length → (toks l e st).1.length + e ≤ l.length := by
  intro m
  induction m with
  | zero =>
    intro e st hm he
    have := atOf_ge l e
    rw [toks_end he (by omega)]
    simpa using he
  | succ m ih =>
    intro e st hm he
    have hg := atOf_ge l e
    by_cases h1 : l.length ≤ atOf l e
    · rw [toks_end he h1]; simpa using he
    · by_cases h2 : (nextAt l e st).2.2 = 0
      · rw [toks_cons (by omega) h2]
        have h3 := nextAt_len (by omega) h2
        have h5 : (tokAt l e st).e = atOf l e + (nextAt l e st).2.1 := rfl
        have := ih (tokAt l e st).e (stAt l e st) (by rw [h5]; omega) (by rw [h5]; exact h3.2)
        simp only [List.length_cons]
        rw [h5] at this
        rw [h5]
        omega
      · rw [toks_err (by omega) h2]; simpa using he
theorem toksY_len (s : ByteArray) : (toksY s).length ≤ s.size := by
  have := toks_count (l := s.data.toList) _ 0 0 (Nat.le_refl _) (Nat.zero_le _)
  unfold toksY
  rw [List.length_map]
  exact this
theorem yts_len (s : ByteArray) : (yts s).length ≤ s.size + 1 := by
  have h := toksY_len s
  have h2 : (yts s).length = (ydAll s).length := by rw [← yts_val, List.length_map]
  rw [h2, ydAll_eq, List.length_append]
  split <;> simp <;> omega

theorem cell5_new (w : World) (a b c d e : Value) (t : TypeId) : ∀ j u, [a, b, c, d, e][j]? = some u → (w.alloc (.cells #[a, b, c, d, e] t)).cell? ((⟨w.heap.size, 0, none⟩ : Addr).add j) = some u := by
  intro j u hj
  match j, hj with
  | 0, hj => simp at hj; subst hj; simp [Addr.add]
  | 1, hj => simp at hj; subst hj; simp [Addr.add]
  | 2, hj => simp at hj; subst hj; simp [Addr.add]
  | 3, hj => simp at hj; subst hj; simp [Addr.add]
  | 4, hj => simp at hj; subst hj; simp [Addr.add]
  | j + 5, hj => simp at hj

def TrY {s : ByteArray} (_ : List (Yt s)) (_ : Value) : Prop := True
def erOk {s : ByteArray} (m : Nat) (pre : List (Yt s)) : Prop := (∀ p ∈ pre, p.1.er = 0) ∧ pre.length < m

/-- How the loop is left: there are enough, or an error has come. -/
def StopF {s : ByteArray} (m : Nat) (q pre : List (Yt s)) : Prop := (pre = q ∧ (∀ p ∈ q, p.1.er = 0) ∧ q.length = m) ∨ ∃ x, pre = q ++ [x] ∧ x.1.er ≠ 0 ∧ erOk m q
end Go.Proofs.YtaodjipnffgihaaGreat

namespace Go.Proofs.YtaodjipnffgihaaGreat
open Go.RowKit Go.Shelf

/-! ### Rows of tokens, element by element -/

theorem ydCells_get {ys : List Yd} {k : Nat} {y : Yd} (h : ys[k]? = some y) (j : Nat) (hj : j < 5) : (ydCells ys)[k * 5 + j]? = (ydCell y)[j]? := by
  induction ys generalizing k with
  | nil => simp at h
  | cons q ys ih =>
    have hc : ydCells (q :: ys) = ydCell q ++ ydCells ys := by simp [ydCells, ydCell]
    cases k with
    | zero =>
      simp only [List.getElem?_cons_zero, Option.some.injEq] at h
      subst h
      rw [hc, List.getElem?_append_left (by simp [ydCell]; omega)]
      simp
    | succ k =>
      simp only [List.getElem?_cons_succ] at h
      rw [hc, List.getElem?_append_right (by simp [ydCell]; omega)]
      have : (k + 1) * 5 + j - (ydCell q).length = k * 5 + j := by simp [ydCell]; omega
      rw [this]
      exact ih h
/-- A row of tokens lies at g. -/
def TokRow (W : World) (g : Nat) (ys : List Yd) : Prop := ∀ i y, ys[i]? = some y → W.cell? ⟨g, i * 5, none⟩ = some (.int .i64 y.k) ∧ W.cell? ⟨g, i * 5 + 1, none⟩ = some (.string y.tx) ∧ W.cell? ⟨g, i * 5 + 2, none⟩ = some (.int .i64 y.a) ∧ W.cell? ⟨g, i * 5 + 3, none⟩ = some (.int .i64 y.e) ∧ W.cell? ⟨g, i * 5 + 4, none⟩ = some (.bool y.sp)
theorem tokRow_of {W : World} {base cap : Nat} {a : Option Addr} {ys : List Yd} (hn : 0 < ys.length) (h : W.ownsRow base 83 5 (.slice a ys.length cap) ys.length (ydCells ys)) : ∃ g, a = some ⟨g, 0, none⟩ ∧ base ≤ g ∧ g < W.heap.size ∧ TokRow W g ys := by
  obtain ⟨g, ha, hg, hc⟩ := row_pos hn h
  subst ha
  refine ⟨g, rfl, (h.lt g rfl).1, hg, fun i y hy => ?_⟩
  exact ⟨hc _ _ (ydCells_get hy 0 (by decide)), hc _ _ (ydCells_get hy 1 (by decide)), hc _ _ (ydCells_get hy 2 (by decide)), hc _ _ (ydCells_get hy 3 (by decide)), hc _ _ (ydCells_get hy 4 (by decide))⟩
theorem TokRow.below {B g : Nat} {W W' : World} {ys : List Yd} (h : TokRow W g ys) (hb : Below B W W') (hg : g < B) : TokRow W' g ys := fun i y hy => by
  have hc : ∀ o, W'.cell? ⟨g, o, none⟩ = W.cell? ⟨g, o, none⟩ := fun o => hb.cell (p := ⟨g, o, none⟩) hg
  rw [hc, hc, hc, hc, hc]
  exact h i y hy

end Go.Proofs.YtaodjipnffgihaaGreat

namespace Go.Proofs.YtaodjipnffgihaaGreat
open Go.RowKit Go.Shelf

/-- A token of any list. -/
structure Tz where
  k : Int
  tx : ByteArray
  a : Int
  e : Int
  sp : Bool
def tzCell (t : Tz) : List Value := [.int .i64 t.k, .string t.tx, .int .i64 t.a, .int .i64 t.e, .bool t.sp]
def tzCells (ts : List Tz) : List Value := ts.flatMap tzCell
theorem tzCells_snoc (ts : List Tz) (t : Tz) : tzCells (ts ++ [t]) = tzCells ts ++ tzCell t := by simp [tzCells, tzCell]
def TzRow (W : World) (g : Nat) (ts : List Tz) : Prop := ∀ i t, ts[i]? = some t → W.cell? ⟨g, i * 5, none⟩ = some (.int .i64 t.k) ∧ W.cell? ⟨g, i * 5 + 1, none⟩ = some (.string t.tx) ∧ W.cell? ⟨g, i * 5 + 2, none⟩ = some (.int .i64 t.a) ∧ W.cell? ⟨g, i * 5 + 3, none⟩ = some (.int .i64 t.e) ∧ W.cell? ⟨g, i * 5 + 4, none⟩ = some (.bool t.sp)
theorem TzRow.below {B g : Nat} {W W' : World} {ys : List Tz} (h : TzRow W g ys) (hb : Below B W W') (hg : g < B) : TzRow W' g ys := fun i y hy => by
  have hc : ∀ o, W'.cell? ⟨g, o, none⟩ = W.cell? ⟨g, o, none⟩ := fun o => hb.cell (p := ⟨g, o, none⟩) hg
  rw [hc, hc, hc, hc, hc]
  exact h i y hy
def tzOf (y : Yd) : Tz := ⟨y.k, y.tx, y.a, y.e, y.sp⟩
theorem TokRow.tz {W : World} {g : Nat} {ys : List Yd} (h : TokRow W g ys) : TzRow W g (ys.map tzOf) := fun i t ht => by
  rw [List.getElem?_map] at ht
  cases hy : ys[i]? with
  | none => rw [hy] at ht; cases ht
  | some y => rw [hy] at ht; cases ht; exact h i y hy

/-- Left out? -/
def outK (k : Int) : Bool := k == 8 || k == 9
def bareStep (q : List Tz × Bool) (t : Tz) : List Tz × Bool := if outK t.k then (q.1, true) else (q.1 ++ [{ t with sp := t.sp || q.2 }], false)
def bareS (ts : List Tz) : List Tz × Bool := ts.foldl bareStep ([], false)
theorem bareS_snoc {ts : List Tz} {k : Nat} {t : Tz} (h : ts[k]? = some t) : bareS (ts.take (k + 1)) = bareStep (bareS (ts.take k)) t := by
  unfold bareS
  rw [List.take_add_one, h, List.foldl_append]
  rfl
theorem bareS_len (ts : List Tz) : (bareS ts).1.length ≤ ts.length := by
  have : ∀ (ts : List Tz) (q : List Tz × Bool), (ts.foldl bareStep q).1.length ≤ q.1.length + ts.length := by
    intro ts
    induction ts with
    | nil => intro q; exact Nat.le_refl _
    | cons t ts ih =>
      intro q
      rw [List.foldl_cons]
      refine Nat.le_trans (ih _) ?_
      unfold bareStep
      split <;> simp <;> omega
  simpa [bareS] using this ts ([], false)

theorem infoTz : (Tryz.prog.info? 83).map (fun i => (i.zero, i.size, i.bytes)) = some (some (.agg #[.int .i64 0, .string ⟨#[]⟩, .int .i64 0, .int .i64 0, .bool false]), 5, 48) := infoTok

theorem clone_any (s : ByteArray) (w : World) (hs : s.size ≤ 281474976710656) :
    Calls Tryz.prog 80 #[.string s] w fun e w' => e = .returned (.string s) ∧ Below w.heap.size w w' := by
  have H := fun w' => Tryz.stringslite_Clone s w' hs
  go_enter Tryz.func80, Tryz.ntmps80
  go_wp2_with (go_at_call 98; refine (H _).mono ?_; rintro e w' ⟨rfl, hb⟩)
  go_ret
  exact ⟨rfl, hb⟩

theorem row_below {B : Nat} {e : TypeId} {k : Nat} {v : Value} {n : Nat} {xs : List Value} {w w' : World} (h : w.ownsRow B e k v n xs) (hb : Below w.heap.size w w') : w'.ownsRow B e k v n xs := by
  obtain ⟨h1, h2⟩ := h
  refine ⟨h1, ?_⟩
  rcases h2 with h2 | ⟨g, cap, cur, hv, hg, hh, r⟩
  · exact .inl h2
  · exact .inr ⟨g, cap, cur, hv, hg, (hb.block g (Array.getElem?_eq_some_iff.1 hh).1).trans hh, r⟩

/-- What a made token's block is. -/
theorem tz_box {w : World} {B : Nat} {t : Tz} (h : w.heap[B]? = some (.cells (tzCell t).toArray 83 (0, 0))) :
    w.cell? ⟨B, 0, none⟩ = some (.int .i64 t.k) ∧ w.cell? ⟨B, 1, none⟩ = some (.string t.tx) ∧ w.cell? ⟨B, 2, none⟩ = some (.int .i64 t.a) ∧ w.cell? ⟨B, 3, none⟩ = some (.int .i64 t.e) ∧ w.cell? ⟨B, 4, none⟩ = some (.bool t.sp) ∧
      w.frozen? ⟨B, 1, none⟩ = false ∧ w.frozen? ⟨B, 4, none⟩ = false := by
  refine ⟨?_, ?_, ?_, ?_, ?_, ?_, ?_⟩
  all_goals simp [World.cell?, World.frozen?, h, tzCell]

theorem row_ne {w : World} {base n : Nat} {e : TypeId} {size : Nat} {v : Value} {xs : List Value} (h : w.ownsRow base e size v n xs) : v.ownBlock ≠ some w.heap.size := fun e => by
  have := (h.lt _ e).2
  omega

/-- Behind the call of Clone. -/
theorem bare_call {w wr w2 : World} {k : Int} {tx : ByteArray} {a e : Int} {sp : Bool} {v : Value} {n : Nat} {xs : List Value} (hr : wr.ownsRow w.heap.size 83 5 v n xs) (hb : Below w.heap.size w wr)
    (h : Below (wr.alloc (.cells #[.int .i64 k, .string tx, .int .i64 a, .int .i64 e, .bool sp] 83)).heap.size (wr.alloc (.cells #[.int .i64 k, .string tx, .int .i64 a, .int .i64 e, .bool sp] 83)) w2) :
    (w2.cell? ⟨wr.heap.size, 0, none⟩ = some (.int .i64 k) ∧ w2.cell? ⟨wr.heap.size, 1, none⟩ = some (.string tx) ∧ w2.cell? ⟨wr.heap.size, 2, none⟩ = some (.int .i64 a) ∧ w2.cell? ⟨wr.heap.size, 3, none⟩ = some (.int .i64 e) ∧ w2.cell? ⟨wr.heap.size, 4, none⟩ = some (.bool sp) ∧
      w2.frozen? ⟨wr.heap.size, 1, none⟩ = false ∧ w2.frozen? ⟨wr.heap.size, 4, none⟩ = false) ∧
      (∀ u u', ((w2.setCell ⟨wr.heap.size, 1, none⟩ u).setCell ⟨wr.heap.size, 4, none⟩ u').ownsRow w.heap.size 83 5 v n xs ∧ Below w.heap.size w ((w2.setCell ⟨wr.heap.size, 1, none⟩ u).setCell ⟨wr.heap.size, 4, none⟩ u')) ∧ w.heap.size ≤ w2.heap.size := by
  have hne := row_ne hr
  have hx := (h.block wr.heap.size (by simp)).trans (World.alloc_heap_new wr _)
  have hbs := hb.size
  refine ⟨tz_box (t := ⟨k, tx, a, e, sp⟩) hx, fun u u' => ⟨?_, ?_⟩, ((hb.alloc hbs _).trans (h.mono (by simp; omega))).size⟩
  · exact ownsRow_setCell_other (a := ⟨wr.heap.size, 4, none⟩) (ownsRow_setCell_other (a := ⟨wr.heap.size, 1, none⟩) (row_below (hr.alloc _) h) hne u) hne u'
  · exact (((hb.alloc hbs _).trans (h.mono (by simp; omega))).setCell (p := ⟨wr.heap.size, 1, none⟩) hbs u).setCell (p := ⟨wr.heap.size, 4, none⟩) hbs u'

theorem cell5_behind (w2 : World) (B : Nat) (u u' a b c d e : Value) (t : TypeId) : ∀ j x, [a, b, c, d, e][j]? = some x → (((w2.setCell ⟨B, 1, none⟩ u).setCell ⟨B, 4, none⟩ u').alloc (.cells #[a, b, c, d, e] t)).cell? ((⟨w2.heap.size, 0, none⟩ : Addr).add j) = some x := by
  have h : ((w2.setCell ⟨B, 1, none⟩ u).setCell ⟨B, 4, none⟩ u').heap.size = w2.heap.size := by simp [World.setCell]
  have := cell5_new ((w2.setCell ⟨B, 1, none⟩ u).setCell ⟨B, 4, none⟩ u') a b c d e t
  rw [h] at this
  exact this

set_option maxRecDepth 100000 in
set_option maxHeartbeats 4000000 in
theorem bare_any (ts : List Tz) (n cap : Nat) (a : Option Addr) (w : World) (hn : ts.length = n) (hn2 : n * 48 ≤ 140737488355328) (ht : ∀ t ∈ ts, t.tx.size ≤ 281474976710656)
    (hT : 0 < n → ∃ g, a = some ⟨g, 0, none⟩ ∧ g < w.heap.size ∧ TzRow w g ts) :
    Calls Tryz.prog 58 #[.slice a n cap] w fun e w' => (∃ v, e = .returned v ∧ w'.ownsRow w.heap.size 83 5 v (bareS ts).1.length (tzCells (bareS ts).1)) ∧ Below w.heap.size w w' := by
  obtain ⟨i0, hi, hz0, hz1, hz2⟩ := info_parts infoTz
  have HN := Lib.hid hn
  have HT := Lib.hid hT
  have HX := Lib.hid ht
  clear hn hT ht
  go_enter Tryz.func58, Tryz.ntmps58
  go_wp2
  go_loopg [3, 4, 6, 9] n (fun g v lo _ i wx => ∃ (k : Nat) (acc : List Tz) (ah : Bool), k ≤ n ∧ i = .int .i64 k ∧ g = n - k ∧ lo = .bool ah ∧ Hid (bareS (ts.take k) = (acc, ah)) ∧ wx.ownsRow w.heap.size 83 5 v acc.length (tzCells acc) ∧ Below w.heap.size w wx)
  case atStart => exact ⟨0, [], false, Nat.zero_le _, rfl, rfl, rfl, Lib.hid rfl, World.ownsRow_nil _ _ _ _, Below.refl _ _⟩
  case round =>
    obtain ⟨k, acc, ah, hk, rfl, rfl, rfl, HB, hrow, hbx⟩ := hrel
    by_cases hlt : k < n
    · obtain ⟨t, ht⟩ : ∃ t, ts[k]? = some t := ⟨_, List.getElem?_eq_getElem (by rw [HN.out]; exact hlt)⟩
      obtain ⟨g, rfl, hg1, hr⟩ := HT.out (by omega)
      obtain ⟨c0, c1, c2, c3, c4⟩ := (hr.below hbx hg1) k t ht
      have hX := HX.out t (List.mem_of_getElem? ht)
      have hB2 := bareS_snoc ht
      rw [HB.out] at hB2
      have HB2 := Lib.hid hB2
      have hal : acc.length ≤ k := by
        have := bareS_len (ts.take k)
        rw [HB.out, List.length_take] at this
        exact Nat.le_trans this (Nat.min_le_left _ _)
      have hne := row_ne hrow
      have hbs := hbx.size
      clear hr ht hB2
      have j1 : (k : Int) < (n : Int) := by omega
      have j0 : (0 : Int) ≤ (k : Int) := by omega
      obtain ⟨tk, tt, ta, te, tsp⟩ := t
      simp only at c0 c1 c2 c3 c4 hX
      cases h8 : (tk == 8)
      · cases h9 : (tk == 9)
        · have hst : bareStep (acc, ah) ⟨tk, tt, ta, te, tsp⟩ = (acc ++ [⟨tk, tt, ta, te, tsp || ah⟩], false) := by
            unfold bareStep outK; simp only [h8, h9]; rfl
          have HS := Lib.hid hst
          have HC := fun w' => clone_any tt w' hX
          clear hst
          cases tsp
          · have HE : Hid (bareS (ts.take (k + 1)) = (acc ++ [⟨tk, tt, ta, te, ah⟩], false)) := Lib.hid (HB2.out.trans HS.out)
            clear HB2 HS
            go_wp2_with (first
              | (go_at_call 80; refine (HC _).mono ?_; rintro e w2 ⟨rfl, hb2⟩; obtain ⟨⟨d0, d1, d2, d3, d4, f1, f4⟩, hr4, hs2⟩ := bare_call hrow hbx hb2; have HR4 := Lib.hid (hr4 (.string tt) (.bool ah)); clear hr4)
              | (at_builtin; refine wpList_append_own _ rfl _ _ 44 rfl w.heap.size 83 i0 (.agg #[.int .i64 0, .string ⟨#[]⟩, .int .i64 0, .int .i64 0, .bool false]) 5 48 Tryz.underlying44 hi hz0 hz1 hz2 rfl (by decide) _ _ _ rfl (HR4.out.1.alloc _) ⟨w2.heap.size, 0, none⟩ 1 1 (tzCell ⟨tk, tt, ta, te, ah⟩) rfl rfl (cell5_behind _ _ _ _ _ _ _ _ _ _) (by simp [Value.oneCell', tzCell]) (by unfold maxLen; omega) (by omega) (by simp [World.setCell]; omega) ?_; intro v' w3 hown hgrow hn3; clear hn3; have hB4 := HR4.out.2; have hL4 := HR4.out.1.lt; have hB5 := (hB4.alloc hB4.size _).grown hgrow (by have := hB4.size; simp; omega) (fun j e => (hL4 j e).1)))
            go_roundg (n - (k + 1))
            case rel =>
              refine ⟨k + 1, _, false, by omega, by go_num, rfl, rfl, HE, ?_, hB5⟩
              rw [List.length_append, tzCells_snoc]
              exact hown
            case measure => omega
          · have HE : Hid (bareS (ts.take (k + 1)) = (acc ++ [⟨tk, tt, ta, te, true⟩], false)) := Lib.hid (HB2.out.trans HS.out)
            clear HB2 HS
            go_wp2_with (first
              | (go_at_call 80; refine (HC _).mono ?_; rintro e w2 ⟨rfl, hb2⟩; obtain ⟨⟨d0, d1, d2, d3, d4, f1, f4⟩, hr4, hs2⟩ := bare_call hrow hbx hb2; have HR4 := Lib.hid (hr4 (.string tt) (.bool true)); clear hr4)
              | (at_builtin; refine wpList_append_own _ rfl _ _ 44 rfl w.heap.size 83 i0 (.agg #[.int .i64 0, .string ⟨#[]⟩, .int .i64 0, .int .i64 0, .bool false]) 5 48 Tryz.underlying44 hi hz0 hz1 hz2 rfl (by decide) _ _ _ rfl (HR4.out.1.alloc _) ⟨w2.heap.size, 0, none⟩ 1 1 (tzCell ⟨tk, tt, ta, te, true⟩) rfl rfl (cell5_behind _ _ _ _ _ _ _ _ _ _) (by simp [Value.oneCell', tzCell]) (by unfold maxLen; omega) (by omega) (by simp [World.setCell]; omega) ?_; intro v' w3 hown hgrow hn3; clear hn3; have hB4 := HR4.out.2; have hL4 := HR4.out.1.lt; have hB5 := (hB4.alloc hB4.size _).grown hgrow (by have := hB4.size; simp; omega) (fun j e => (hL4 j e).1)))
            go_roundg (n - (k + 1))
            case rel =>
              refine ⟨k + 1, _, false, by omega, by go_num, rfl, rfl, HE, ?_, hB5⟩
              rw [List.length_append, tzCells_snoc]
              exact hown
            case measure => omega
        · have hst : bareStep (acc, ah) ⟨tk, tt, ta, te, tsp⟩ = (acc, true) := by unfold bareStep outK; simp only [h8, h9]; rfl
          rw [hst] at HB2
          clear hst
          go_wp2
          go_roundg (n - (k + 1))
          case rel => exact ⟨k + 1, acc, true, by omega, by go_num, rfl, rfl, HB2, hrow.alloc _, hbx.alloc hbs _⟩
          case measure => omega
      · have hst : bareStep (acc, ah) ⟨tk, tt, ta, te, tsp⟩ = (acc, true) := by unfold bareStep outK; simp only [h8]; rfl
        rw [hst] at HB2
        clear hst
        go_wp2
        go_roundg (n - (k + 1))
        case rel => exact ⟨k + 1, acc, true, by omega, by go_num, rfl, rfl, HB2, hrow.alloc _, hbx.alloc hbs _⟩
        case measure => omega
    · obtain rfl : k = n := by omega
      have HB3 := Lib.hid (show bareS ts = (acc, ah) by rw [← HB.out, List.take_of_length_le (by rw [HN.out]; exact Nat.le_refl _)])
      go_wp2
      go_ret
      rw [HB3.out]
      exact ⟨⟨_, rfl, hrow⟩, hbx⟩

end Go.Proofs.YtaodjipnffgihaaGreat

namespace Go.Proofs.YtaodjipnffgihaaGreat
open Go.RowKit Go.Shelf

def TzAt (W : World) (b o : Nat) (ts : List Tz) : Prop := ∀ i t, ts[i]? = some t → W.cell? ⟨b, o + i * 5, none⟩ = some (.int .i64 t.k) ∧ W.cell? ⟨b, o + i * 5 + 1, none⟩ = some (.string t.tx) ∧ W.cell? ⟨b, o + i * 5 + 2, none⟩ = some (.int .i64 t.a) ∧ W.cell? ⟨b, o + i * 5 + 3, none⟩ = some (.int .i64 t.e) ∧ W.cell? ⟨b, o + i * 5 + 4, none⟩ = some (.bool t.sp)
theorem TzAt.below {B b o : Nat} {W W' : World} {ys : List Tz} (h : TzAt W b o ys) (hb : Below B W W') (hg : b < B) : TzAt W' b o ys := fun i y hy => by
  have hc : ∀ o, W'.cell? ⟨b, o, none⟩ = W.cell? ⟨b, o, none⟩ := fun o => hb.cell (p := ⟨b, o, none⟩) hg
  rw [hc, hc, hc, hc, hc]
  exact h i y hy
theorem TzRow.at {W : World} {g : Nat} {ts : List Tz} (h : TzRow W g ts) : TzAt W g 0 ts := fun i t ht => by
  rw [Nat.zero_add]; exact h i t ht

/-- Is what the last token says what bareS keeps? -/
theorem bareS_ah {ts : List Tz} {j : Nat} {p : Tz} (h : ts[j]? = some p) : (bareS (ts.take (j + 1))).2 = outK p.k := by
  rw [bareS_snoc h]
  unfold bareStep
  cases outK p.k <;> rfl

theorem cell5_two (w : World) (o : Obj) (a b c d e : Value) (t : TypeId) : ∀ j x, [a, b, c, d, e][j]? = some x → ((w.alloc o).alloc (.cells #[a, b, c, d, e] t)).cell? ((⟨w.heap.size + 1, 0, none⟩ : Addr).add j) = some x := by
  have := cell5_new (w.alloc o) a b c d e t
  rw [World.size_alloc] at this
  exact this

set_option maxRecDepth 100000 in
set_option maxHeartbeats 4000000 in
theorem rbare_any (ts : List Tz) (n cap : Nat) (a : Option Addr) (w : World) (hn : ts.length = n) (hn2 : n * 48 ≤ 140737488355328)
    (hT : 0 < n → ∃ b o, a = some ⟨b, o, none⟩ ∧ b < w.heap.size ∧ TzAt w b o ts) :
    Calls Tryz.prog 40 #[.slice a n cap] w fun e w' => (∃ v, e = .returned v ∧ w'.ownsRow w.heap.size 83 5 v (bareS ts).1.length (tzCells (bareS ts).1)) ∧ Below w.heap.size w w' := by
  obtain ⟨i0, hi, hz0, hz1, hz2⟩ := info_parts infoTz
  have HN := Lib.hid hn
  have HT := Lib.hid hT
  clear hn hT
  go_enter Tryz.func40, Tryz.ntmps40
  go_wp2
  go_loopg [3, 4, 5] n (fun g v i _ wx => ∃ (k : Nat) (acc : List Tz) (ah : Bool), k ≤ n ∧ i = .int .i64 k ∧ g = n - k ∧ Hid (bareS (ts.take k) = (acc, ah)) ∧ wx.ownsRow w.heap.size 83 5 v acc.length (tzCells acc) ∧ Below w.heap.size w wx)
  case atStart => exact ⟨0, [], false, Nat.zero_le _, rfl, rfl, Lib.hid rfl, World.ownsRow_nil _ _ _ _, Below.refl _ _⟩
  case round =>
    obtain ⟨k, acc, ah, hk, rfl, rfl, HB, hrow, hbx⟩ := hrel
    by_cases hlt : k < n
    · obtain ⟨t, ht⟩ : ∃ t, ts[k]? = some t := ⟨_, List.getElem?_eq_getElem (by rw [HN.out]; exact hlt)⟩
      obtain ⟨b, o, rfl, hg1, hr⟩ := HT.out (by omega)
      have hr := hr.below hbx hg1
      obtain ⟨c0, c1, c2, c3, c4⟩ := hr k t ht
      have hB2 := bareS_snoc ht
      rw [HB.out] at hB2
      have HB2 := Lib.hid hB2
      have hal : acc.length ≤ k := by
        have := bareS_len (ts.take k)
        rw [HB.out, List.length_take] at this
        exact Nat.le_trans this (Nat.min_le_left _ _)
      have hbs := hbx.size
      clear ht hB2
      have j1 : (k : Int) < (n : Int) := by omega
      have j0 : (0 : Int) ≤ (k : Int) := by omega
      obtain ⟨tk, tt, ta, te, tsp⟩ := t
      simp only at c0 c1 c2 c3 c4
      cases h8 : (tk == 8)
      · cases h9 : (tk == 9)
        · have hst : bareStep (acc, ah) ⟨tk, tt, ta, te, tsp⟩ = (acc ++ [⟨tk, tt, ta, te, tsp || ah⟩], false) := by
            unfold bareStep outK; simp only [h8, h9]; rfl
          have HE := Lib.hid (HB2.out.trans hst)
          clear hst HB2
          by_cases hk0 : k = 0
          · have hah : ah = false := by
              have := HB.out
              rw [hk0] at this
              exact (congrArg Prod.snd this).symm
            subst hah
            have hz : ¬ (0 : Int) < (k : Int) := by omega
            clear hk0 hr
            have HE2 : Hid (bareS (ts.take (k + 1)) = (acc ++ [⟨tk, tt, ta, te, tsp⟩], false)) := Lib.hid (by rw [HE.out]; simp)
            clear HE
            go_wp2_with (at_builtin; refine wpList_append_own _ rfl _ _ 44 rfl w.heap.size 83 i0 (.agg #[.int .i64 0, .string ⟨#[]⟩, .int .i64 0, .int .i64 0, .bool false]) 5 48 Tryz.underlying44 hi hz0 hz1 hz2 rfl (by decide) _ _ _ rfl ((hrow.alloc _).alloc _) ⟨wr.heap.size + 1, 0, none⟩ 1 1 (tzCell ⟨tk, tt, ta, te, tsp⟩) rfl rfl (cell5_two _ _ _ _ _ _ _ _) (by simp [Value.oneCell', tzCell]) (by unfold maxLen; omega) (by omega) (by simp; omega) ?_; intro v' w3 hown hgrow hn3; clear hn3; have hL4 := hrow.lt; have hB4 := (hbx.alloc hbs (.cells #[.int .i64 tk, .string tt, .int .i64 ta, .int .i64 te, .bool tsp] 83)); have hB5 := (hB4.alloc hB4.size _).grown hgrow (by have := hB4.size; simp; omega) (fun j e => (hL4 j e).1))
            go_roundg (n - (k + 1))
            case rel =>
              refine ⟨k + 1, _, false, by omega, by go_num, rfl, HE2, ?_, hB5⟩
              rw [List.length_append, tzCells_snoc]
              exact hown
            case measure => omega
          · obtain ⟨j, rfl⟩ : ∃ j, k = j + 1 := ⟨k - 1, by omega⟩
            obtain ⟨p, hp⟩ : ∃ p, ts[j]? = some p := ⟨_, List.getElem?_eq_getElem (by rw [HN.out]; omega)⟩
            obtain ⟨p0, -⟩ := hr j p hp
            have hah : outK p.k = ah := by rw [← bareS_ah hp, HB.out]
            obtain ⟨pk, pt, pa, pe, psp⟩ := p
            simp only at p0 hah
            have p1 : (wr.alloc (.cells #[.int .i64 tk, .string tt, .int .i64 ta, .int .i64 te, .bool tsp] 83)).cell? ⟨b, o + j * 5, none⟩ = some (.int .i64 pk) := ((below1 wr _).cell (p := ⟨b, o + j * 5, none⟩) (show b < wr.heap.size by omega)).trans p0
            clear hk0 hr hp
            rw [show ((j + 1 : Nat) : Int) = (j : Int) + 1 from rfl] at j0 j1 ⊢
            have j2 : ((j : Int) + 1).toNat = j + 1 := by omega
            have j3 : (0 : Int) ≤ (j : Int) := by omega
            have j4 : (j : Int) < (n : Int) := by omega
            have j5 : (0 : Int) < (j : Int) + 1 := by omega
            cases p8 : (pk == 8)
            · cases p9 : (pk == 9)
              · obtain rfl : ah = false := by rw [← hah]; unfold outK; rw [p8, p9]; rfl
                clear hah
                have HE2 : Hid (bareS (ts.take (j + 1 + 1)) = (acc ++ [⟨tk, tt, ta, te, tsp⟩], false)) := Lib.hid (by rw [HE.out]; simp)
                clear HE
                go_wp2_with (at_builtin; refine wpList_append_own _ rfl _ _ 44 rfl w.heap.size 83 i0 (.agg #[.int .i64 0, .string ⟨#[]⟩, .int .i64 0, .int .i64 0, .bool false]) 5 48 Tryz.underlying44 hi hz0 hz1 hz2 rfl (by decide) _ _ _ rfl ((hrow.alloc _).alloc _) ⟨wr.heap.size + 1, 0, none⟩ 1 1 (tzCell ⟨tk, tt, ta, te, tsp⟩) rfl rfl (cell5_two _ _ _ _ _ _ _ _) (by simp [Value.oneCell', tzCell]) (by unfold maxLen; omega) (by omega) (by simp; omega) ?_; intro v' w3 hown hgrow hn3; clear hn3; have hL4 := hrow.lt; have hB4 := (hbx.alloc hbs (.cells #[.int .i64 tk, .string tt, .int .i64 ta, .int .i64 te, .bool tsp] 83)); have hB5 := (hB4.alloc hB4.size _).grown hgrow (by have := hB4.size; simp; omega) (fun j e => (hL4 j e).1))
                go_roundg (n - (j + 1 + 1))
                case rel =>
                  refine ⟨j + 1 + 1, _, false, by omega, by go_num, rfl, HE2, ?_, hB5⟩
                  rw [List.length_append, tzCells_snoc]
                  exact hown
                case measure => omega
              · obtain rfl : ah = true := by rw [← hah]; unfold outK; rw [p8, p9]; rfl
                clear hah
                have HE2 : Hid (bareS (ts.take (j + 1 + 1)) = (acc ++ [⟨tk, tt, ta, te, true⟩], false)) := Lib.hid (by rw [HE.out]; simp)
                clear HE
                go_wp2_with (at_builtin; refine wpList_append_own _ rfl _ _ 44 rfl w.heap.size 83 i0 (.agg #[.int .i64 0, .string ⟨#[]⟩, .int .i64 0, .int .i64 0, .bool false]) 5 48 Tryz.underlying44 hi hz0 hz1 hz2 rfl (by decide) _ _ _ rfl ((hrow.alloc _).alloc _) ⟨wr.heap.size + 1, 0, none⟩ 1 1 (tzCell ⟨tk, tt, ta, te, true⟩) rfl rfl (cell5_two _ _ _ _ _ _ _ _) (by simp [Value.oneCell', tzCell]) (by unfold maxLen; omega) (by omega) (by simp; omega) ?_; intro v' w3 hown hgrow hn3; clear hn3; have hL4 := hrow.lt; have hB4 := (hbx.alloc hbs (.cells #[.int .i64 tk, .string tt, .int .i64 ta, .int .i64 te, .bool true] 83)); have hB5 := (hB4.alloc hB4.size _).grown hgrow (by have := hB4.size; simp; omega) (fun j e => (hL4 j e).1))
                go_roundg (n - (j + 1 + 1))
                case rel =>
                  refine ⟨j + 1 + 1, _, false, by omega, by go_num, rfl, HE2, ?_, hB5⟩
                  rw [List.length_append, tzCells_snoc]
                  exact hown
                case measure => omega
            · obtain rfl : ah = true := by rw [← hah]; unfold outK; rw [p8]; rfl
              clear hah
              have HE2 : Hid (bareS (ts.take (j + 1 + 1)) = (acc ++ [⟨tk, tt, ta, te, true⟩], false)) := Lib.hid (by rw [HE.out]; simp)
              clear HE
              go_wp2_with (at_builtin; refine wpList_append_own _ rfl _ _ 44 rfl w.heap.size 83 i0 (.agg #[.int .i64 0, .string ⟨#[]⟩, .int .i64 0, .int .i64 0, .bool false]) 5 48 Tryz.underlying44 hi hz0 hz1 hz2 rfl (by decide) _ _ _ rfl ((hrow.alloc _).alloc _) ⟨wr.heap.size + 1, 0, none⟩ 1 1 (tzCell ⟨tk, tt, ta, te, true⟩) rfl rfl (cell5_two _ _ _ _ _ _ _ _) (by simp [Value.oneCell', tzCell]) (by unfold maxLen; omega) (by omega) (by simp; omega) ?_; intro v' w3 hown hgrow hn3; clear hn3; have hL4 := hrow.lt; have hB4 := (hbx.alloc hbs (.cells #[.int .i64 tk, .string tt, .int .i64 ta, .int .i64 te, .bool true] 83)); have hB5 := (hB4.alloc hB4.size _).grown hgrow (by have := hB4.size; simp; omega) (fun j e => (hL4 j e).1))
              go_roundg (n - (j + 1 + 1))
              case rel =>
                refine ⟨j + 1 + 1, _, false, by omega, by go_num, rfl, HE2, ?_, hB5⟩
                rw [List.length_append, tzCells_snoc]
                exact hown
              case measure => omega
        · have hst : bareStep (acc, ah) ⟨tk, tt, ta, te, tsp⟩ = (acc, true) := by unfold bareStep outK; simp only [h8, h9]; rfl
          rw [hst] at HB2
          clear hst hr
          go_wp2
          go_roundg (n - (k + 1))
          case rel => exact ⟨k + 1, acc, true, by omega, by go_num, rfl, HB2, hrow, hbx⟩
          case measure => omega
      · have hst : bareStep (acc, ah) ⟨tk, tt, ta, te, tsp⟩ = (acc, true) := by unfold bareStep outK; simp only [h8]; rfl
        rw [hst] at HB2
        clear hst hr
        go_wp2
        go_roundg (n - (k + 1))
        case rel => exact ⟨k + 1, acc, true, by omega, by go_num, rfl, HB2, hrow, hbx⟩
        case measure => omega
    · obtain rfl : k = n := by omega
      have HB3 := Lib.hid (show bareS ts = (acc, ah) by rw [← HB.out, List.take_of_length_le (by rw [HN.out]; exact Nat.le_refl _)])
      go_wp2
      go_ret
      rw [HB3.out]
      exact ⟨⟨_, rfl, hrow⟩, hbx⟩

end Go.Proofs.YtaodjipnffgihaaGreat

namespace Go.Proofs.YtaodjipnffgihaaGreat
open Go.RowKit Go.Shelf

/-- Only this row was written to. -/
structure Wrote (a : Option Addr) (T : TypeId) (n : Nat) (W W' : World) : Prop where
  size : W'.heap.size = W.heap.size
  own : ∀ g, a = some ⟨g, 0, none⟩ → ∃ cur, W'.heap[g]? = some (.cells cur T (0, 0)) ∧ n ≤ cur.size
  below : ∀ B, (∀ g, a = some ⟨g, 0, none⟩ → B ≤ g) → Below B W W'

theorem Wrote.set {g j n : Nat} {T : TypeId} {W W' : World} (h : Wrote (some ⟨g, 0, none⟩) T n W W') (u : Value) : Wrote (some ⟨g, 0, none⟩) T n W (W'.setCell ⟨g, j, none⟩ u) where
  size := by rw [← h.size]; simp [World.setCell]
  own := fun g' e => by
    obtain rfl : g = g' := by simpa using e
    obtain ⟨cur, h1, h2⟩ := h.own g rfl
    refine ⟨cur.setIfInBounds j u, ?_, by simpa using h2⟩
    simp [World.setCell, Array.getElem?_modify, h1]
  below := fun B hB => (h.below B hB).setCell (hB g rfl) u
theorem Wrote.cell {g j n : Nat} {T : TypeId} {W W' : World} (h : Wrote (some ⟨g, 0, none⟩) T n W W') (hj : j < n) : ∃ u, W'.cell? ⟨g, j, none⟩ = some u := by
  obtain ⟨cur, h1, h2⟩ := h.own g rfl
  rw [Lib.cell_of_heap h1]
  exact ⟨_, Array.getElem?_eq_getElem (by omega)⟩
theorem Wrote.frozen {g n : Nat} (j : Nat) {T : TypeId} {W W' : World} (h : Wrote (some ⟨g, 0, none⟩) T n W W') : W'.frozen? ⟨g, j, none⟩ = false := by
  obtain ⟨cur, h1, h2⟩ := h.own g rfl
  simp [World.frozen?, h1]

theorem tzCells_get {ys : List Tz} {k : Nat} {y : Tz} (h : ys[k]? = some y) (j : Nat) (hj : j < 5) : (tzCells ys)[k * 5 + j]? = (tzCell y)[j]? := by
  induction ys generalizing k with
  | nil => simp at h
  | cons q ys ih =>
    have hc : tzCells (q :: ys) = tzCell q ++ tzCells ys := by simp [tzCells, tzCell]
    cases k with
    | zero =>
      simp only [List.getElem?_cons_zero, Option.some.injEq] at h
      subst h
      rw [hc, List.getElem?_append_left (by simp [tzCell]; omega)]
      simp
    | succ k =>
      simp only [List.getElem?_cons_succ] at h
      rw [hc, List.getElem?_append_right (by simp [tzCell]; omega)]
      have : (k + 1) * 5 + j - (tzCell q).length = k * 5 + j := by simp [tzCell]; omega
      rw [this]
      exact ih h
theorem tzCells_len (ts : List Tz) : (tzCells ts).length = ts.length * 5 := by
  induction ts with
  | nil => rfl
  | cons t ts ih => simp only [tzCells, List.flatMap_cons, List.length_append, List.length_cons] at ih ⊢; rw [ih]; simp [tzCell]; omega
theorem tzCells_one (ts : List Tz) : ∀ u ∈ tzCells ts, u.oneCell' = true := by
  intro u hu
  unfold tzCells at hu
  rw [List.mem_flatMap] at hu
  obtain ⟨t, _, ht⟩ := hu
  simp only [tzCell, List.mem_cons, List.not_mem_nil, or_false] at ht
  rcases ht with rfl | rfl | rfl | rfl | rfl <;> rfl
theorem tzCells_at {W : World} {b o : Nat} {ts : List Tz} (h : TzAt W b o ts) : ∀ j u, (tzCells ts)[j]? = some u → W.cell? ((⟨b, o, none⟩ : Addr).add j) = some u := by
  intro j u hj
  have hlt := (List.getElem?_eq_some_iff.1 hj).1
  rw [tzCells_len] at hlt
  obtain ⟨t, ht⟩ : ∃ t, ts[j / 5]? = some t := ⟨_, List.getElem?_eq_getElem (by omega)⟩
  obtain ⟨c0, c1, c2, c3, c4⟩ := h _ t ht
  have hj2 : (tzCells ts)[j / 5 * 5 + j % 5]? = (tzCell t)[j % 5]? := tzCells_get ht _ (Nat.mod_lt _ (by decide))
  rw [show j / 5 * 5 + j % 5 = j by omega, hj] at hj2
  have ha : (⟨b, o, none⟩ : Addr).add j = ⟨b, o + j / 5 * 5 + j % 5, none⟩ := by
    unfold Addr.add
    split
    · congr 1; omega
    · congr 1; simp only []; omega
  rw [ha]
  have h5 : j % 5 < 5 := Nat.mod_lt _ (by decide)
  generalize j % 5 = r at *
  match r, h5, hj2 with
  | 0, _, hj2 => cases hj2; exact c0
  | 1, _, hj2 => cases hj2; exact c1
  | 2, _, hj2 => cases hj2; exact c2
  | 3, _, hj2 => cases hj2; exact c3
  | 4, _, hj2 => cases hj2; exact c4

/-- A row of tokens that the call owns. -/
theorem tz_shape {W : World} {base n : Nat} {v : Value} {ts : List Tz} (hn : ts.length = n) (h : W.ownsRow base 83 5 v n (tzCells ts)) : ∃ a cap, v = .slice a n cap ∧ (0 < n → ∃ g, a = some ⟨g, 0, none⟩ ∧ g < W.heap.size ∧ TzRow W g ts) ∧ Wrote a 83 (n * 5) W W ∧ (∀ g, a = some ⟨g, 0, none⟩ → base ≤ g) := by
  subst hn
  rcases h.2 with ⟨rfl, h0⟩ | ⟨g, cap, cur, rfl, hg, hh, hc1, hc2, hc3, hc4⟩
  · exact ⟨none, 0, by rw [h0], fun hp => by omega, ⟨rfl, (fun g e => by cases e), fun _ _ => Below.refl _ _⟩, (fun g e => by cases e)⟩
  · refine ⟨some ⟨g, 0, none⟩, cap, rfl, fun _ => ⟨g, rfl, (Array.getElem?_eq_some_iff.1 hh).1, fun i t ht => ?_⟩, ⟨rfl, fun g' e => ?_, fun _ _ => Below.refl _ _⟩, fun g' e => ?_⟩
    · have hc : ∀ j u, (tzCells ts)[j]? = some u → W.cell? ⟨g, j, none⟩ = some u := fun j u hj => by
        have := h.cells (g := g) rfl j u hj
        rcases j with _ | j <;> simpa [Addr.add] using this
      exact ⟨hc _ _ (tzCells_get ht 0 (by decide)), hc _ _ (tzCells_get ht 1 (by decide)), hc _ _ (tzCells_get ht 2 (by decide)), hc _ _ (tzCells_get ht 3 (by decide)), hc _ _ (tzCells_get ht 4 (by decide))⟩
    · obtain rfl : g = g' := by simpa using e
      exact ⟨cur, hh, by rw [hc3]; exact Nat.mul_le_mul_right 5 hc1⟩
    · obtain rfl : g = g' := by simpa using e
      exact hg

theorem row_zero {W : World} {b n z : Nat} {e : TypeId} {v : Value} {xs : List Value} (h : W.ownsRow b e z v (0 + n) ([] ++ xs)) : W.ownsRow b e z v n xs := by
  rw [Nat.zero_add] at h; exact h

end Go.Proofs.YtaodjipnffgihaaGreat

namespace Go.Proofs.YtaodjipnffgihaaGreat
open Go.RowKit Go.Shelf

def stV (ss : List ByteArray) : List Value := ss.map Value.string
def StrAt (W : World) (b o : Nat) (ss : List ByteArray) : Prop := ∀ i s, ss[i]? = some s → W.cell? ⟨b, o + i, none⟩ = some (.string s)
def StrIn (W : World) (a : Option Addr) (ss : List ByteArray) : Prop := 0 < ss.length → ∃ b o, a = some ⟨b, o, none⟩ ∧ b < W.heap.size ∧ StrAt W b o ss
theorem StrAt.below {B b o : Nat} {W W' : World} {ss : List ByteArray} (h : StrAt W b o ss) (hb : Below B W W') (hlt : b < B) : StrAt W' b o ss := fun i s hs =>
  (hb.cell (p := ⟨b, o + i, none⟩) hlt).trans (h i s hs)
theorem StrIn.below {W W' : World} {a : Option Addr} {ss : List ByteArray} (h : StrIn W a ss) (hb : Below W.heap.size W W') : StrIn W' a ss := fun hp => by
  obtain ⟨b, o, e, hlt, ht⟩ := h hp
  exact ⟨b, o, e, Nat.lt_of_lt_of_le hlt hb.size, ht.below hb hlt⟩
theorem stV_len (ss : List ByteArray) : (stV ss).length = ss.length := List.length_map ..
theorem stV_one (ss : List ByteArray) : ∀ u ∈ stV ss, u.oneCell' = true := by
  intro u hu
  unfold stV at hu
  rw [List.mem_map] at hu
  obtain ⟨s, _, rfl⟩ := hu
  rfl
theorem stV_get {ss : List ByteArray} {i : Nat} {s : ByteArray} (h : ss[i]? = some s) : (stV ss)[i]? = some (.string s) := by
  unfold stV; rw [List.getElem?_map, h]; rfl
theorem stV_snoc (ss : List ByteArray) (s : ByteArray) : stV (ss ++ [s]) = stV ss ++ [.string s] := by simp [stV]
theorem strIn_row {w : World} {base n cap : Nat} {T : TypeId} {a : Option Addr} {ss : List ByteArray} (hn : ss.length = n) (h : w.ownsRow base T 1 (.slice a n cap) n (stV ss)) : StrIn w a ss := fun hp => by
  obtain ⟨g, rfl, hg, hc⟩ := row_pos (by omega) h
  exact ⟨g, 0, rfl, hg, fun i s hs => by rw [Nat.zero_add]; exact hc i _ (stV_get hs)⟩
/-- A list written out. -/
theorem strIn_new {W : World} {B : Nat} {T : TypeId} {cs : Array Value} {ss : List ByteArray} (h : W.heap[B]? = some (.cells cs T (0, 0))) (hc : cs.toList = stV ss) : StrIn W (some ⟨B, 0, none⟩) ss := fun _ =>
  ⟨B, 0, rfl, (Array.getElem?_eq_some_iff.1 h).1, fun i s hs => by
    rw [Lib.cell_of_heap h, Nat.zero_add, ← Array.getElem?_toList, hc]
    exact stV_get hs⟩
theorem strIn_one (w : World) (T : TypeId) (cs : Array Value) (ss : List ByteArray) (hc : cs.toList = stV ss) : StrIn (w.alloc (.cells cs T)) (some ⟨w.heap.size, 0, none⟩) ss :=
  strIn_new (World.alloc_heap_new w _) hc
theorem strIn_two (w : World) (o : Obj) (T : TypeId) (cs : Array Value) (ss : List ByteArray) (hc : cs.toList = stV ss) : StrIn ((w.alloc o).alloc (.cells cs T)) (some ⟨w.heap.size + 1, 0, none⟩) ss := by
  have := strIn_one (w.alloc o) T cs ss hc
  rw [World.size_alloc] at this
  exact this

end Go.Proofs.YtaodjipnffgihaaGreat

namespace Go.Proofs.YtaodjipnffgihaaGreat

/-- A macro token; a macro. -/
structure Pz where
  k : Int
  tx : ByteArray
  sp : Bool
  ps : List ByteArray
structure Mz where
  nm : ByteArray
  fn : Bool
  ps : List ByteArray
  vr : Bool
  bs : List Pz
/-- No macro. -/
def mz0 : Mz := ⟨⟨#[]⟩, false, [], false, []⟩

def vaL : List UInt8 := [95, 95, 86, 65, 95, 65, 82, 71, 83, 95, 95]
/-- Is it that punctuator, that word? -/
def isP (t : Tz) (l : List UInt8) : Bool := t.k == 5 && t.tx.toList == l
def isW (t : Tz) (l : List UInt8) : Bool := t.k == 1 && t.tx.toList == l
def amongS (ps : List ByteArray) (s : ByteArray) : Bool := ps.any (fun p => p.toList == s.toList)
/-- Are no two equal? (each beside those ahead of it) -/
def distR : List ByteArray → List ByteArray → Bool
  | _, [] => true
  | acc, p :: ps => !amongS acc p && distR (acc ++ [p]) ps
def distS (ps : List ByteArray) : Bool := distR [] ps
theorem amongS_app (a b : List ByteArray) (s : ByteArray) : amongS (a ++ b) s = (amongS a s || amongS b s) := List.any_append
theorem distR_snoc : ∀ (acc ps : List ByteArray) (p : ByteArray), distR acc (ps ++ [p]) = (distR acc ps && !amongS (acc ++ ps) p)
  | acc, [], p => by simp [distR]
  | acc, q :: ps, p => by
    rw [List.cons_append, distR, distR, distR_snoc (acc ++ [q]) ps p, Bool.and_assoc]
    simp
theorem distS_snoc (ps : List ByteArray) (p : ByteArray) : distS (ps ++ [p]) = (distS ps && !amongS ps p) := by
  unfold distS
  rw [distR_snoc, List.nil_append]

def finS (acc : List ByteArray) (v : Bool) (l : List Tz) : Option (List ByteArray × Bool × List Tz) := if distS acc then some (acc, v, l) else none
def wordP (t : Tz) : Bool := t.k == 1 && !(t.tx.toList == vaL)
/-- The parameters; whether ... ends them; what stands behind. -/
def parP : List ByteArray → List Tz → Option (List ByteArray × Bool × List Tz)
  | acc, t :: u :: l =>
    if isP t [46, 46, 46] then (if isP u [41] then finS acc true l else none)
    else if wordP t then
      if isP u [44] then parP (acc ++ [t.tx]) l
      else if isP u [41] then finS (acc ++ [t.tx]) false l else none
    else none
  | _, _ => none
def cutP (l : List Tz) : Option (List ByteArray × Bool × List Tz) := match l with
  | t :: r => if isP t [41] then some ([], false, r) else parP [] l
  | [] => none
theorem finS_no {acc : List ByteArray} {v : Bool} {l : List Tz} (h : distS acc = false) : finS acc v l = none := by unfold finS; rw [h]; rfl
/-- Once two are equal there is no way back. -/
theorem parP_no : ∀ (m : Nat) (l : List Tz) (acc : List ByteArray), l.length ≤ m → distS acc = false → parP acc l = none
  | m, [], acc, _, h => by unfold parP; rfl
  | m, [t], acc, _, h => by unfold parP; rfl
  | m + 1, t :: u :: l, acc, hm, h => by
    have h2 : distS (acc ++ [t.tx]) = false := by rw [distS_snoc, h]; rfl
    have ih := parP_no m l (acc ++ [t.tx]) (by simp at hm; omega) h2
    rw [parP, finS_no h, finS_no h2, ih]
    simp
  | 0, t :: u :: l, acc, hm, h => by simp at hm

def pasteB (t : Tz) : Bool := isP t [35, 35] || isP t [37, 58, 37, 58]
def hashP (t : Tz) : Bool := isP t [35] || isP t [37, 58]
/-- Is the first one a word that stands for an argument? -/
def argB (ps : List ByteArray) (l : List Tz) : Bool := match l with
  | t :: _ => t.k == 1 && (amongS ps t.tx || t.tx.toList == vaL)
  | [] => false
/-- May a token with those behind it be? -/
def oneT (fn vr : Bool) (ps : List ByteArray) (t : Tz) (l : List Tz) : Bool := !(isW t vaL && !vr) && !(fn && hashP t && !argB ps l)
def mayT (fn vr : Bool) (ps : List ByteArray) : List Tz → Bool
  | [] => true
  | t :: l => oneT fn vr ps t l && mayT fn vr ps l
def endsB (l : List Tz) : Bool := match l with
  | [] => true
  | t :: r => !pasteB t && !pasteB ((t :: r).getLast (by simp))
def mayB (fn vr : Bool) (ps : List ByteArray) (l : List Tz) : Bool := endsB l && mayT fn vr ps l

def pzOf (t : Tz) : Pz := ⟨t.k, t.tx, t.sp, []⟩
/-- The first one counts as having no Space. -/
def firstNo : List Pz → List Pz
  | [] => []
  | p :: l => { p with sp := false } :: l
theorem firstNo_len : ∀ l : List Pz, (firstNo l).length = l.length
  | [] => rfl
  | _ :: _ => rfl
def bodyM (nm : ByteArray) (fn : Bool) (ps : List ByteArray) (vr : Bool) (l : List Tz) : Option Mz := if mayB fn vr ps l then some ⟨nm, fn, ps, vr, firstNo (l.map pzOf)⟩ else none
/-- May it be a name? -/
def nameP (t : Tz) : Bool := t.k == 1 && !(t.tx.toList == [100, 101, 102, 105, 110, 101, 100] || t.tx.toList == vaL || t.tx.toList == [95, 95, 76, 73, 78, 69, 95, 95] || t.tx.toList == [95, 80, 114, 97, 103, 109, 97])
/-- The macro without its body, and the body. -/
def headS : List Tz → Option (Mz × List Tz)
  | [] => none
  | t :: r => if nameP t then (match r with
    | [] => some (⟨t.tx, false, [], false, []⟩, [])
    | u :: r' => if u.sp then some (⟨t.tx, false, [], false, []⟩, u :: r') else if isP u [40] then (match cutP r' with
      | none => none
      | some (p, v, b) => some (⟨t.tx, true, p, v, []⟩, b)) else none) else none
def defineS (ts : List Tz) : Option Mz := match headS ts with
  | none => none
  | some (m, b) => if mayB m.fn m.vr m.ps b then some { m with bs := firstNo (b.map pzOf) } else none

/-- Are two macros equal? -/
def sameTx : List ByteArray → List ByteArray → Bool
  | [], [] => true
  | a :: l, b :: r => a.toList == b.toList && sameTx l r
  | _, _ => false
def sameP (a b : Pz) : Bool := a.k == b.k && a.tx.toList == b.tx.toList && a.sp == b.sp && sameTx a.ps b.ps
def samePs : List Pz → List Pz → Bool
  | [], [] => true
  | a :: l, b :: r => sameP a b && samePs l r
  | _, _ => false
def sameM (a b : Mz) : Bool := a.nm.toList == b.nm.toList && a.fn == b.fn && sameTx a.ps b.ps && a.vr == b.vr && samePs a.bs b.bs

/-- How many tokens may stand behind the parameters. -/
theorem parP_len : ∀ (m : Nat) (l : List Tz) (acc : List ByteArray) (x : List ByteArray × Bool × List Tz), l.length ≤ m → parP acc l = some x → x.2.2.length ≤ l.length ∧ x.1.length ≤ acc.length + l.length
  | m, [], acc, x, _, h => by unfold parP at h; cases h
  | m, [t], acc, x, _, h => by unfold parP at h; cases h
  | m + 1, t :: u :: l, acc, x, hm, h => by
    rw [parP] at h
    have hf : ∀ (a : List ByteArray) (v : Bool), finS a v l = some x → x.2.2.length ≤ l.length ∧ x.1.length ≤ a.length := by
      intro a v h
      unfold finS at h
      split at h
      · cases h; exact ⟨Nat.le_refl _, Nat.le_refl _⟩
      · cases h
    simp only [List.length_cons] at hm ⊢
    split at h
    · split at h
      · have := hf _ _ h; omega
      · cases h
    · split at h
      · split at h
        · have := parP_len m l (acc ++ [t.tx]) x (by omega) h
          rw [List.length_append, List.length_singleton] at this; omega
        · split at h
          · have := hf _ _ h
            rw [List.length_append, List.length_singleton] at this; omega
          · cases h
      · cases h
  | 0, t :: u :: l, acc, x, hm, h => by simp at hm

end Go.Proofs.YtaodjipnffgihaaGreat

namespace Go.Proofs.YtaodjipnffgihaaGreat

/-- May a body be: each token by itself; is it the first one? -/
def mayR (fn vr : Bool) (ps : List ByteArray) : Bool → List Tz → Bool
  | _, [] => true
  | f, t :: l => !(pasteB t && (f || l.isEmpty)) && oneT fn vr ps t l && mayR fn vr ps false l
theorem mayR_later (fn vr : Bool) (ps : List ByteArray) : ∀ (l : List Tz) (h : l ≠ []), mayR fn vr ps false l = (!pasteB (l.getLast h) && mayT fn vr ps l)
  | [], h => absurd rfl h
  | [t], _ => by simp [mayR, mayT]
  | t :: u :: l, _ => by
    have e : mayT fn vr ps (t :: u :: l) = (oneT fn vr ps t (u :: l) && mayT fn vr ps (u :: l)) := rfl
    rw [mayR, mayR_later fn vr ps (u :: l) (by simp), e]
    simp only [List.isEmpty_cons, Bool.or_false, Bool.and_false, Bool.not_false, Bool.true_and, List.getLast_cons_cons]
    generalize mayT fn vr ps (u :: l) = z
    cases oneT fn vr ps t (u :: l) <;> cases pasteB ((u :: l).getLast (by simp)) <;> rfl
theorem mayR_eq (fn vr : Bool) (ps : List ByteArray) : ∀ l : List Tz, mayR fn vr ps true l = mayB fn vr ps l
  | [] => rfl
  | [t] => by simp [mayR, mayB, endsB, mayT]
  | t :: u :: l => by
    have e : mayT fn vr ps (t :: u :: l) = (oneT fn vr ps t (u :: l) && mayT fn vr ps (u :: l)) := rfl
    rw [mayR, mayR_later fn vr ps (u :: l) (by simp), mayB, endsB, e]
    simp only [List.isEmpty_cons, Bool.or_false, Bool.and_true, List.getLast_cons_cons]
    generalize mayT fn vr ps (u :: l) = z
    cases pasteB t <;> cases oneT fn vr ps t (u :: l) <;> cases pasteB ((u :: l).getLast (by simp)) <;> rfl

/-- What stands behind the parameters stands at the list's end. -/
theorem parP_tail : ∀ (m : Nat) (l : List Tz) (acc : List ByteArray) (x : List ByteArray × Bool × List Tz), l.length ≤ m → parP acc l = some x → x.2.2 = l.drop (l.length - x.2.2.length) ∧ 2 ≤ l.length - x.2.2.length
  | m, [], acc, x, _, h => by unfold parP at h; cases h
  | m, [t], acc, x, _, h => by unfold parP at h; cases h
  | m + 1, t :: u :: l, acc, x, hm, h => by
    have hl := (parP_len (m + 1) (t :: u :: l) acc x hm h).1
    rw [parP] at h
    have hf : ∀ (a : List ByteArray) (v : Bool), finS a v l = some x → x.2.2 = (t :: u :: l).drop ((t :: u :: l).length - x.2.2.length) ∧ 2 ≤ (t :: u :: l).length - x.2.2.length := by
      intro a v h
      unfold finS at h
      split at h
      · cases h
        have e : (t :: u :: l).length - l.length = 2 := by simp only [List.length_cons]; omega
        show l = (t :: u :: l).drop ((t :: u :: l).length - l.length) ∧ 2 ≤ (t :: u :: l).length - l.length
        rw [e]
        exact ⟨rfl, Nat.le_refl _⟩
      · cases h
    split at h
    · split at h
      · exact hf _ _ h
      · cases h
    · split at h
      · split at h
        · obtain ⟨h1, h2⟩ := parP_tail m l (acc ++ [t.tx]) x (by simp only [List.length_cons] at hm; omega) h
          have e : (t :: u :: l).length - x.2.2.length = (l.length - x.2.2.length) + 1 + 1 := by simp only [List.length_cons]; omega
          refine ⟨?_, by omega⟩
          rw [e, List.drop_succ_cons, List.drop_succ_cons]
          exact h1
        · split at h
          · exact hf _ _ h
          · cases h
      · cases h
  | 0, t :: u :: l, acc, x, hm, h => by simp at hm
theorem cutP_tail {l : List Tz} {x : List ByteArray × Bool × List Tz} (h : cutP l = some x) : x.2.2 = l.drop (l.length - x.2.2.length) ∧ 1 ≤ l.length - x.2.2.length := by
  unfold cutP at h
  cases l with
  | nil => cases h
  | cons t r =>
    simp only at h
    split at h
    · cases h
      have e : (t :: r).length - r.length = 1 := by simp only [List.length_cons]; omega
      show r = (t :: r).drop ((t :: r).length - r.length) ∧ 1 ≤ (t :: r).length - r.length
      rw [e]
      exact ⟨rfl, Nat.le_refl _⟩
    · obtain ⟨h1, h2⟩ := parP_tail _ _ _ _ (Nat.le_refl _) h
      exact ⟨h1, by omega⟩

theorem bytes_eq {a b : ByteArray} (h : (a.toList == b.toList) = true) : a = b := by
  have h1 := eq_of_beq h
  rw [Lib.toList_data, Lib.toList_data] at h1
  exact ByteArray.ext (Array.toList_inj.1 h1)
theorem sameTx_self : ∀ l : List ByteArray, sameTx l l = true
  | [] => rfl
  | a :: l => by rw [sameTx, sameTx_self l]; simp
theorem sameP_self (a : Pz) : sameP a a = true := by unfold sameP; rw [sameTx_self]; simp
theorem samePs_self : ∀ l : List Pz, samePs l l = true
  | [] => rfl
  | a :: l => by rw [samePs, samePs_self l, sameP_self]; rfl
theorem sameM_self (a : Mz) : sameM a a = true := by unfold sameM; rw [sameTx_self, samePs_self]; simp
end Go.Proofs.YtaodjipnffgihaaGreat

namespace Go.Proofs.YtaodjipnffgihaaGreat
open Go.RowKit

def thirdCase (c : UInt8) : Bool :=
  c == 61 || c == 47 || c == 39 || c == 40 || c == 41 || c == 33 || c == 60 || c == 62 || c == 45 ||
    (decide (Lib.indexByte [61, 47, 39, 40, 41, 33, 60, 62, 45] c = -1) && decide (third c = none))

theorem third_cases (c : UInt8) : c = 61 ∨ c = 47 ∨ c = 39 ∨ c = 40 ∨ c = 41 ∨ c = 33 ∨ c = 60 ∨ c = 62 ∨ c = 45 ∨
    (Lib.indexByte [61, 47, 39, 40, 41, 33, 60, 62, 45] c = -1 ∧ third c = none) := by
  have h := all_u8 thirdCase (by decide +kernel) c
  simpa [thirdCase, Bool.or_eq_true, or_assoc] using h

/-- strings.IndexByte over the third bytes, its answer laid. -/
theorem ib_at (c : UInt8) (k : Int) (w : World) (h : Lib.indexByte [61, 47, 39, 40, 41, 33, 60, 62, 45] c = k) :
    Calls Tryz.prog 88 #[.string ⟨#[61, 47, 39, 40, 41, 33, 60, 62, 45]⟩, .int .u8 c.toNat] w fun e w' => e = .returned (.int .i64 k) ∧ w = w' := by
  refine (Tryz.strings_IndexByte _ _ w).mono ?_
  rintro e w' ⟨rfl, rfl⟩
  rw [toNat_u8]
  exact ⟨by rw [← h], rfl⟩

set_option maxHeartbeats 400000 in
theorem third_none (c : UInt8) (w : World) (h : Lib.indexByte [61, 47, 39, 40, 41, 33, 60, 62, 45] c = -1) :
    Calls Tryz.prog 69 #[.int .u8 c.toNat] w fun e w' => e = .returned (.tuple #[.int .u8 0, .bool false]) ∧ w = w' := by
  have H := ib_at c (-1) w h
  clear h
  go_enter Tryz.func69, Tryz.ntmps69
  go_wp2_with (go_at_call 88; refine H.mono ?_; rintro e w' ⟨rfl, rfl⟩)
  go_ret2
  exact ⟨rfl, rfl⟩

set_option maxHeartbeats 400000 in
theorem third_some (c : UInt8) (k : Nat) (b : UInt8) (w : World) (h : Lib.indexByte [61, 47, 39, 40, 41, 33, 60, 62, 45] c = k) (hk : k < 9) (hb : [35, 92, 94, 91, 93, 124, 123, 125, 126][k]? = some b) :
    Calls Tryz.prog 69 #[.int .u8 c.toNat] w fun e w' => e = .returned (.tuple #[.int .u8 b.toNat, .bool true]) ∧ w = w' := by
  have H := ib_at c k w h
  clear h
  go_enter Tryz.func69, Tryz.ntmps69
  go_wp2_with (go_at_call 88; refine H.mono ?_; rintro e w' ⟨rfl, rfl⟩)
  go_ret2
  have hbb : (⟨#[35, 92, 94, 91, 93, 124, 123, 125, 126]⟩ : ByteArray)[k]'(by show k < 9; exact hk) = b := by
    have h2 : [35, 92, 94, 91, 93, 124, 123, 125, 126][k]'(by simpa using hk) = b := by
      rw [List.getElem?_eq_getElem (by simpa using hk)] at hb
      exact Option.some.inj hb
    rw [← h2]; rfl
  refine ⟨?_, rfl⟩
  rw [← hbb]
  rfl

/-- phys.Third AT EVERY BYTE. -/
theorem third_any (c : UInt8) (w : World) :
    Calls Tryz.prog 69 #[.int .u8 c.toNat] w fun e w' => e = .returned (.tuple #[.int .u8 (thirdOf c).toNat, .bool (isThird c)]) ∧ w = w' := by
  rcases third_cases c with rfl | rfl | rfl | rfl | rfl | rfl | rfl | rfl | rfl | ⟨h1, h2⟩
  · exact third_some 61 0 35 w (by decide) (by decide) rfl
  · exact third_some 47 1 92 w (by decide) (by decide) rfl
  · exact third_some 39 2 94 w (by decide) (by decide) rfl
  · exact third_some 40 3 91 w (by decide) (by decide) rfl
  · exact third_some 41 4 93 w (by decide) (by decide) rfl
  · exact third_some 33 5 124 w (by decide) (by decide) rfl
  · exact third_some 60 6 123 w (by decide) (by decide) rfl
  · exact third_some 62 7 125 w (by decide) (by decide) rfl
  · exact third_some 45 8 126 w (by decide) (by decide) rfl
  · have := third_none c w h1
    simpa [thirdOf, isThird, h2] using this

theorem ne_u8 {c : UInt8} (k : UInt8) (h : ((c.toNat : Int) == (k.toNat : Int)) = false) : ¬ c = k := by
  rintro rfl
  simp at h

end Go.Proofs.YtaodjipnffgihaaGreat

namespace Go.Proofs.YtaodjipnffgihaaGreat
open Go.RowKit

theorem trigraph_hit {s : ByteArray} (h : 3 ≤ s.size) (h2 : (!(s.extract 0 2).toList == [63, 63]) = false) : tri s.data.toList = third s[2] := by
  rw [extract02 h] at h2
  simp at h2
  rw [tri0 h, if_pos h2]

theorem trigraph_miss {s : ByteArray} (h : 3 ≤ s.size) (h2 : (!(s.extract 0 2).toList == [63, 63]) = true) : tri s.data.toList = none := by
  rw [extract02 h] at h2
  simp at h2
  rw [tri0 h, if_neg (fun h => by rcases h2 with h2 | h2; exact h2 h.1; exact h2 h.2)]

set_option maxHeartbeats 400000 in
/-- phys.trigraph AT EVERY TEXT. -/
theorem trigraph_any (s : ByteArray) (w : World) (hs : s.size ≤ maxLen) :
    Calls Tryz.prog 49 #[.string s] w fun e w' => e = .returned (.tuple #[.int .u8 (triOf s.data.toList).toNat, .bool (isTri s.data.toList)]) ∧ w = w' := by
  unfold maxLen at hs
  by_cases h : s.size < 3
  · have ht : tri s.data.toList = none := tri_short (by rw [size_list]; exact h)
    have H := Lib.hid ht; clear ht
    go_enter Tryz.func49, Tryz.ntmps49
    go_wp2
    go_ret2
    refine ⟨?_, rfl⟩
    simp [triOf, isTri, H.out]
  · have h' : 3 ≤ s.size := by omega
    go_enter Tryz.func49, Tryz.ntmps49
    go_wp2_with (go_at_call 69; refine (third_any _ _).mono ?_; rintro e w' ⟨rfl, rfl⟩)
    · have h2 : (s.size : Int) < 3 ∨ (!(s.extract 0 2).toList == [63, 63]) = true := by assumption
      go_ret2
      refine ⟨?_, rfl⟩
      simp [triOf, isTri, trigraph_miss h' (h2.resolve_left (by omega))]
    · have h2 : 3 ≤ (s.size : Int) ∧ (!(s.extract 0 2).toList == [63, 63]) = false := by assumption
      go_ret2
      refine ⟨?_, rfl⟩
      simp [triOf, isTri, thirdOf, isThird, trigraph_hit h' h2.2]

end Go.Proofs.YtaodjipnffgihaaGreat

namespace Go.Proofs.YtaodjipnffgihaaGreat
open Go.RowKit

theorem charN_hit {l : List UInt8} (h : isTri l = true) : charN l = 3 := by unfold charN; rw [h]; rfl
theorem charN_miss {l : List UInt8} (h : isTri l = false) : charN l = 1 := by unfold charN; rw [h]; rfl
theorem charB_hit {l : List UInt8} (h : isTri l = true) : charB l = triOf l := by unfold charB; rw [h]; rfl
theorem charB_miss {s : ByteArray} {k : Nat} (hk : k < s.size) (h : isTri (s.data.toList.drop k) = false) : charB (s.data.toList.drop k) = s[k] := by
  unfold charB; rw [h, data_drop s k hk]; rfl

set_option maxHeartbeats 400000 in
/-- phys.charAt AT EVERY TEXT AND PLACE IN IT. -/
theorem charAt_any (s : ByteArray) (k : Nat) (w : World) (hs : s.size ≤ 65536) (hk : k < s.size) :
    Calls Tryz.prog 106 #[.string s, .int .i64 k] w fun e w' =>
      e = .returned (.agg #[.int .u8 (charB (s.data.toList.drop k)).toNat, .int .i64 k, .int .i64 (charN (s.data.toList.drop k))]) ∧
      w' = w.alloc (.cells #[.int .u8 (charB (s.data.toList.drop k)).toNat, .int .i64 k, .int .i64 (charN (s.data.toList.drop k))] 81) := by
  have he := extract_end s k
  have HE := Lib.hid he; clear he
  have hx : (s.extract k s.size).size ≤ maxLen := by rw [ByteArray.size_extract]; unfold maxLen; omega
  go_enter Tryz.func106, Tryz.ntmps106
  go_wp2_with (go_at_call 49; refine (trigraph_any _ _ hx).mono ?_; rintro e w' ⟨rfl, rfl⟩; rw [HE.out])
  · have ht : isTri (s.data.toList.drop k) = true := by assumption
    rw [charB_hit ht, charN_hit ht]
    exact bodyPost_ret (v := .agg #[.int .u8 (triOf (s.data.toList.drop k)).toNat, .int .i64 k, .int .i64 (3 : Nat)]) (by simp [results, Tryz.results106, go_sem]) rfl ⟨rfl, rfl⟩
  · have ht : isTri (s.data.toList.drop k) = false := by assumption
    rw [charB_miss hk ht, charN_miss ht]
    exact bodyPost_ret (v := .agg #[.int .u8 s[k].toNat, .int .i64 k, .int .i64 (1 : Nat)]) (by simp [results, Tryz.results106, go_sem]) rfl ⟨rfl, rfl⟩

/-- A part as a value. -/
def Part.val (p : Part) : Value := .agg #[.int .u8 p.b.toNat, .int .i64 p.at', .int .i64 p.n, .bool p.sp]

section
variable {s : ByteArray} {k : Nat}
theorem head_data (h : k + charN (s.data.toList.drop k) < s.size) : ((s.data.toList.drop k).drop (charN (s.data.toList.drop k))).head? = some s[k + charN (s.data.toList.drop k)] := by
  rw [head_drop, drop_get _ h]

theorem val_splice (hb : ((charB (s.data.toList.drop k)).toNat : Int) = 92) (hl : (k : Int) + (charN (s.data.toList.drop k) : Nat) < s.size) (h0 : ((s[k + charN (s.data.toList.drop k)].toNat : Int) == 10) = true) :
    (partAt s.data.toList k).val = .agg #[.int .u8 0, .int .i64 k, .int .i64 ((charN (s.data.toList.drop k) : Nat) + 1), .bool true] := by
  have hs : isSplice (s.data.toList.drop k) = true := by
    simp only [isSplice, Bool.and_eq_true, beq_iff_eq]
    exact ⟨UInt8.toNat_inj.1 (by simp; omega), by rw [head_data (by omega)]; exact congrArg some (eq_u8 10 h0)⟩
  simp [Part.val, partAt, partB, partN, hs]

theorem val_char (hs : isSplice (s.data.toList.drop k) = false) :
    (partAt s.data.toList k).val = .agg #[.int .u8 (charB (s.data.toList.drop k)).toNat, .int .i64 k, .int .i64 (charN (s.data.toList.drop k) : Nat), .bool false] := by
  simp [Part.val, partAt, partB, partN, hs]

theorem no_splice1 (hb : ¬ ((charB (s.data.toList.drop k)).toNat : Int) = 92) : isSplice (s.data.toList.drop k) = false := by
  cases h : isSplice (s.data.toList.drop k) with
  | false => rfl
  | true =>
    simp only [isSplice, Bool.and_eq_true, beq_iff_eq] at h
    rw [h.1] at hb; exact absurd rfl hb
theorem no_splice2 (hl : (s.size : Int) ≤ k + (charN (s.data.toList.drop k) : Nat)) : isSplice (s.data.toList.drop k) = false := by
  cases h : isSplice (s.data.toList.drop k) with
  | false => rfl
  | true =>
    simp only [isSplice, Bool.and_eq_true, beq_iff_eq] at h
    have h2 := h.2
    rw [head_drop, drop_none _ (by omega)] at h2
    cases h2
theorem no_splice3 (hl : (k : Int) + (charN (s.data.toList.drop k) : Nat) < s.size) (h0 : ((s[k + charN (s.data.toList.drop k)].toNat : Int) == 10) = false) : isSplice (s.data.toList.drop k) = false := by
  cases h : isSplice (s.data.toList.drop k) with
  | false => rfl
  | true =>
    simp only [isSplice, Bool.and_eq_true, beq_iff_eq] at h
    have h2 := h.2
    rw [head_data (by omega)] at h2
    simp only [Option.some.injEq] at h2
    rw [h2] at h0; exact absurd h0 (by decide)
end

set_option maxHeartbeats 1000000 in
/-- phys.partAt AT EVERY TEXT AND PLACE IN IT. -/
theorem partAt_any (s : ByteArray) (k : Nat) (w : World) (hs : s.size ≤ 65536) (hk : k < s.size) :
    Calls Tryz.prog 91 #[.string s, .int .i64 k] w fun e w' => e = .returned (partAt s.data.toList k).val ∧ Below w.heap.size w w' := by
  have hn : charN (s.data.toList.drop k) ≤ 3 := by unfold charN; split <;> omega
  go_enter Tryz.func91, Tryz.ntmps91
  go_wp2_with (go_at_call 106; refine (charAt_any _ _ _ hs hk).mono ?_; rintro e w' ⟨rfl, rfl⟩)
  · have hb : ((charB (s.data.toList.drop k)).toNat : Int) = 92 := by assumption
    have hl : (k : Int) + (charN (s.data.toList.drop k) : Nat) < s.size := by assumption
    have h0 : ((s[k + charN (s.data.toList.drop k)].toNat : Int) == 10) = true := by assumption
    refine bodyPost_ret (v := .agg #[.int .u8 0, .int .i64 k, .int .i64 ((charN (s.data.toList.drop k) : Nat) + 1), .bool true]) (by simp [results, Tryz.results91, go_sem]) rfl ⟨?_, below3 _ _ _ _⟩
    rw [val_splice hb hl h0]
  · have hb : ((charB (s.data.toList.drop k)).toNat : Int) = 92 := by assumption
    have hl : (k : Int) + (charN (s.data.toList.drop k) : Nat) < s.size := by assumption
    have h0 : ((s[k + charN (s.data.toList.drop k)].toNat : Int) == 10) = false := by assumption
    refine bodyPost_ret (v := .agg #[.int .u8 92, .int .i64 k, .int .i64 (charN (s.data.toList.drop k) : Nat), .bool false]) (by simp [results, Tryz.results91, go_sem]) rfl ⟨?_, below3 _ _ _ _⟩
    rw [val_char (no_splice3 hl h0), hb]
  · have hb : ((charB (s.data.toList.drop k)).toNat : Int) = 92 := by assumption
    have hl : (s.size : Int) ≤ k + (charN (s.data.toList.drop k) : Nat) := by assumption
    refine bodyPost_ret (v := .agg #[.int .u8 92, .int .i64 k, .int .i64 (charN (s.data.toList.drop k) : Nat), .bool false]) (by simp [results, Tryz.results91, go_sem]) rfl ⟨?_, below3 _ _ _ _⟩
    rw [val_char (no_splice2 hl), hb]
  · have hb : ¬ ((charB (s.data.toList.drop k)).toNat : Int) = 92 := by assumption
    refine bodyPost_ret (v := .agg #[.int .u8 (charB (s.data.toList.drop k)).toNat, .int .i64 k, .int .i64 (charN (s.data.toList.drop k) : Nat), .bool false]) (by simp [results, Tryz.results91, go_sem]) rfl ⟨?_, below3 _ _ _ _⟩
    rw [val_char (no_splice1 hb)]

set_option maxHeartbeats 400000 in
/-- (phys.part).end. -/
theorem end_any (p : Part) (w : World) (h : p.at' + p.n ≤ 1000000) :
    Calls Tryz.prog 92 #[p.val] w fun e w' => e = .returned (.int .i64 (p.at' + p.n : Nat)) ∧ w' = w.alloc (.cells #[.int .u8 p.b.toNat, .int .i64 p.at', .int .i64 p.n, .bool p.sp] 122) := by
  unfold Part.val
  go_enter Tryz.func92, Tryz.ntmps92
  go_wp2
  go_ret
  exact ⟨by simp, rfl⟩

end Go.Proofs.YtaodjipnffgihaaGreat

namespace Go.Proofs.YtaodjipnffgihaaGreat
open Go.RowKit Go.Shelf

attribute [local go_sem] Oper.semAt_some

/-- A part that lies within the greatest text. -/
abbrev Pt := { p : Part // p.at' + p.n ≤ 65536 }

theorem partsFrom_bound {l : List UInt8} (hl : l.length ≤ 65536) : ∀ (k : Nat), ∀ p ∈ partsFrom l k, p.at' + p.n ≤ 65536 := by
  intro k
  induction hm : l.length - k using Nat.strongRecOn generalizing k with
  | ind m ih =>
    intro p hp
    unfold partsFrom at hp
    split at hp
    · rename_i h
      rcases List.mem_cons.1 hp with rfl | hp
      · have hne : l.drop k ≠ [] := fun h2 => by have := List.drop_eq_nil_iff.1 h2; omega
        have := partN_le hne
        rw [List.length_drop] at this
        simp only [partAt]
        omega
      · have hpos := partN_pos (l.drop k)
        exact ih (l.length - (k + partN (l.drop k))) (by omega) (k + partN (l.drop k)) rfl p hp
    · simp at hp

/-- The parts of a list of at most 65536 bytes. -/
def ptsFrom (l : List UInt8) (hl : l.length ≤ 65536) (k : Nat) : List Pt := (partsFrom l k).attachWith _ (partsFrom_bound hl k)

theorem ptsFrom_val (l : List UInt8) (hl : l.length ≤ 65536) (k : Nat) : (ptsFrom l hl k).map (·.1) = partsFrom l k := by
  unfold ptsFrom
  rw [List.attachWith_map_subtype_val]

theorem pts_inj {a b : List Pt} (h : a.map (·.1) = b.map (·.1)) : a = b := by
  induction a generalizing b with
  | nil => cases b with | nil => rfl | cons y b => simp at h
  | cons x a ih =>
    cases b with
    | nil => simp at h
    | cons y b =>
      simp only [List.map_cons, List.cons.injEq] at h
      rw [Subtype.ext h.1, ih h.2]

theorem partAt_bound {l : List UInt8} (hl : l.length ≤ 65536) {k : Nat} (hk : k < l.length) : (partAt l k).at' + (partAt l k).n ≤ 65536 :=
  partsFrom_bound hl k _ (by rw [partsFrom, dif_pos hk]; exact List.mem_cons_self)

theorem ptsFrom_cons (l : List UInt8) (hl : l.length ≤ 65536) (k : Nat) (hk : k < l.length) : ptsFrom l hl k = ⟨partAt l k, partAt_bound hl hk⟩ :: ptsFrom l hl (k + partN (l.drop k)) := by
  apply pts_inj
  rw [ptsFrom_val, List.map_cons, ptsFrom_val, partsFrom, dif_pos hk]

theorem ptsFrom_nil (l : List UInt8) (hl : l.length ≤ 65536) (k : Nat) (hk : ¬ k < l.length) : ptsFrom l hl k = [] := by
  apply pts_inj
  rw [ptsFrom_val, partsFrom, dif_neg hk]; rfl

set_option maxHeartbeats 400000 in
/-- phys.parts boxes the text and answers its iterator. -/
theorem parts_any (s : ByteArray) (w : World) :
    Calls Tryz.prog 71 #[.string s] w fun e w' => e = .returned (.func (.func 90) #[] #[.pointer (some ⟨w.heap.size, 0, none⟩)]) ∧ w' = w.alloc (.cells #[.string s] 9) := by
  go_enter Tryz.func71, Tryz.ntmps71
  go_wp2
  go_ret
  exact ⟨rfl, rfl⟩

/-- phys.partAt's answer, as a part of the text's. -/
theorem partAt_pt (s : ByteArray) (k : Nat) (x : Pt) (w : World) (hs : s.size ≤ 65536) (hk : k < s.size) (hx : x.1 = partAt s.data.toList k) :
    Calls Tryz.prog 91 #[.string s, .int .i64 k] w fun e w' => e = .returned (.agg #[.int .u8 x.1.b.toNat, .int .i64 x.1.at', .int .i64 x.1.n, .bool x.1.sp]) ∧ Below w.heap.size w w' := by
  rw [hx]; exact partAt_any s k w hs hk

theorem end_pt (x : Pt) (w : World) :
    Calls Tryz.prog 92 #[.agg #[.int .u8 x.1.b.toNat, .int .i64 x.1.at', .int .i64 x.1.n, .bool x.1.sp]] w fun e w' => e = .returned (.int .i64 (x.1.at' + x.1.n : Nat)) ∧ w' = w.alloc (.cells #[.int .u8 x.1.b.toNat, .int .i64 x.1.at', .int .i64 x.1.n, .bool x.1.sp] 122) :=
  end_any x.1 w (by have := x.2; omega)

theorem pt_len {l : List UInt8} {hl : l.length ≤ 65536} {pre rest : List Pt} {x : Pt} (h : ptsFrom l hl 0 = pre ++ rest) (h2 : rest = x :: ptsFrom l hl (x.1.at' + x.1.n)) : pre.length < (ptsFrom l hl 0).length := by
  rw [h, h2]; simp

set_option maxRecDepth 100000 in
set_option maxHeartbeats 1000000 in
/-- The iterator: each part in order, as long as a round says 'go on'. -/
theorem parts1_in (n : Nat) (hn : 1 ≤ n) (s : ByteArray) (hs : s.size ≤ 65536) (l Bn : Nat) (J Jx : List Pt → World → Prop) (B0 : Nat) (hJa : AbidesFrom B0 J)
    (hY : ∀ pre (x : Pt) W, J pre W → pre.length < (ptsFrom s.data.toList hs 0).length → YieldAt Fence.wide (n - 1) Tryz.prog l #[x.1.val] W fun e W' =>
      (e = .returned (.bool true) ∧ J (pre ++ [x]) W' ∧ KeepsBox 122 Bn 9 W W') ∨ (e = .returned (.bool false) ∧ Jx (pre ++ [x]) W'))
    (W : World) (hBn : Boxed W Bn 9 (.string s)) (h0 : J [] W) :
    CallsIn Fence.wide n Tryz.prog 90 #[.func (.yield l) #[] #[], .pointer (some ⟨Bn, 0, none⟩)] W fun e W' => (∃ v, e = .returned v) ∧
      ((∃ ys, ys = ptsFrom s.data.toList hs 0 ∧ J ys W') ∨ (∃ pre, pre <+: ptsFrom s.data.toList hs 0 ∧ Jx pre W')) := by
  have hl : s.data.toList.length ≤ 65536 := hs
  refine callsIn_of_wp Tryz.func90 rfl trivial ?_ rfl
  simp only [Tryz.ntmps90, List.size_toArray, List.length_cons, List.length_nil, Nat.reduceAdd, Nat.reduceSub, Array.replicate_succ, Array.replicate_zero, List.push_toArray, List.append_toArray, List.nil_append, List.cons_append]
  gi_wp2
  gi_loopw [3] (fun p wr => ∃ (pre rest : List Pt) (k : Nat), p = .int .i64 k ∧ k ≤ s.size ∧ ptsFrom s.data.toList hs 0 = pre ++ rest ∧ rest = ptsFrom s.data.toList hs k ∧ J pre wr ∧ Boxed wr Bn 9 (.string s))
    (fun p _ => s.size - (intOf p).toNat)
  case atStart =>
    exact ⟨[], ptsFrom s.data.toList hs 0, 0, rfl, Nat.zero_le _, rfl, rfl, h0, hBn⟩
  case round =>
    obtain ⟨pre, rest, k, rfl, hk, hx, hr, hJs, hbx⟩ := hrel
    have hc := hbx.cell
    by_cases hlt : k < s.size
    · rw [ptsFrom_cons _ hs k hlt] at hr
      obtain ⟨x, hxv⟩ : ∃ x : Pt, x = ⟨partAt s.data.toList k, partAt_bound hs hlt⟩ := ⟨_, rfl⟩
      have hxk : x.1.at' + x.1.n = k + partN (s.data.toList.drop k) := by rw [hxv]; rfl
      have hx1 : x.1 = partAt s.data.toList k := by rw [hxv]
      rw [← hxv, ← hxk] at hr
      have hlen := pt_len hx hr
      have hpos := partN_pos (s.data.toList.drop k)
      have hle : x.1.at' + x.1.n ≤ s.size := by
        have hne : s.data.toList.drop k ≠ [] := fun h2 => by have := List.drop_eq_nil_iff.1 h2; rw [size_list] at this; omega
        have := partN_le hne
        rw [List.length_drop, size_list] at this
        omega
      have hgt : k < x.1.at' + x.1.n := by omega
      have HX := Lib.hid hx; clear hx
      have HR := Lib.hid hr; clear hr
      clear hxv
      have H1 := Lib.hid hx1; clear hx1
      clear hxk hpos
      gi_wp2_with fail
      refine ⟨trivial, (callsIn_wide.2 (partAt_pt s k x _ hs hlt H1.out)).mono ?_⟩
      rintro e w1 ⟨rfl, hb1⟩
      have hb2 : Below wr.heap.size wr (w1.alloc (.cells #[.int .u8 x.1.b.toNat, .int .i64 x.1.at', .int .i64 x.1.n, .bool x.1.sp] 122)) := hb1.alloc hb1.size _
      obtain ⟨fn, tmps, assign, body, hy, hR⟩ := hY pre x _ (abides_below hJa hJs hb2) hlen
      unfold Part.val at hy
      have hbox := World.alloc_heap_new w1 (.cells #[.int .u8 x.1.b.toNat, .int .i64 x.1.at', .int .i64 x.1.n, .bool x.1.sp] 122)
      gi_wp2_with fail
      refine hR.mono ?_
      rintro e W3 (⟨rfl, hJ3, hk4, hk5⟩ | ⟨rfl, hJx3⟩)
      · have hb3 := hk4 _ _ _ hbox
        have d0 : W3.cell? ⟨w1.heap.size, 0, none⟩ = some (.int .u8 x.1.b.toNat) := by rw [Lib.cell_of_heap hb3]; rfl
        have d1 : W3.cell? ⟨w1.heap.size, 1, none⟩ = some (.int .i64 x.1.at') := by rw [Lib.cell_of_heap hb3]; rfl
        have d2 : W3.cell? ⟨w1.heap.size, 2, none⟩ = some (.int .i64 x.1.n) := by rw [Lib.cell_of_heap hb3]; rfl
        have d3 : W3.cell? ⟨w1.heap.size, 3, none⟩ = some (.bool x.1.sp) := by rw [Lib.cell_of_heap hb3]; rfl
        have hbx3 : Boxed W3 Bn 9 (.string s) := hk5 _ ((hb2.block Bn hbx.lt).trans hbx)
        have H3 := Lib.hid hbx3
        clear hbx3
        gi_wp2_with fail
        refine ⟨trivial, (callsIn_wide.2 (end_pt x _)).mono ?_⟩
        rintro e w4 ⟨rfl, rfl⟩
        gi_wp2
        go_roundw
        case rel =>
          refine ⟨pre ++ [x], _, x.1.at' + x.1.n, rfl, hle, ?_, rfl, abides_below hJa hJ3 (below1 _ _), H3.out.alloc _⟩
          rw [HX.out, HR.out]; simp
        case measure => simp [intOf]; omega
      · gi_wp2
        refine bodyPost_ret (results_none rfl _ _ _) rfl ?_
        exact ⟨⟨_, rfl⟩, .inr ⟨pre ++ [x], ⟨ptsFrom s.data.toList hs (x.1.at' + x.1.n), by rw [HX.out, HR.out]; simp⟩, hJx3⟩⟩
    · rw [ptsFrom_nil _ hs k hlt] at hr
      subst hr
      rw [List.append_nil] at hx
      have HX := Lib.hid hx; clear hx
      gi_wp2
      go_end0
      exact ⟨⟨_, rfl⟩, .inl ⟨pre, HX.out.symm, hJs⟩⟩

/-- phys.parts' ITERATOR: all parts in order, or a prefix, where a round has said 'no more'. -/
theorem parts_stops (n : Nat) (hn : 1 ≤ n) (s : ByteArray) (hs : s.size ≤ 65536) (Bn : Nat) (w : World) (hc : Boxed w Bn 9 (.string s)) :
    SeqStopsK Fence.wide n Tryz.prog 90 #[.pointer (some ⟨Bn, 0, none⟩)] (fun x : Pt => #[.agg #[.int .u8 x.1.b.toNat, .int .i64 x.1.at', .int .i64 x.1.n, .bool x.1.sp]])
      (KeepsBox 122 Bn 9) (fun ys => ys = ptsFrom s.data.toList hs 0) (fun pre => pre <+: ptsFrom s.data.toList hs 0) (ptsFrom s.data.toList hs 0).length w := fun l J Jx W hW hJ _ hY h0 =>
  parts1_in n hn s hs l Bn J Jx W.heap.size hJ hY W ((hW.block Bn hc.lt).trans hc) h0

end Go.Proofs.YtaodjipnffgihaaGreat
