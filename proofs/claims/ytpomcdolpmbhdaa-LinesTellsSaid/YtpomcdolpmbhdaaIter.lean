/- phys.parts: the iterator over a text's parts. -/
import Derived.RangeFuncNested
import Derived.RangeFuncLeaves
import Derived.RangeFuncBox
import Derived.Shelf.Abstract
import Derived.OwnWalkIn
import Derived.TacticsInMore
import Derived.LoopNIn
import Derived.LoopIn
import Derived.Test.YtpomcdolpmbhdaaPart
import Derived.Test.YtpomcdolpmbhdaaKeeps
namespace Go.Proofs.Ytpomcdolpmbhdaa
open Go.RowKit Go.Shelf

attribute [local go_sem] Oper.semAt_some

/-- A part that lies within the greatest text. -/
abbrev Pt := { p : Part // p.at' + p.n ≤ 65536 }

theorem partsFrom_bound {l : List UInt8} (hl : l.length ≤ 65536) : ∀ (k : Nat), ∀ p ∈ partsFrom l k, p.at' + p.n ≤ 65536 := by
  intro k
  induction hm : l.length - k using Nat.strongRecOn generalizing k with
  | ind m ih =>
    intro p hp
    unfold partsFrom at hp
    split at hp
    · rename_i h
      rcases List.mem_cons.1 hp with rfl | hp
      · have hne : l.drop k ≠ [] := fun h2 => by have := List.drop_eq_nil_iff.1 h2; omega
        have := partN_le hne
        rw [List.length_drop] at this
        simp only [partAt]
        omega
      · have hpos := partN_pos (l.drop k)
        exact ih (l.length - (k + partN (l.drop k))) (by omega) (k + partN (l.drop k)) rfl p hp
    · simp at hp

/-- The parts of a list of at most 65536 bytes. -/
def ptsFrom (l : List UInt8) (hl : l.length ≤ 65536) (k : Nat) : List Pt := (partsFrom l k).attachWith _ (partsFrom_bound hl k)

theorem ptsFrom_val (l : List UInt8) (hl : l.length ≤ 65536) (k : Nat) : (ptsFrom l hl k).map (·.1) = partsFrom l k := by
  unfold ptsFrom
  rw [List.attachWith_map_subtype_val]

theorem pts_inj {a b : List Pt} (h : a.map (·.1) = b.map (·.1)) : a = b := by
  induction a generalizing b with
  | nil => cases b with | nil => rfl | cons y b => simp at h
  | cons x a ih =>
    cases b with
    | nil => simp at h
    | cons y b =>
      simp only [List.map_cons, List.cons.injEq] at h
      rw [Subtype.ext h.1, ih h.2]

theorem partAt_bound {l : List UInt8} (hl : l.length ≤ 65536) {k : Nat} (hk : k < l.length) : (partAt l k).at' + (partAt l k).n ≤ 65536 :=
  partsFrom_bound hl k _ (by rw [partsFrom, dif_pos hk]; exact List.mem_cons_self)

theorem ptsFrom_cons (l : List UInt8) (hl : l.length ≤ 65536) (k : Nat) (hk : k < l.length) : ptsFrom l hl k = ⟨partAt l k, partAt_bound hl hk⟩ :: ptsFrom l hl (k + partN (l.drop k)) := by
  apply pts_inj
  rw [ptsFrom_val, List.map_cons, ptsFrom_val, partsFrom, dif_pos hk]

theorem ptsFrom_nil (l : List UInt8) (hl : l.length ≤ 65536) (k : Nat) (hk : ¬ k < l.length) : ptsFrom l hl k = [] := by
  apply pts_inj
  rw [ptsFrom_val, partsFrom, dif_neg hk]; rfl

theorem grownBy_below {w w' : World} (h : Below w.heap.size w w') : w.grownBy w' none := ⟨h.os, h.tape, h.output, h.size, fun k hk _ => h.block k hk⟩

theorem abides_below {β : Type} {B : Nat} {J : β → World → Prop} (h : AbidesFrom B J) {s : β} {W W' : World} (hs : J s W) (hb : Below W.heap.size W W') : J s W' :=
  h s W W' none hs (grownBy_below hb) (fun r e => by cases e)

set_option maxHeartbeats 400000 in
/-- phys.parts boxes the text and answers its iterator. -/
theorem parts_any (s : ByteArray) (w : World) :
    Calls Try.prog 48 #[.string s] w fun e w' => e = .returned (.func (.func 58) #[] #[.pointer (some ⟨w.heap.size, 0, none⟩)]) ∧ w' = w.alloc (.cells #[.string s] 9) := by
  go_enter Try.func48, Try.ntmps48
  go_wp2
  go_ret
  exact ⟨rfl, rfl⟩

/-- phys.partAt's answer, as a part of the text's. -/
theorem partAt_pt (s : ByteArray) (k : Nat) (x : Pt) (w : World) (hs : s.size ≤ 65536) (hk : k < s.size) (hx : x.1 = partAt s.data.toList k) :
    Calls Try.prog 59 #[.string s, .int .i64 k] w fun e w' => e = .returned (.agg #[.int .u8 x.1.b.toNat, .int .i64 x.1.at', .int .i64 x.1.n, .bool x.1.sp]) ∧ Below w.heap.size w w' := by
  rw [hx]; exact partAt_any s k w hs hk

theorem end_pt (x : Pt) (w : World) :
    Calls Try.prog 60 #[.agg #[.int .u8 x.1.b.toNat, .int .i64 x.1.at', .int .i64 x.1.n, .bool x.1.sp]] w fun e w' => e = .returned (.int .i64 (x.1.at' + x.1.n : Nat)) ∧ w' = w.alloc (.cells #[.int .u8 x.1.b.toNat, .int .i64 x.1.at', .int .i64 x.1.n, .bool x.1.sp] 86) :=
  end_any x.1 w (by have := x.2; omega)

theorem pt_len {l : List UInt8} {hl : l.length ≤ 65536} {pre rest : List Pt} {x : Pt} (h : ptsFrom l hl 0 = pre ++ rest) (h2 : rest = x :: ptsFrom l hl (x.1.at' + x.1.n)) : pre.length < (ptsFrom l hl 0).length := by
  rw [h, h2]; simp

set_option maxRecDepth 100000 in
set_option maxHeartbeats 1000000 in
/-- The iterator: each part in order, as long as a round says 'go on'. -/
theorem parts1_in (n : Nat) (hn : 1 ≤ n) (s : ByteArray) (hs : s.size ≤ 65536) (l Bn : Nat) (J Jx : List Pt → World → Prop) (B0 : Nat) (hJa : AbidesFrom B0 J)
    (hY : ∀ pre (x : Pt) W, J pre W → pre.length < (ptsFrom s.data.toList hs 0).length → YieldAt Fence.wide (n - 1) Try.prog l #[x.1.val] W fun e W' =>
      (e = .returned (.bool true) ∧ J (pre ++ [x]) W' ∧ KeepsBox 86 Bn 9 W W') ∨ (e = .returned (.bool false) ∧ Jx (pre ++ [x]) W'))
    (W : World) (hBn : Boxed W Bn 9 (.string s)) (h0 : J [] W) :
    CallsIn Fence.wide n Try.prog 58 #[.func (.yield l) #[] #[], .pointer (some ⟨Bn, 0, none⟩)] W fun e W' => (∃ v, e = .returned v) ∧
      ((∃ ys, ys = ptsFrom s.data.toList hs 0 ∧ J ys W') ∨ (∃ pre, pre <+: ptsFrom s.data.toList hs 0 ∧ Jx pre W')) := by
  have hl : s.data.toList.length ≤ 65536 := hs
  refine callsIn_of_wp Try.func58 rfl trivial ?_ rfl
  simp only [Try.ntmps58, List.size_toArray, List.length_cons, List.length_nil, Nat.reduceAdd, Nat.reduceSub, Array.replicate_succ, Array.replicate_zero, List.push_toArray, List.append_toArray, List.nil_append, List.cons_append]
  gi_wp2
  gi_loopw [3] (fun p wr => ∃ (pre rest : List Pt) (k : Nat), p = .int .i64 k ∧ k ≤ s.size ∧ ptsFrom s.data.toList hs 0 = pre ++ rest ∧ rest = ptsFrom s.data.toList hs k ∧ J pre wr ∧ Boxed wr Bn 9 (.string s))
    (fun p _ => s.size - (intOf p).toNat)
  case atStart =>
    exact ⟨[], ptsFrom s.data.toList hs 0, 0, rfl, Nat.zero_le _, rfl, rfl, h0, hBn⟩
  case round =>
    obtain ⟨pre, rest, k, rfl, hk, hx, hr, hJs, hbx⟩ := hrel
    have hc := hbx.cell
    by_cases hlt : k < s.size
    · rw [ptsFrom_cons _ hs k hlt] at hr
      obtain ⟨x, hxv⟩ : ∃ x : Pt, x = ⟨partAt s.data.toList k, partAt_bound hs hlt⟩ := ⟨_, rfl⟩
      have hxk : x.1.at' + x.1.n = k + partN (s.data.toList.drop k) := by rw [hxv]; rfl
      have hx1 : x.1 = partAt s.data.toList k := by rw [hxv]
      rw [← hxv, ← hxk] at hr
      have hlen := pt_len hx hr
      have hpos := partN_pos (s.data.toList.drop k)
      have hle : x.1.at' + x.1.n ≤ s.size := by
        have hne : s.data.toList.drop k ≠ [] := fun h2 => by have := List.drop_eq_nil_iff.1 h2; rw [size_list] at this; omega
        have := partN_le hne
        rw [List.length_drop, size_list] at this
        omega
      have hgt : k < x.1.at' + x.1.n := by omega
      have HX := Lib.hid hx; clear hx
      have HR := Lib.hid hr; clear hr
      clear hxv
      have H1 := Lib.hid hx1; clear hx1
      clear hxk hpos
      gi_wp2_with fail
      refine ⟨trivial, (callsIn_wide.2 (partAt_pt s k x _ hs hlt H1.out)).mono ?_⟩
      rintro e w1 ⟨rfl, hb1⟩
      have hb2 : Below wr.heap.size wr (w1.alloc (.cells #[.int .u8 x.1.b.toNat, .int .i64 x.1.at', .int .i64 x.1.n, .bool x.1.sp] 86)) := hb1.alloc hb1.size _
      obtain ⟨fn, tmps, assign, body, hy, hR⟩ := hY pre x _ (abides_below hJa hJs hb2) hlen
      unfold Part.val at hy
      have hbox := World.alloc_heap_new w1 (.cells #[.int .u8 x.1.b.toNat, .int .i64 x.1.at', .int .i64 x.1.n, .bool x.1.sp] 86)
      gi_wp2_with fail
      refine hR.mono ?_
      rintro e W3 (⟨rfl, hJ3, hk4, hk5⟩ | ⟨rfl, hJx3⟩)
      · have hb3 := hk4 _ _ _ hbox
        have d0 : W3.cell? ⟨w1.heap.size, 0, none⟩ = some (.int .u8 x.1.b.toNat) := by rw [Lib.cell_of_heap hb3]; rfl
        have d1 : W3.cell? ⟨w1.heap.size, 1, none⟩ = some (.int .i64 x.1.at') := by rw [Lib.cell_of_heap hb3]; rfl
        have d2 : W3.cell? ⟨w1.heap.size, 2, none⟩ = some (.int .i64 x.1.n) := by rw [Lib.cell_of_heap hb3]; rfl
        have d3 : W3.cell? ⟨w1.heap.size, 3, none⟩ = some (.bool x.1.sp) := by rw [Lib.cell_of_heap hb3]; rfl
        have hbx3 : Boxed W3 Bn 9 (.string s) := hk5 _ ((hb2.block Bn hbx.lt).trans hbx)
        have H3 := Lib.hid hbx3
        clear hbx3
        gi_wp2_with fail
        refine ⟨trivial, (callsIn_wide.2 (end_pt x _)).mono ?_⟩
        rintro e w4 ⟨rfl, rfl⟩
        gi_wp2
        go_roundw
        case rel =>
          refine ⟨pre ++ [x], _, x.1.at' + x.1.n, rfl, hle, ?_, rfl, abides_below hJa hJ3 (below1 _ _), H3.out.alloc _⟩
          rw [HX.out, HR.out]; simp
        case measure => simp [intOf]; omega
      · gi_wp2
        refine bodyPost_ret (results_none rfl _ _ _) rfl ?_
        exact ⟨⟨_, rfl⟩, .inr ⟨pre ++ [x], ⟨ptsFrom s.data.toList hs (x.1.at' + x.1.n), by rw [HX.out, HR.out]; simp⟩, hJx3⟩⟩
    · rw [ptsFrom_nil _ hs k hlt] at hr
      subst hr
      rw [List.append_nil] at hx
      have HX := Lib.hid hx; clear hx
      gi_wp2
      go_end0
      exact ⟨⟨_, rfl⟩, .inl ⟨pre, HX.out.symm, hJs⟩⟩

/-- phys.parts' ITERATOR: all parts in order, or a prefix, where a round has said 'no more'. -/
theorem parts_stops (n : Nat) (hn : 1 ≤ n) (s : ByteArray) (hs : s.size ≤ 65536) (Bn : Nat) (w : World) (hc : Boxed w Bn 9 (.string s)) :
    SeqStopsK Fence.wide n Try.prog 58 #[.pointer (some ⟨Bn, 0, none⟩)] (fun x : Pt => #[.agg #[.int .u8 x.1.b.toNat, .int .i64 x.1.at', .int .i64 x.1.n, .bool x.1.sp]])
      (KeepsBox 86 Bn 9) (fun ys => ys = ptsFrom s.data.toList hs 0) (fun pre => pre <+: ptsFrom s.data.toList hs 0) (ptsFrom s.data.toList hs 0).length w := fun l J Jx W hW hJ _ hY h0 =>
  parts1_in n hn s hs l Bn J Jx W.heap.size hJ hY W ((hW.block Bn hc.lt).trans hc) h0

end Go.Proofs.Ytpomcdolpmbhdaa
