/- ctok.Class. -/
import Derived.Test.YtenmapahigbbeaaCtZ
namespace Go.Proofs.Ytenmapahigbbeaa
open Go.RowKit Go.Shelf

/-- What Class answers: the class (0: none), the text, the error. -/
def clsR (k : Int) (s : ByteArray) : Nat × ByteArray × Nat := if clsN k s = 0 then (0, ⟨#[]⟩, 40) else if clsN k s = 7 then (7, canB s, 0) else (clsN k s, s, 0)
theorem rcls {a b : Nat} {s t : ByteArray} {x y : Nat} (h : (b, t, y) = (a, s, x)) : Ending.returned (.tuple #[.agg #[.int .i64 a, .string s], .int .i64 x]) = .returned (.tuple #[.agg #[.int .i64 b, .string t], .int .i64 y]) := by cases h; rfl

theorem pair_below {w w1 : World} {T : TypeId} {x y : Value} (hb : Below (w.alloc (.cells #[x, y] T)).heap.size (w.alloc (.cells #[x, y] T)) w1) : w1.heap[w.heap.size]? = some (.cells #[x, y] T (0, 0)) :=
  (hb.block _ (by simp)).trans (World.alloc_heap_new _ _)
theorem pair_cells {W : World} {B : Nat} {T : TypeId} {x y : Value} (h : W.heap[B]? = some (.cells #[x, y] T (0, 0))) :
    W.cell? ⟨B, 0, none⟩ = some x ∧ W.cell? ⟨B, 1, none⟩ = some y ∧ W.frozen? ⟨B, 0, none⟩ = false ∧ W.frozen? ⟨B, 1, none⟩ = false :=
  ⟨by rw [Lib.cell_of_heap h]; rfl, by rw [Lib.cell_of_heap h]; rfl, by simp [World.frozen?, h], by simp [World.frozen?, h]⟩
theorem pair_set {W : World} {B : Nat} {T : TypeId} {x y : Value} (h : W.heap[B]? = some (.cells #[x, y] T (0, 0))) (a b : Value) :
    ((W.setCell ⟨B, 0, none⟩ a).setCell ⟨B, 1, none⟩ b).heap[B]? = some (.cells #[a, b] T (0, 0)) := by simp [World.setCell, Array.getElem?_modify, h]
/-- What Class hands back: its struct, and the error. -/
theorem results_cls (tmps : Array Value) (B : Nat) (x y v : Value) (W : World) (h2 : tmps[4]?.getD undef = .pointer (some ⟨B, 0, none⟩)) (h3 : tmps[5]?.getD undef = v)
    (c0 : W.cell? ⟨B, 0, none⟩ = some x) (c1 : W.cell? ⟨B, 1, none⟩ = some y) : (results Try.f20 tmps).run Try.prog W = .ok (.tuple #[.agg #[x, y], v]) W := by
  simp [results, Try.results20, go_sem, h2, h3, c0, c1]

set_option maxRecDepth 100000 in
set_option maxHeartbeats 4000000 in
theorem Class_any (k : Int) (s : ByteArray) (w : World) (hs : s.size ≤ 200000) (hL : LibVar w) :
    Calls Try.prog 20 #[.int .i64 k, .string s] w fun e w' => e = .returned (.tuple #[.agg #[.int .i64 ((clsR k s).1 : Nat), .string (clsR k s).2.1], .int .i64 ((clsR k s).2.2 : Nat)]) ∧ Below w.heap.size w w' := by
  obtain ⟨R, hR⟩ : ∃ R, clsR k s = R := ⟨_, rfl⟩
  rw [hR]
  unfold clsR at hR
  have hb0 := below1 w (.cells #[.int .i64 0, .string ⟨#[]⟩] 42)
  have C := fun w' (hb : Below w.heap.size w w') => classOf_any k s w' hs (libVar_below hb hL)
  have CC := fun w => Canon_any s w (by omega)
  have CS := fun w => clone_any s w (by omega)
  obtain ⟨c, hc⟩ : ∃ c, clsN k s = c := ⟨_, rfl⟩
  rw [hc] at hR
  simp only [hc] at C
  clear hc
  by_cases h0 : c = 0
  · rw [if_pos h0] at hR
    have HO := Lib.hid hR.symm
    subst h0
    clear hR
    go_enter Try.func20, Try.ntmps20
    go_wp2_with fail
    refine (C _ hb0).mono ?_
    rintro e w1 ⟨rfl, hb1⟩
    have hB1 := hb0.trans (hb1.mono hb0.size)
    have hk := pair_below hb1
    obtain ⟨d0, d1, f0, f1⟩ := pair_cells hk
    have hk3 := pair_set hk (.int .i64 0) (.string ⟨#[]⟩)
    clear hk
    obtain ⟨e0, e1, -, -⟩ := pair_cells hk3
    go_wp2
    refine bodyPost_ret (results_cls _ w.heap.size _ _ _ _ rfl rfl e0 e1) rfl ?_
    exact ⟨rcls HO.out, (hB1.setCell (Nat.le_refl _) _).setCell (Nat.le_refl _) _⟩
  · rw [if_neg h0] at hR
    by_cases h7 : c = 7
    · rw [if_pos h7] at hR
      have HO := Lib.hid hR.symm
      subst h7
      clear hR h0
      go_enter Try.func20, Try.ntmps20
      go_wp2_with fail
      refine (C _ hb0).mono ?_
      rintro e w1 ⟨rfl, hb1⟩
      have hB1 := hb0.trans (hb1.mono hb0.size)
      have hk := pair_below hb1
      go_wp2_with fail
      refine (CC _).mono ?_
      rintro e w2 ⟨rfl, hb2⟩
      have hB2 := hB1.trans (hb2.mono hB1.size)
      have hk2 := (hb2.block _ (Array.getElem?_eq_some_iff.1 hk).1).trans hk
      clear hk
      have hk := hk2
      obtain ⟨d0, d1, f0, f1⟩ := pair_cells hk
      have hk3 := pair_set hk (.int .i64 7) (.string (canB s))
      clear hk
      obtain ⟨e0, e1, -, -⟩ := pair_cells hk3
      go_wp2
      refine bodyPost_ret (results_cls _ w.heap.size _ _ _ _ rfl rfl e0 e1) rfl ?_
      exact ⟨rcls HO.out, (hB2.setCell (Nat.le_refl _) _).setCell (Nat.le_refl _) _⟩
    · rw [if_neg h7] at hR
      have HO := Lib.hid hR.symm
      have i1 : ((c : Int) == 0) = false := beq_eq_false_iff_ne.2 (by omega)
      have i2 : ((c : Int) == 7) = false := beq_eq_false_iff_ne.2 (by omega)
      clear hR h0 h7
      go_enter Try.func20, Try.ntmps20
      go_wp2_with fail
      refine (C _ hb0).mono ?_
      rintro e w1 ⟨rfl, hb1⟩
      have hB1 := hb0.trans (hb1.mono hb0.size)
      have hk := pair_below hb1
      go_wp2_with fail
      refine (CS _).mono ?_
      rintro e w2 ⟨rfl, hb2⟩
      have hB2 := hB1.trans (hb2.mono hB1.size)
      have hk2 := (hb2.block _ (Array.getElem?_eq_some_iff.1 hk).1).trans hk
      clear hk
      have hk := hk2
      obtain ⟨d0, d1, f0, f1⟩ := pair_cells hk
      have hk3 := pair_set hk (.int .i64 c) (.string s)
      clear hk
      obtain ⟨e0, e1, -, -⟩ := pair_cells hk3
      go_wp2
      refine bodyPost_ret (results_cls _ w.heap.size _ _ _ _ rfl rfl e0 e1) rfl ?_
      exact ⟨rcls HO.out, (hB2.setCell (Nat.le_refl _) _).setCell (Nat.le_refl _) _⟩

end Go.Proofs.Ytenmapahigbbeaa
