/- macro.cutHead. -/
import Derived.Test.YtaodjipnffgihaaGreatMcH
namespace Go.Proofs.YtaodjipnffgihaaGreat
open Go.RowKit Go.Shelf

/-- What cutHead answers. -/
def HeadRes (w : World) (x : Option (Mz × List Tz)) (e : Ending) (w' : World) : Prop :=
  (match x with
    | none => e = .returned (.tuple #[.agg #[.string ⟨#[]⟩, .bool false, .slice none 0 0, .bool false, .slice none 0 0], .slice none 0 0, .bool false])
    | some (m, l) => ∃ v a cap, e = .returned (.tuple #[.agg #[.string m.nm, .bool m.fn, v, .bool m.vr, .slice none 0 0], .slice a l.length cap, .bool true]) ∧ w'.ownsRow w.heap.size 9 1 v m.ps.length (stV m.ps) ∧ l.length ≤ cap ∧ ToksAt w w.heap.size a l) ∧ Below w.heap.size w w'
theorem HeadRes.no {w w' : World} {x : Option (Mz × List Tz)} {e : Ending} (hx : x = none) (he : e = .returned (.tuple #[.agg #[.string ⟨#[]⟩, .bool false, .slice none 0 0, .bool false, .slice none 0 0], .slice none 0 0, .bool false])) (hb : Below w.heap.size w w') : HeadRes w x e w' := by
  subst hx; exact ⟨he, hb⟩
theorem HeadRes.yes {w w' : World} {x : Option (Mz × List Tz)} {e : Ending} {nm : ByteArray} {fn vr : Bool} {ps : List ByteArray} {l : List Tz} {k cap : Nat} {v : Value} {a : Option Addr} (hx : x = some (⟨nm, fn, ps, vr, []⟩, l)) (hk : l.length = k) (he : e = .returned (.tuple #[.agg #[.string nm, .bool fn, v, .bool vr, .slice none 0 0], .slice a k cap, .bool true])) (hr : w'.ownsRow w.heap.size 9 1 v ps.length (stV ps)) (hc : k ≤ cap) (ht : ToksAt w w.heap.size a l) (hb : Below w.heap.size w w') : HeadRes w x e w' := by
  subst hx hk; exact ⟨⟨v, a, cap, he, hr, hc, ht⟩, hb⟩
/-- A macro's block. -/
def MzBox (W : World) (P : Nat) (a b c d e : Value) : Prop := W.heap[P]? = some (.cells #[a, b, c, d, e] 25 (0, 0))
theorem MzBox.facts {W : World} {P : Nat} {a b c d e : Value} (h : MzBox W P a b c d e) : W.cell? ⟨P, 0, none⟩ = some a ∧ W.cell? ⟨P, 1, none⟩ = some b ∧ W.cell? ⟨P, 2, none⟩ = some c ∧ W.cell? ⟨P, 3, none⟩ = some d ∧ W.cell? ⟨P, 4, none⟩ = some e ∧ W.frozen? ⟨P, 0, none⟩ = false ∧ W.frozen? ⟨P, 1, none⟩ = false ∧ W.frozen? ⟨P, 2, none⟩ = false ∧ W.frozen? ⟨P, 3, none⟩ = false ∧ W.frozen? ⟨P, 4, none⟩ = false := by
  unfold MzBox at h
  refine ⟨?_, ?_, ?_, ?_, ?_, ?_, ?_, ?_, ?_, ?_⟩
  all_goals simp [World.cell?, World.frozen?, h]
theorem MzBox.below {W W' : World} {P : Nat} {a b c d e : Value} (h : MzBox W P a b c d e) (hb : Below W.heap.size W W') : MzBox W' P a b c d e := (hb.block P (Array.getElem?_eq_some_iff.1 h).1).trans h
theorem MzBox.new (w : World) (a b c d e : Value) : MzBox (w.alloc (.cells #[a, b, c, d, e] 25)) w.heap.size a b c d e := World.alloc_heap_new w _
theorem MzBox.drew {W : World} {P : Nat} {a b c d e : Value} (h : MzBox W P a b c d e) : MzBox W.drew P a b c d e := h
theorem MzBox.set0 {W : World} {P : Nat} {a b c d e : Value} (h : MzBox W P a b c d e) (u : Value) : MzBox (W.setCell ⟨P, 0, none⟩ u) P u b c d e := by
  unfold MzBox at h ⊢
  simp [World.setCell, Array.getElem?_modify, h]
theorem MzBox.set1 {W : World} {P : Nat} {a b c d e : Value} (h : MzBox W P a b c d e) (u : Value) : MzBox (W.setCell ⟨P, 1, none⟩ u) P a u c d e := by
  unfold MzBox at h ⊢
  simp [World.setCell, Array.getElem?_modify, h]
theorem MzBox.set2 {W : World} {P : Nat} {a b c d e : Value} (h : MzBox W P a b c d e) (u : Value) : MzBox (W.setCell ⟨P, 2, none⟩ u) P a b u d e := by
  unfold MzBox at h ⊢
  simp [World.setCell, Array.getElem?_modify, h]
theorem MzBox.set3 {W : World} {P : Nat} {a b c d e : Value} (h : MzBox W P a b c d e) (u : Value) : MzBox (W.setCell ⟨P, 3, none⟩ u) P a b c u e := by
  unfold MzBox at h ⊢
  simp [World.setCell, Array.getElem?_modify, h]
theorem MzBox.set4 {W : World} {P : Nat} {a b c d e : Value} (h : MzBox W P a b c d e) (u : Value) : MzBox (W.setCell ⟨P, 4, none⟩ u) P a b c d u := by
  unfold MzBox at h ⊢
  simp [World.setCell, Array.getElem?_modify, h]
theorem ownsRow_set5 {W : World} {P base n : Nat} {v a b c d e : Value} {xs : List Value} {T : TypeId} {z : Nat} (h : W.ownsRow base T z v n xs) (hv : ∀ j, v.ownBlock = some j → j ≠ P) : (((((W.setCell ⟨P, 0, none⟩ a).setCell ⟨P, 1, none⟩ b).setCell ⟨P, 2, none⟩ c).setCell ⟨P, 3, none⟩ d).setCell ⟨P, 4, none⟩ e).ownsRow base T z v n xs := by
  refine ⟨h.1, ?_⟩
  rcases h.2 with h1 | ⟨g, cap, cur, h1, h2, h3, h4⟩
  · exact .inl h1
  · refine .inr ⟨g, cap, cur, h1, h2, ?_, h4⟩
    have hg : g ≠ P := hv g (by rw [h1]; rfl)
    rw [Below.heap_setCell _ _ _ _ hg, Below.heap_setCell _ _ _ _ hg, Below.heap_setCell _ _ _ _ hg, Below.heap_setCell _ _ _ _ hg, Below.heap_setCell _ _ _ _ hg]
    exact h3
theorem row_setC {W : World} {P i base n : Nat} {v a : Value} {xs : List Value} {T : TypeId} {z : Nat} (h : W.ownsRow base T z v n xs) (hv : ∀ j, v.ownBlock = some j → j ≠ P) : (W.setCell ⟨P, i, none⟩ a).ownsRow base T z v n xs := by
  refine ⟨h.1, ?_⟩
  rcases h.2 with h1 | ⟨g, cap, cur, h1, h2, h3, h4⟩
  · exact .inl h1
  · refine .inr ⟨g, cap, cur, h1, h2, ?_, h4⟩
    have hg : g ≠ P := hv g (by rw [h1]; rfl)
    rw [Below.heap_setCell _ _ _ _ hg]
    exact h3
theorem row_lower {w : World} {b b' n : Nat} {e : TypeId} {size : Nat} {v : Value} {xs : List Value} (hb : b' < b) (h : w.ownsRow b e size v n xs) : w.ownsRow b' e size v n xs := by
  refine ⟨h.1, ?_⟩
  rcases h.2 with h1 | ⟨g, cap, cur, h1, h2, h3⟩
  · exact .inl h1
  · exact .inr ⟨g, cap, cur, h1, Nat.le_trans (Nat.le_of_lt hb) h2, h3⟩
/-- What lies below B lay there. -/
theorem toksAt_back {W W' : World} {B : Nat} {a : Option Addr} {ts : List Tz} (h : ToksAt W' B a ts) (hb : Below B W W') : ToksAt W B a ts := fun hp => by
  obtain ⟨b, o, e, hlt, ht⟩ := h hp
  refine ⟨b, o, e, hlt, fun i t hi => ?_⟩
  have hc : ∀ p, W'.cell? ⟨b, p, none⟩ = W.cell? ⟨b, p, none⟩ := fun p => hb.cell (p := ⟨b, p, none⟩) hlt
  have := ht i t hi
  rw [hc, hc, hc, hc, hc] at this
  exact this
theorem below_set5 {B : Nat} {w W : World} {P : Nat} {a b c d e : Value} (h : Below B w W) (hP : B ≤ P) : Below B w (((((W.setCell ⟨P, 0, none⟩ a).setCell ⟨P, 1, none⟩ b).setCell ⟨P, 2, none⟩ c).setCell ⟨P, 3, none⟩ d).setCell ⟨P, 4, none⟩ e) :=
  ((((h.setCell (p := ⟨P, 0, none⟩) hP _).setCell (p := ⟨P, 1, none⟩) hP _).setCell (p := ⟨P, 2, none⟩) hP _).setCell (p := ⟨P, 3, none⟩) hP _).setCell (p := ⟨P, 4, none⟩) hP _

set_option maxRecDepth 100000 in
set_option maxHeartbeats 4000000 in
theorem cutHead_nil (cap : Nat) (a : Option Addr) (w : World) : Calls Tryz.prog 55 #[.slice a 0 cap] w (HeadRes w none) := by
  have hb0 := below1 w (.cells #[.string ⟨#[]⟩, .bool false, .slice none 0 0, .bool false, .slice none 0 0] 25)
  have hM := MzBox.new w (.string ⟨#[]⟩) (.bool false) (.slice none 0 0) (.bool false) (.slice none 0 0)
  obtain ⟨z0, z1, z2, z3, z4, f0, f1, f2, f3, f4⟩ := hM.facts
  go_enter Tryz.func55, Tryz.ntmps55
  go_wp2
  refine bodyPost_ret (v := .tuple #[.agg #[.string ⟨#[]⟩, .bool false, .slice none 0 0, .bool false, .slice none 0 0], .slice none 0 0, .bool false]) (by simp [results, Tryz.results55, go_sem, z0, z1, z2, z3, z4]) rfl ?_
  exact HeadRes.no rfl rfl hb0

set_option maxRecDepth 100000 in
set_option maxHeartbeats 16000000 in
theorem cutHead_bad (t : Tz) (r : List Tz) (n cap : Nat) (a : Option Addr) (w : World) (hn : r.length + 1 = n) (hnc : n ≤ cap) (hn2 : n * 48 ≤ 140737488355328) (hx : ∀ x ∈ t :: r, x.tx.size ≤ 281474976710656) (hT : TzIn w a (t :: r)) (hnm : nameP t = false) :
    Calls Tryz.prog 55 #[.slice a n cap] w (HeadRes w (headS (t :: r))) := by
  have hb0 := below1 w (.cells #[.string ⟨#[]⟩, .bool false, .slice none 0 0, .bool false, .slice none 0 0] 25)
  have hM0 := MzBox.new w (.string ⟨#[]⟩) (.bool false) (.slice none 0 0) (.bool false) (.slice none 0 0)
  obtain ⟨b, o, rfl, hg1, hr⟩ := hT (by simp)
  have hrM := hr.below hb0 hg1
  obtain ⟨c0, c1, c2, c3, c4⟩ := hrM 0 t rfl
  rw [Nat.zero_mul, Nat.add_zero] at c0 c1 c2 c3 c4
  have CN := mayName_any t (w.alloc (.cells #[.string ⟨#[]⟩, .bool false, .slice none 0 0, .bool false, .slice none 0 0] 25))
  have htx := hx t List.mem_cons_self
  have q1 : (0 : Int) < (n : Int) := by omega
  have q2 : (1 : Int) ≤ (n : Int) := by omega
  have q3 : (1 : Int) ≤ (cap : Int) := by omega
  have q4 : ((n : Int) == 0) = false := beq_eq_false_iff_ne.2 (by omega)
  have HTZ : Hid (∀ W, Below w.heap.size w W → TzAt W b o (t :: r)) := Lib.hid (fun W h => hr.below h hg1)
  have hh : headS (t :: r) = none := by unfold headS; simp only; rw [if_neg (by rw [hnm]; decide)]
  rw [hnm] at CN
  rw [hh]
  clear hn hx hT hr hrM hnm hh HTZ
  go_enter Tryz.func55, Tryz.ntmps55
  go_wp2_with fail
  refine CN.mono ?_
  rintro e w1 ⟨rfl, hb1⟩
  have hM1 := hM0.below hb1
  have hB1 := hb0.trans (hb1.mono hb0.size)
  clear CN c0 c1 c2 c3 c4
  obtain ⟨z0, z1, z2, z3, z4, f0, f1, f2, f3, f4⟩ := hM1.facts
  go_wp2
  refine bodyPost_ret (v := .tuple #[.agg #[.string ⟨#[]⟩, .bool false, .slice none 0 0, .bool false, .slice none 0 0], .slice none 0 0, .bool false]) (by simp [results, Tryz.results55, go_sem, z0, z1, z2, z3, z4]) rfl ?_
  exact HeadRes.no rfl rfl (below_set5 hB1 (Nat.le_refl _))


set_option maxRecDepth 100000 in
set_option maxHeartbeats 16000000 in
theorem cutHead_one (t : Tz) (n cap : Nat) (a : Option Addr) (w : World) (hn : 1 = n) (hnc : n ≤ cap) (hn2 : n * 48 ≤ 140737488355328) (hx : ∀ x ∈ [t], x.tx.size ≤ 281474976710656) (hT : TzIn w a ([t])) (hnm : nameP t = true) :
    Calls Tryz.prog 55 #[.slice a n cap] w (HeadRes w (headS ([t]))) := by
  have hb0 := below1 w (.cells #[.string ⟨#[]⟩, .bool false, .slice none 0 0, .bool false, .slice none 0 0] 25)
  have hM0 := MzBox.new w (.string ⟨#[]⟩) (.bool false) (.slice none 0 0) (.bool false) (.slice none 0 0)
  obtain ⟨b, o, rfl, hg1, hr⟩ := hT (by simp)
  have hrM := hr.below hb0 hg1
  obtain ⟨c0, c1, c2, c3, c4⟩ := hrM 0 t rfl
  rw [Nat.zero_mul, Nat.add_zero] at c0 c1 c2 c3 c4
  have CN := mayName_any t (w.alloc (.cells #[.string ⟨#[]⟩, .bool false, .slice none 0 0, .bool false, .slice none 0 0] 25))
  have htx := hx t List.mem_cons_self
  have q1 : (0 : Int) < (n : Int) := by omega
  have q2 : (1 : Int) ≤ (n : Int) := by omega
  have q3 : (1 : Int) ≤ (cap : Int) := by omega
  have q4 : ((n : Int) == 0) = false := beq_eq_false_iff_ne.2 (by omega)
  have HTZ : Hid (∀ W, Below w.heap.size w W → TzAt W b o ([t])) := Lib.hid (fun W h => hr.below h hg1)
  have hh : headS [t] = some (⟨t.tx, false, [], false, []⟩, []) := by unfold headS; simp only; rw [if_pos hnm]
  rw [hnm] at CN
  rw [hh]
  subst hn
  clear hx hT hr hrM hnm hh
  by_cases hcap : cap = 1
  · subst hcap
    go_enter Tryz.func55, Tryz.ntmps55
    go_wp2_with fail
    refine CN.mono ?_
    rintro e w1 ⟨rfl, hb1⟩
    have hM1 := hM0.below hb1
    have hB1 := hb0.trans (hb1.mono hb0.size)
    clear CN c0 c1 c2 c3 c4
    have x1 : w1.cell? ⟨b, o + 1, none⟩ = some (.string t.tx) := by
      have h := (HTZ.out w1 hB1 0 t rfl).2.1
      rw [Nat.zero_mul, Nat.add_zero] at h; exact h
    have HC := fun w' => clone_any t.tx w' htx
    have hgb : b < w1.heap.size := Nat.lt_of_lt_of_le hg1 hB1.size
    have hMb : w.heap.size ≠ b := by omega
    have hMs : w.heap.size < w1.heap.size := (Array.getElem?_eq_some_iff.1 hM1).1
    go_upto_region 3 with fail
    go_cut [3] from 4 to 57 (fun bv wx => bv = .slice (some ⟨b, o, none⟩) 0 0 ∧ MzBox wx w.heap.size (.string t.tx) (.bool false) (.slice none 0 0) (.bool false) (.slice none 0 0) ∧ Below w.heap.size w wx)
    case first =>
      refine wp_region_held_drew (S := (fun W : World => W.cell? ⟨b, o + 1, none⟩ = some (.string t.tx))) (by kernel_rfl) x1 (fun hS => ?_)
      refine take_op (i := 0) (d := 16) (v := .slice (some ⟨b, o, none⟩) 1 1) rfl rfl (by kernel_rfl) (by kernel_rfl) (by kernel_rfl) (fun _ _ _ h => h) (Or.inl ⟨by rfl, ?_⟩) hS ?_
      · rintro W x1
        go_simp
        try (intro hh; exfalso; omega)
      simp only [List.setIfInBounds_toArray, List.set_cons_zero, List.set_cons_succ]
      refine take_op (i := 1) (d := 17) (v := .pointer (some ⟨b, o, none⟩)) rfl rfl (by kernel_rfl) (by kernel_rfl) (by kernel_rfl) (fun _ _ _ h => h) (Or.inl ⟨by rfl, ?_⟩) hS ?_
      · rintro W x1
        go_simp
        try (intro hh; exfalso; omega)
      simp only [List.setIfInBounds_toArray, List.set_cons_zero, List.set_cons_succ]
      refine take_op (i := 2) (d := 18) (v := .pointer (some ⟨b, o + 1, none⟩)) rfl rfl (by kernel_rfl) (by kernel_rfl) (by kernel_rfl) (fun _ _ _ h => h) (Or.inl ⟨by rfl, ?_⟩) hS ?_
      · rintro W x1
        go_simp
        try (intro hh; exfalso; omega)
      simp only [List.setIfInBounds_toArray, List.set_cons_zero, List.set_cons_succ]
      refine take_op (i := 3) (d := 19) (v := .string t.tx) rfl rfl (by kernel_rfl) (by kernel_rfl) (by kernel_rfl) (fun _ _ _ h => h) (Or.inl ⟨by rfl, ?_⟩) hS ?_
      · rintro W x1
        go_simp
        try (intro hh; exfalso; omega)
      simp only [List.setIfInBounds_toArray, List.set_cons_zero, List.set_cons_succ]
      refine take_op (i := 5) (d := 21) (v := .slice (some ⟨b, o, none⟩) 1 1) rfl rfl (by kernel_rfl) (by kernel_rfl) (by kernel_rfl) (fun _ _ _ h => h) (Or.inl ⟨by rfl, ?_⟩) hS ?_
      · rintro W x1
        go_simp
        try (intro hh; exfalso; omega)
      simp only [List.setIfInBounds_toArray, List.set_cons_zero, List.set_cons_succ]
      refine take_op (i := 6) (d := 22) (v := .slice (some ⟨b, o, none⟩) 0 0) rfl rfl (by kernel_rfl) (by kernel_rfl) (by kernel_rfl) (fun _ _ _ h => h) (Or.inl ⟨by rfl, ?_⟩) hS ?_
      · rintro W x1
        go_simp
        try (intro hh; exfalso; omega)
      simp only [List.setIfInBounds_toArray, List.set_cons_zero, List.set_cons_succ]
      refine wpAnyH_ready (rs := [4]) (by kernel_rfl) (by simp) ?_
      refine AllReadyH.cons rfl (fun K hK => ?_) AllReadyH.nil
      go_simp
      refine (HC _).mono ?_
      rintro e w2 ⟨rfl, hb2⟩
      have hb12 : Below w1.heap.size w1 w2 := (below_drewN (Below.refl w1.heap.size w1) 1).trans (hb2.mono (Nat.le_refl _))
      have hM2 := hM1.below hb12
      have hB2 := hB1.trans (hb12.mono hB1.size)
      obtain ⟨z0, z1, z2, z3, z4, f0, f1, f2, f3, f4⟩ := hM2.facts
      go_wp2_with fail
      refine hK.out _ _ ((hb12.cell (p := ⟨b, o + 1, none⟩) hgb).trans x1) (fun hS => ?_)
      clear hK K
      refine take_op (i := 7) (d := 23) (v := .pointer (some ⟨w.heap.size, 0, none⟩)) rfl rfl (by kernel_rfl) (by kernel_rfl) (by kernel_rfl) (fun _ _ _ h => h) (Or.inl ⟨by rfl, ?_⟩) hS ?_
      · rintro W x1
        go_simp
        try (intro hh; exfalso; omega)
      simp only [List.setIfInBounds_toArray, List.set_cons_zero, List.set_cons_succ]
      refine wpAnyH_ready (rs := [8]) (by kernel_rfl) (by simp) ?_
      refine AllReadyH.cons rfl (fun K hK => ?_) AllReadyH.nil
      go_simp
      refine hK.out _ _ ((World.cell?_setCell_far w2 ⟨w.heap.size, 0, none⟩ ⟨b, o + 1, none⟩ _ hMb).trans ((hb12.cell (p := ⟨b, o + 1, none⟩) hgb).trans x1)) (fun hS => ?_)
      clear hK K
      refine take_op (i := 9) (d := 3) (v := .slice (some ⟨b, o, none⟩) 0 0) rfl rfl (by kernel_rfl) (by kernel_rfl) (by kernel_rfl) (fun _ _ _ h => h) (Or.inl ⟨by rfl, ?_⟩) hS ?_
      · rintro W x1
        go_simp
        try (intro hh; exfalso; omega)
      simp only [List.setIfInBounds_toArray, List.set_cons_zero, List.set_cons_succ]
      refine wpAnyH_done (by kernel_rfl) ?_ _
      go_wp2_with fail
      go_meet
      exact ⟨rfl, hM2.set0 _, hB2.setCell (p := ⟨w.heap.size, 0, none⟩) (Nat.le_refl _) _⟩

    case rest =>
      obtain ⟨rfl, hM3, hB3⟩ := hcut
      obtain ⟨z0, z1, z2, z3, z4, f0, f1, f2, f3, f4⟩ := hM3.facts
      go_wp2
      refine bodyPost_ret (v := .tuple #[.agg #[.string t.tx, .bool false, .slice none 0 0, .bool false, .slice none 0 0], .slice (some ⟨b, o, none⟩) 0 0, .bool true]) (by simp [results, Tryz.results55, go_sem, z0, z1, z2, z3, z4]) rfl ?_
      exact HeadRes.yes rfl rfl rfl (World.ownsRow_nil _ _ _ _) (Nat.le_refl _) (fun hp => absurd hp (by simp)) (below_set5 hB3 (Nat.le_refl _))

  · have v5 : ¬ (cap : Int) = 1 := by omega
    go_enter Tryz.func55, Tryz.ntmps55
    go_wp2_with fail
    refine CN.mono ?_
    rintro e w1 ⟨rfl, hb1⟩
    have hM1 := hM0.below hb1
    have hB1 := hb0.trans (hb1.mono hb0.size)
    clear CN c0 c1 c2 c3 c4
    have x1 : w1.cell? ⟨b, o + 1, none⟩ = some (.string t.tx) := by
      have h := (HTZ.out w1 hB1 0 t rfl).2.1
      rw [Nat.zero_mul, Nat.add_zero] at h; exact h
    have HC := fun w' => clone_any t.tx w' htx
    have hgb : b < w1.heap.size := Nat.lt_of_lt_of_le hg1 hB1.size
    have hMb : w.heap.size ≠ b := by omega
    have hMs : w.heap.size < w1.heap.size := (Array.getElem?_eq_some_iff.1 hM1).1
    go_upto_region 3 with fail
    go_cut [3] from 4 to 57 (fun bv wx => bv = .slice (some ⟨b, o + 5, none⟩) 0 (cap - 1) ∧ MzBox wx w.heap.size (.string t.tx) (.bool false) (.slice none 0 0) (.bool false) (.slice none 0 0) ∧ Below w.heap.size w wx)
    case first =>
      refine wp_region_held_drew (S := (fun W : World => W.cell? ⟨b, o + 1, none⟩ = some (.string t.tx))) (by kernel_rfl) x1 (fun hS => ?_)
      refine take_op (i := 0) (d := 16) (v := .slice (some ⟨b, o, none⟩) 1 cap) rfl rfl (by kernel_rfl) (by kernel_rfl) (by kernel_rfl) (fun _ _ _ h => h) (Or.inl ⟨by rfl, ?_⟩) hS ?_
      · rintro W x1
        go_simp
        try (intro hh; exfalso; omega)
      simp only [List.setIfInBounds_toArray, List.set_cons_zero, List.set_cons_succ]
      refine take_op (i := 1) (d := 17) (v := .pointer (some ⟨b, o, none⟩)) rfl rfl (by kernel_rfl) (by kernel_rfl) (by kernel_rfl) (fun _ _ _ h => h) (Or.inl ⟨by rfl, ?_⟩) hS ?_
      · rintro W x1
        go_simp
        try (intro hh; exfalso; omega)
      simp only [List.setIfInBounds_toArray, List.set_cons_zero, List.set_cons_succ]
      refine take_op (i := 2) (d := 18) (v := .pointer (some ⟨b, o + 1, none⟩)) rfl rfl (by kernel_rfl) (by kernel_rfl) (by kernel_rfl) (fun _ _ _ h => h) (Or.inl ⟨by rfl, ?_⟩) hS ?_
      · rintro W x1
        go_simp
        try (intro hh; exfalso; omega)
      simp only [List.setIfInBounds_toArray, List.set_cons_zero, List.set_cons_succ]
      refine take_op (i := 3) (d := 19) (v := .string t.tx) rfl rfl (by kernel_rfl) (by kernel_rfl) (by kernel_rfl) (fun _ _ _ h => h) (Or.inl ⟨by rfl, ?_⟩) hS ?_
      · rintro W x1
        go_simp
        try (intro hh; exfalso; omega)
      simp only [List.setIfInBounds_toArray, List.set_cons_zero, List.set_cons_succ]
      refine take_op (i := 5) (d := 21) (v := .slice (some ⟨b, o, none⟩) 1 cap) rfl rfl (by kernel_rfl) (by kernel_rfl) (by kernel_rfl) (fun _ _ _ h => h) (Or.inl ⟨by rfl, ?_⟩) hS ?_
      · rintro W x1
        go_simp
        try (intro hh; exfalso; omega)
      simp only [List.setIfInBounds_toArray, List.set_cons_zero, List.set_cons_succ]
      refine take_op (i := 6) (d := 22) (v := .slice (some ⟨b, o + 5, none⟩) 0 (cap - 1)) rfl rfl (by kernel_rfl) (by kernel_rfl) (by kernel_rfl) (fun _ _ _ h => h) (Or.inl ⟨by rfl, ?_⟩) hS ?_
      · rintro W x1
        go_simp
        try (intro hh; exfalso; omega)
      simp only [List.setIfInBounds_toArray, List.set_cons_zero, List.set_cons_succ]
      refine wpAnyH_ready (rs := [4]) (by kernel_rfl) (by simp) ?_
      refine AllReadyH.cons rfl (fun K hK => ?_) AllReadyH.nil
      go_simp
      refine (HC _).mono ?_
      rintro e w2 ⟨rfl, hb2⟩
      have hb12 : Below w1.heap.size w1 w2 := (below_drewN (Below.refl w1.heap.size w1) 1).trans (hb2.mono (Nat.le_refl _))
      have hM2 := hM1.below hb12
      have hB2 := hB1.trans (hb12.mono hB1.size)
      obtain ⟨z0, z1, z2, z3, z4, f0, f1, f2, f3, f4⟩ := hM2.facts
      go_wp2_with fail
      refine hK.out _ _ ((hb12.cell (p := ⟨b, o + 1, none⟩) hgb).trans x1) (fun hS => ?_)
      clear hK K
      refine take_op (i := 7) (d := 23) (v := .pointer (some ⟨w.heap.size, 0, none⟩)) rfl rfl (by kernel_rfl) (by kernel_rfl) (by kernel_rfl) (fun _ _ _ h => h) (Or.inl ⟨by rfl, ?_⟩) hS ?_
      · rintro W x1
        go_simp
        try (intro hh; exfalso; omega)
      simp only [List.setIfInBounds_toArray, List.set_cons_zero, List.set_cons_succ]
      refine wpAnyH_ready (rs := [8]) (by kernel_rfl) (by simp) ?_
      refine AllReadyH.cons rfl (fun K hK => ?_) AllReadyH.nil
      go_simp
      refine hK.out _ _ ((World.cell?_setCell_far w2 ⟨w.heap.size, 0, none⟩ ⟨b, o + 1, none⟩ _ hMb).trans ((hb12.cell (p := ⟨b, o + 1, none⟩) hgb).trans x1)) (fun hS => ?_)
      clear hK K
      refine take_op (i := 9) (d := 3) (v := .slice (some ⟨b, o + 5, none⟩) 0 (cap - 1)) rfl rfl (by kernel_rfl) (by kernel_rfl) (by kernel_rfl) (fun _ _ _ h => h) (Or.inl ⟨by rfl, ?_⟩) hS ?_
      · rintro W x1
        go_simp
        try (intro hh; exfalso; omega)
      simp only [List.setIfInBounds_toArray, List.set_cons_zero, List.set_cons_succ]
      refine wpAnyH_done (by kernel_rfl) ?_ _
      go_wp2_with fail
      go_meet
      exact ⟨rfl, hM2.set0 _, hB2.setCell (p := ⟨w.heap.size, 0, none⟩) (Nat.le_refl _) _⟩

    case rest =>
      obtain ⟨rfl, hM3, hB3⟩ := hcut
      obtain ⟨z0, z1, z2, z3, z4, f0, f1, f2, f3, f4⟩ := hM3.facts
      go_wp2
      refine bodyPost_ret (v := .tuple #[.agg #[.string t.tx, .bool false, .slice none 0 0, .bool false, .slice none 0 0], .slice (some ⟨b, o + 5, none⟩) 0 (cap - 1), .bool true]) (by simp [results, Tryz.results55, go_sem, z0, z1, z2, z3, z4]) rfl ?_
      exact HeadRes.yes rfl rfl rfl (World.ownsRow_nil _ _ _ _) (Nat.zero_le _) (fun hp => absurd hp (by simp)) (below_set5 hB3 (Nat.le_refl _))


set_option maxRecDepth 100000 in
set_option maxHeartbeats 16000000 in
theorem cutHead_more (t : Tz) (u : Tz) (r : List Tz) (n cap : Nat) (a : Option Addr) (w : World) (hn : r.length + 2 = n) (hnc : n ≤ cap) (hn2 : n * 48 ≤ 140737488355328) (hx : ∀ x ∈ t :: u :: r, x.tx.size ≤ 281474976710656) (hT : TzIn w a (t :: u :: r)) (hnm : nameP t = true) :
    Calls Tryz.prog 55 #[.slice a n cap] w (HeadRes w (headS (t :: u :: r))) := by
  have hb0 := below1 w (.cells #[.string ⟨#[]⟩, .bool false, .slice none 0 0, .bool false, .slice none 0 0] 25)
  have hM0 := MzBox.new w (.string ⟨#[]⟩) (.bool false) (.slice none 0 0) (.bool false) (.slice none 0 0)
  obtain ⟨b, o, rfl, hg1, hr⟩ := hT (by simp)
  have hrM := hr.below hb0 hg1
  obtain ⟨c0, c1, c2, c3, c4⟩ := hrM 0 t rfl
  rw [Nat.zero_mul, Nat.add_zero] at c0 c1 c2 c3 c4
  have CN := mayName_any t (w.alloc (.cells #[.string ⟨#[]⟩, .bool false, .slice none 0 0, .bool false, .slice none 0 0] 25))
  have htx := hx t List.mem_cons_self
  have q1 : (0 : Int) < (n : Int) := by omega
  have q2 : (1 : Int) ≤ (n : Int) := by omega
  have q3 : (1 : Int) ≤ (cap : Int) := by omega
  have q4 : ((n : Int) == 0) = false := beq_eq_false_iff_ne.2 (by omega)
  have HTZ : Hid (∀ W, Below w.heap.size w W → TzAt W b o (t :: u :: r)) := Lib.hid (fun W h => hr.below h hg1)
  have hh : headS (t :: u :: r) = if u.sp then some (⟨t.tx, false, [], false, []⟩, u :: r) else if isP u [40] then (match cutP r with
      | none => none
      | some (p, v, b) => some (⟨t.tx, true, p, v, []⟩, b)) else none := by unfold headS; simp only; rw [if_pos hnm]; rfl
  rw [hnm] at CN
  obtain ⟨X, hX⟩ : ∃ X, headS (t :: u :: r) = X := ⟨_, rfl⟩
  rw [hX] at hh
  rw [hX]
  have HX := Lib.hid hh
  have HT1 : Hid (ToksAt w w.heap.size (some ⟨b, o + 1 * 5, none⟩) (u :: r)) := Lib.hid (toksAt_drop hg1 hr 1)
  have HTR : Hid (ToksAt w w.heap.size (some ⟨b, o + 2 * 5, none⟩) r) := Lib.hid (toksAt_drop hg1 hr 2)
  have HXr : Hid (∀ x ∈ r, x.tx.size ≤ 281474976710656) := Lib.hid (fun x h => hx x (List.mem_cons_of_mem _ (List.mem_cons_of_mem _ h)))
  have v5 : ¬ (cap : Int) = 1 := by omega
  clear hx hT hr hrM hnm hh hX
  cases hsp : u.sp with
  | true =>
    have HH : Hid (X = some (⟨t.tx, false, [], false, []⟩, u :: r)) := Lib.hid (by rw [HX.out, hsp]; rfl)
    clear HX
    go_enter Tryz.func55, Tryz.ntmps55
    go_wp2_with fail
    refine CN.mono ?_
    rintro e w1 ⟨rfl, hb1⟩
    have hM1 := hM0.below hb1
    have hB1 := hb0.trans (hb1.mono hb0.size)
    clear CN c0 c1 c2 c3 c4
    have x1 : w1.cell? ⟨b, o + 1, none⟩ = some (.string t.tx) := by
      have h := (HTZ.out w1 hB1 0 t rfl).2.1
      rw [Nat.zero_mul, Nat.add_zero] at h; exact h
    have HC := fun w' => clone_any t.tx w' htx
    have hgb : b < w1.heap.size := Nat.lt_of_lt_of_le hg1 hB1.size
    have hMb : w.heap.size ≠ b := by omega
    have hMs : w.heap.size < w1.heap.size := (Array.getElem?_eq_some_iff.1 hM1).1
    go_upto_region 3 with fail
    go_cut [3] from 4 to 57 (fun bv wx => bv = .slice (some ⟨b, o + 5, none⟩) (n - 1) (cap - 1) ∧ MzBox wx w.heap.size (.string t.tx) (.bool false) (.slice none 0 0) (.bool false) (.slice none 0 0) ∧ Below w.heap.size w wx)
    case first =>
      refine wp_region_held_drew (S := (fun W : World => W.cell? ⟨b, o + 1, none⟩ = some (.string t.tx))) (by kernel_rfl) x1 (fun hS => ?_)
      refine take_op (i := 0) (d := 16) (v := .slice (some ⟨b, o, none⟩) n cap) rfl rfl (by kernel_rfl) (by kernel_rfl) (by kernel_rfl) (fun _ _ _ h => h) (Or.inl ⟨by rfl, ?_⟩) hS ?_
      · rintro W x1
        go_simp
        try (intro hh; exfalso; omega)
      simp only [List.setIfInBounds_toArray, List.set_cons_zero, List.set_cons_succ]
      refine take_op (i := 1) (d := 17) (v := .pointer (some ⟨b, o, none⟩)) rfl rfl (by kernel_rfl) (by kernel_rfl) (by kernel_rfl) (fun _ _ _ h => h) (Or.inl ⟨by rfl, ?_⟩) hS ?_
      · rintro W x1
        go_simp
        try (intro hh; exfalso; omega)
      simp only [List.setIfInBounds_toArray, List.set_cons_zero, List.set_cons_succ]
      refine take_op (i := 2) (d := 18) (v := .pointer (some ⟨b, o + 1, none⟩)) rfl rfl (by kernel_rfl) (by kernel_rfl) (by kernel_rfl) (fun _ _ _ h => h) (Or.inl ⟨by rfl, ?_⟩) hS ?_
      · rintro W x1
        go_simp
        try (intro hh; exfalso; omega)
      simp only [List.setIfInBounds_toArray, List.set_cons_zero, List.set_cons_succ]
      refine take_op (i := 3) (d := 19) (v := .string t.tx) rfl rfl (by kernel_rfl) (by kernel_rfl) (by kernel_rfl) (fun _ _ _ h => h) (Or.inl ⟨by rfl, ?_⟩) hS ?_
      · rintro W x1
        go_simp
        try (intro hh; exfalso; omega)
      simp only [List.setIfInBounds_toArray, List.set_cons_zero, List.set_cons_succ]
      refine take_op (i := 5) (d := 21) (v := .slice (some ⟨b, o, none⟩) n cap) rfl rfl (by kernel_rfl) (by kernel_rfl) (by kernel_rfl) (fun _ _ _ h => h) (Or.inl ⟨by rfl, ?_⟩) hS ?_
      · rintro W x1
        go_simp
        try (intro hh; exfalso; omega)
      simp only [List.setIfInBounds_toArray, List.set_cons_zero, List.set_cons_succ]
      refine take_op (i := 6) (d := 22) (v := .slice (some ⟨b, o + 5, none⟩) (n - 1) (cap - 1)) rfl rfl (by kernel_rfl) (by kernel_rfl) (by kernel_rfl) (fun _ _ _ h => h) (Or.inl ⟨by rfl, ?_⟩) hS ?_
      · rintro W x1
        go_simp
        try (intro hh; exfalso; omega)
      simp only [List.setIfInBounds_toArray, List.set_cons_zero, List.set_cons_succ]
      refine wpAnyH_ready (rs := [4]) (by kernel_rfl) (by simp) ?_
      refine AllReadyH.cons rfl (fun K hK => ?_) AllReadyH.nil
      go_simp
      refine (HC _).mono ?_
      rintro e w2 ⟨rfl, hb2⟩
      have hb12 : Below w1.heap.size w1 w2 := (below_drewN (Below.refl w1.heap.size w1) 1).trans (hb2.mono (Nat.le_refl _))
      have hM2 := hM1.below hb12
      have hB2 := hB1.trans (hb12.mono hB1.size)
      obtain ⟨z0, z1, z2, z3, z4, f0, f1, f2, f3, f4⟩ := hM2.facts
      go_wp2_with fail
      refine hK.out _ _ ((hb12.cell (p := ⟨b, o + 1, none⟩) hgb).trans x1) (fun hS => ?_)
      clear hK K
      refine take_op (i := 7) (d := 23) (v := .pointer (some ⟨w.heap.size, 0, none⟩)) rfl rfl (by kernel_rfl) (by kernel_rfl) (by kernel_rfl) (fun _ _ _ h => h) (Or.inl ⟨by rfl, ?_⟩) hS ?_
      · rintro W x1
        go_simp
        try (intro hh; exfalso; omega)
      simp only [List.setIfInBounds_toArray, List.set_cons_zero, List.set_cons_succ]
      refine wpAnyH_ready (rs := [8]) (by kernel_rfl) (by simp) ?_
      refine AllReadyH.cons rfl (fun K hK => ?_) AllReadyH.nil
      go_simp
      refine hK.out _ _ ((World.cell?_setCell_far w2 ⟨w.heap.size, 0, none⟩ ⟨b, o + 1, none⟩ _ hMb).trans ((hb12.cell (p := ⟨b, o + 1, none⟩) hgb).trans x1)) (fun hS => ?_)
      clear hK K
      refine take_op (i := 9) (d := 3) (v := .slice (some ⟨b, o + 5, none⟩) (n - 1) (cap - 1)) rfl rfl (by kernel_rfl) (by kernel_rfl) (by kernel_rfl) (fun _ _ _ h => h) (Or.inl ⟨by rfl, ?_⟩) hS ?_
      · rintro W x1
        go_simp
        try (intro hh; exfalso; omega)
      simp only [List.setIfInBounds_toArray, List.set_cons_zero, List.set_cons_succ]
      refine wpAnyH_done (by kernel_rfl) ?_ _
      go_wp2_with fail
      go_meet
      exact ⟨rfl, hM2.set0 _, hB2.setCell (p := ⟨w.heap.size, 0, none⟩) (Nat.le_refl _) _⟩

    case rest =>
      obtain ⟨rfl, hM3, hB3⟩ := hcut
      obtain ⟨y0, y1, y2, y3, y4⟩ := HTZ.out wc hB3 1 u rfl
      rw [Nat.one_mul] at y0 y1 y2 y3 y4
      rw [hsp] at y4
      obtain ⟨z0, z1, z2, z3, z4, f0, f1, f2, f3, f4⟩ := hM3.facts
      have q5 : ((n - 1 : Nat) : Int) = (n : Int) - 1 := by omega
      have q6 : (0 : Int) < (n : Int) - 1 := by omega
      go_wp2
      refine bodyPost_ret (v := .tuple #[.agg #[.string t.tx, .bool false, .slice none 0 0, .bool false, .slice none 0 0], .slice (some ⟨b, o + 5, none⟩) (n - 1) (cap - 1), .bool true]) (by simp [results, Tryz.results55, go_sem, z0, z1, z2, z3, z4]) rfl ?_
      exact HeadRes.yes HH.out (by simp only [List.length_cons]; omega) rfl (World.ownsRow_nil _ _ _ _) (by omega) HT1.out (below_set5 hB3 (Nat.le_refl _))

  | false =>
    cases hpo : isP u [40] with
    | false =>
      have HH : Hid (X = none) := Lib.hid (by rw [HX.out, hsp, hpo]; rfl)
      clear HX
      go_enter Tryz.func55, Tryz.ntmps55
      go_wp2_with fail
      refine CN.mono ?_
      rintro e w1 ⟨rfl, hb1⟩
      have hM1 := hM0.below hb1
      have hB1 := hb0.trans (hb1.mono hb0.size)
      clear CN c0 c1 c2 c3 c4
      have x1 : w1.cell? ⟨b, o + 1, none⟩ = some (.string t.tx) := by
        have h := (HTZ.out w1 hB1 0 t rfl).2.1
        rw [Nat.zero_mul, Nat.add_zero] at h; exact h
      have HC := fun w' => clone_any t.tx w' htx
      have hgb : b < w1.heap.size := Nat.lt_of_lt_of_le hg1 hB1.size
      have hMb : w.heap.size ≠ b := by omega
      have hMs : w.heap.size < w1.heap.size := (Array.getElem?_eq_some_iff.1 hM1).1
      go_upto_region 3 with fail
      go_cut [3] from 4 to 57 (fun bv wx => bv = .slice (some ⟨b, o + 5, none⟩) (n - 1) (cap - 1) ∧ MzBox wx w.heap.size (.string t.tx) (.bool false) (.slice none 0 0) (.bool false) (.slice none 0 0) ∧ Below w.heap.size w wx)
      case first =>
        refine wp_region_held_drew (S := (fun W : World => W.cell? ⟨b, o + 1, none⟩ = some (.string t.tx))) (by kernel_rfl) x1 (fun hS => ?_)
        refine take_op (i := 0) (d := 16) (v := .slice (some ⟨b, o, none⟩) n cap) rfl rfl (by kernel_rfl) (by kernel_rfl) (by kernel_rfl) (fun _ _ _ h => h) (Or.inl ⟨by rfl, ?_⟩) hS ?_
        · rintro W x1
          go_simp
          try (intro hh; exfalso; omega)
        simp only [List.setIfInBounds_toArray, List.set_cons_zero, List.set_cons_succ]
        refine take_op (i := 1) (d := 17) (v := .pointer (some ⟨b, o, none⟩)) rfl rfl (by kernel_rfl) (by kernel_rfl) (by kernel_rfl) (fun _ _ _ h => h) (Or.inl ⟨by rfl, ?_⟩) hS ?_
        · rintro W x1
          go_simp
          try (intro hh; exfalso; omega)
        simp only [List.setIfInBounds_toArray, List.set_cons_zero, List.set_cons_succ]
        refine take_op (i := 2) (d := 18) (v := .pointer (some ⟨b, o + 1, none⟩)) rfl rfl (by kernel_rfl) (by kernel_rfl) (by kernel_rfl) (fun _ _ _ h => h) (Or.inl ⟨by rfl, ?_⟩) hS ?_
        · rintro W x1
          go_simp
          try (intro hh; exfalso; omega)
        simp only [List.setIfInBounds_toArray, List.set_cons_zero, List.set_cons_succ]
        refine take_op (i := 3) (d := 19) (v := .string t.tx) rfl rfl (by kernel_rfl) (by kernel_rfl) (by kernel_rfl) (fun _ _ _ h => h) (Or.inl ⟨by rfl, ?_⟩) hS ?_
        · rintro W x1
          go_simp
          try (intro hh; exfalso; omega)
        simp only [List.setIfInBounds_toArray, List.set_cons_zero, List.set_cons_succ]
        refine take_op (i := 5) (d := 21) (v := .slice (some ⟨b, o, none⟩) n cap) rfl rfl (by kernel_rfl) (by kernel_rfl) (by kernel_rfl) (fun _ _ _ h => h) (Or.inl ⟨by rfl, ?_⟩) hS ?_
        · rintro W x1
          go_simp
          try (intro hh; exfalso; omega)
        simp only [List.setIfInBounds_toArray, List.set_cons_zero, List.set_cons_succ]
        refine take_op (i := 6) (d := 22) (v := .slice (some ⟨b, o + 5, none⟩) (n - 1) (cap - 1)) rfl rfl (by kernel_rfl) (by kernel_rfl) (by kernel_rfl) (fun _ _ _ h => h) (Or.inl ⟨by rfl, ?_⟩) hS ?_
        · rintro W x1
          go_simp
          try (intro hh; exfalso; omega)
        simp only [List.setIfInBounds_toArray, List.set_cons_zero, List.set_cons_succ]
        refine wpAnyH_ready (rs := [4]) (by kernel_rfl) (by simp) ?_
        refine AllReadyH.cons rfl (fun K hK => ?_) AllReadyH.nil
        go_simp
        refine (HC _).mono ?_
        rintro e w2 ⟨rfl, hb2⟩
        have hb12 : Below w1.heap.size w1 w2 := (below_drewN (Below.refl w1.heap.size w1) 1).trans (hb2.mono (Nat.le_refl _))
        have hM2 := hM1.below hb12
        have hB2 := hB1.trans (hb12.mono hB1.size)
        obtain ⟨z0, z1, z2, z3, z4, f0, f1, f2, f3, f4⟩ := hM2.facts
        go_wp2_with fail
        refine hK.out _ _ ((hb12.cell (p := ⟨b, o + 1, none⟩) hgb).trans x1) (fun hS => ?_)
        clear hK K
        refine take_op (i := 7) (d := 23) (v := .pointer (some ⟨w.heap.size, 0, none⟩)) rfl rfl (by kernel_rfl) (by kernel_rfl) (by kernel_rfl) (fun _ _ _ h => h) (Or.inl ⟨by rfl, ?_⟩) hS ?_
        · rintro W x1
          go_simp
          try (intro hh; exfalso; omega)
        simp only [List.setIfInBounds_toArray, List.set_cons_zero, List.set_cons_succ]
        refine wpAnyH_ready (rs := [8]) (by kernel_rfl) (by simp) ?_
        refine AllReadyH.cons rfl (fun K hK => ?_) AllReadyH.nil
        go_simp
        refine hK.out _ _ ((World.cell?_setCell_far w2 ⟨w.heap.size, 0, none⟩ ⟨b, o + 1, none⟩ _ hMb).trans ((hb12.cell (p := ⟨b, o + 1, none⟩) hgb).trans x1)) (fun hS => ?_)
        clear hK K
        refine take_op (i := 9) (d := 3) (v := .slice (some ⟨b, o + 5, none⟩) (n - 1) (cap - 1)) rfl rfl (by kernel_rfl) (by kernel_rfl) (by kernel_rfl) (fun _ _ _ h => h) (Or.inl ⟨by rfl, ?_⟩) hS ?_
        · rintro W x1
          go_simp
          try (intro hh; exfalso; omega)
        simp only [List.setIfInBounds_toArray, List.set_cons_zero, List.set_cons_succ]
        refine wpAnyH_done (by kernel_rfl) ?_ _
        go_wp2_with fail
        go_meet
        exact ⟨rfl, hM2.set0 _, hB2.setCell (p := ⟨w.heap.size, 0, none⟩) (Nat.le_refl _) _⟩

      case rest =>
        obtain ⟨rfl, hM3, hB3⟩ := hcut
        obtain ⟨y0, y1, y2, y3, y4⟩ := HTZ.out wc hB3 1 u rfl
        rw [Nat.one_mul] at y0 y1 y2 y3 y4
        rw [hsp] at y4
        obtain ⟨z0, z1, z2, z3, z4, f0, f1, f2, f3, f4⟩ := hM3.facts
        have q6 : (0 : Int) < (n : Int) - 1 := by omega
        have C1 := spells_any u 5 [⟨#[40]⟩] 1 1 _ _ rfl (by decide) (strIn_one wc 9 #[.string ⟨#[40]⟩] [⟨#[40]⟩] rfl)
        rw [← isP_eq u ⟨#[40]⟩ [40] (Lib.toList_data _), hpo, hsp] at C1
        go_wp2_with fail
        refine C1.mono ?_
        rintro e v1 ⟨rfl, hv1⟩
        replace hv1 := (below1 wc (.cells #[.string ⟨#[40]⟩] 9)).trans (hv1.mono (below1 wc (.cells #[.string ⟨#[40]⟩] 9)).size)
        have hM4 := hM3.below hv1
        have hB4 := hB3.trans (hv1.mono hB3.size)
        clear C1 y0 y1 y2 y3 y4 z0 z1 z2 z3 z4 f0 f1 f2 f3 f4
        obtain ⟨z0, z1, z2, z3, z4, f0, f1, f2, f3, f4⟩ := hM4.facts
        go_wp2
        refine bodyPost_ret (v := .tuple #[.agg #[.string ⟨#[]⟩, .bool false, .slice none 0 0, .bool false, .slice none 0 0], .slice none 0 0, .bool false]) (by simp [results, Tryz.results55, go_sem, z0, z1, z2, z3, z4]) rfl ?_
        exact HeadRes.no HH.out rfl (below_set5 hB4 (Nat.le_refl _))

    | true =>
      have HH : Hid (X = match cutP r with
          | none => none
          | some (p, v, b) => some (⟨t.tx, true, p, v, []⟩, b)) := Lib.hid (by rw [HX.out, hsp, hpo]; rfl)
      clear HX
      go_enter Tryz.func55, Tryz.ntmps55
      go_wp2_with fail
      refine CN.mono ?_
      rintro e w1 ⟨rfl, hb1⟩
      have hM1 := hM0.below hb1
      have hB1 := hb0.trans (hb1.mono hb0.size)
      clear CN c0 c1 c2 c3 c4
      have x1 : w1.cell? ⟨b, o + 1, none⟩ = some (.string t.tx) := by
        have h := (HTZ.out w1 hB1 0 t rfl).2.1
        rw [Nat.zero_mul, Nat.add_zero] at h; exact h
      have HC := fun w' => clone_any t.tx w' htx
      have hgb : b < w1.heap.size := Nat.lt_of_lt_of_le hg1 hB1.size
      have hMb : w.heap.size ≠ b := by omega
      have hMs : w.heap.size < w1.heap.size := (Array.getElem?_eq_some_iff.1 hM1).1
      go_upto_region 3 with fail
      go_cut [3] from 4 to 57 (fun bv wx => bv = .slice (some ⟨b, o + 5, none⟩) (n - 1) (cap - 1) ∧ MzBox wx w.heap.size (.string t.tx) (.bool false) (.slice none 0 0) (.bool false) (.slice none 0 0) ∧ Below w.heap.size w wx)
      case first =>
        refine wp_region_held_drew (S := (fun W : World => W.cell? ⟨b, o + 1, none⟩ = some (.string t.tx))) (by kernel_rfl) x1 (fun hS => ?_)
        refine take_op (i := 0) (d := 16) (v := .slice (some ⟨b, o, none⟩) n cap) rfl rfl (by kernel_rfl) (by kernel_rfl) (by kernel_rfl) (fun _ _ _ h => h) (Or.inl ⟨by rfl, ?_⟩) hS ?_
        · rintro W x1
          go_simp
          try (intro hh; exfalso; omega)
        simp only [List.setIfInBounds_toArray, List.set_cons_zero, List.set_cons_succ]
        refine take_op (i := 1) (d := 17) (v := .pointer (some ⟨b, o, none⟩)) rfl rfl (by kernel_rfl) (by kernel_rfl) (by kernel_rfl) (fun _ _ _ h => h) (Or.inl ⟨by rfl, ?_⟩) hS ?_
        · rintro W x1
          go_simp
          try (intro hh; exfalso; omega)
        simp only [List.setIfInBounds_toArray, List.set_cons_zero, List.set_cons_succ]
        refine take_op (i := 2) (d := 18) (v := .pointer (some ⟨b, o + 1, none⟩)) rfl rfl (by kernel_rfl) (by kernel_rfl) (by kernel_rfl) (fun _ _ _ h => h) (Or.inl ⟨by rfl, ?_⟩) hS ?_
        · rintro W x1
          go_simp
          try (intro hh; exfalso; omega)
        simp only [List.setIfInBounds_toArray, List.set_cons_zero, List.set_cons_succ]
        refine take_op (i := 3) (d := 19) (v := .string t.tx) rfl rfl (by kernel_rfl) (by kernel_rfl) (by kernel_rfl) (fun _ _ _ h => h) (Or.inl ⟨by rfl, ?_⟩) hS ?_
        · rintro W x1
          go_simp
          try (intro hh; exfalso; omega)
        simp only [List.setIfInBounds_toArray, List.set_cons_zero, List.set_cons_succ]
        refine take_op (i := 5) (d := 21) (v := .slice (some ⟨b, o, none⟩) n cap) rfl rfl (by kernel_rfl) (by kernel_rfl) (by kernel_rfl) (fun _ _ _ h => h) (Or.inl ⟨by rfl, ?_⟩) hS ?_
        · rintro W x1
          go_simp
          try (intro hh; exfalso; omega)
        simp only [List.setIfInBounds_toArray, List.set_cons_zero, List.set_cons_succ]
        refine take_op (i := 6) (d := 22) (v := .slice (some ⟨b, o + 5, none⟩) (n - 1) (cap - 1)) rfl rfl (by kernel_rfl) (by kernel_rfl) (by kernel_rfl) (fun _ _ _ h => h) (Or.inl ⟨by rfl, ?_⟩) hS ?_
        · rintro W x1
          go_simp
          try (intro hh; exfalso; omega)
        simp only [List.setIfInBounds_toArray, List.set_cons_zero, List.set_cons_succ]
        refine wpAnyH_ready (rs := [4]) (by kernel_rfl) (by simp) ?_
        refine AllReadyH.cons rfl (fun K hK => ?_) AllReadyH.nil
        go_simp
        refine (HC _).mono ?_
        rintro e w2 ⟨rfl, hb2⟩
        have hb12 : Below w1.heap.size w1 w2 := (below_drewN (Below.refl w1.heap.size w1) 1).trans (hb2.mono (Nat.le_refl _))
        have hM2 := hM1.below hb12
        have hB2 := hB1.trans (hb12.mono hB1.size)
        obtain ⟨z0, z1, z2, z3, z4, f0, f1, f2, f3, f4⟩ := hM2.facts
        go_wp2_with fail
        refine hK.out _ _ ((hb12.cell (p := ⟨b, o + 1, none⟩) hgb).trans x1) (fun hS => ?_)
        clear hK K
        refine take_op (i := 7) (d := 23) (v := .pointer (some ⟨w.heap.size, 0, none⟩)) rfl rfl (by kernel_rfl) (by kernel_rfl) (by kernel_rfl) (fun _ _ _ h => h) (Or.inl ⟨by rfl, ?_⟩) hS ?_
        · rintro W x1
          go_simp
          try (intro hh; exfalso; omega)
        simp only [List.setIfInBounds_toArray, List.set_cons_zero, List.set_cons_succ]
        refine wpAnyH_ready (rs := [8]) (by kernel_rfl) (by simp) ?_
        refine AllReadyH.cons rfl (fun K hK => ?_) AllReadyH.nil
        go_simp
        refine hK.out _ _ ((World.cell?_setCell_far w2 ⟨w.heap.size, 0, none⟩ ⟨b, o + 1, none⟩ _ hMb).trans ((hb12.cell (p := ⟨b, o + 1, none⟩) hgb).trans x1)) (fun hS => ?_)
        clear hK K
        refine take_op (i := 9) (d := 3) (v := .slice (some ⟨b, o + 5, none⟩) (n - 1) (cap - 1)) rfl rfl (by kernel_rfl) (by kernel_rfl) (by kernel_rfl) (fun _ _ _ h => h) (Or.inl ⟨by rfl, ?_⟩) hS ?_
        · rintro W x1
          go_simp
          try (intro hh; exfalso; omega)
        simp only [List.setIfInBounds_toArray, List.set_cons_zero, List.set_cons_succ]
        refine wpAnyH_done (by kernel_rfl) ?_ _
        go_wp2_with fail
        go_meet
        exact ⟨rfl, hM2.set0 _, hB2.setCell (p := ⟨w.heap.size, 0, none⟩) (Nat.le_refl _) _⟩

      case rest =>
        obtain ⟨rfl, hM3, hB3⟩ := hcut
        obtain ⟨y0, y1, y2, y3, y4⟩ := HTZ.out wc hB3 1 u rfl
        rw [Nat.one_mul] at y0 y1 y2 y3 y4
        rw [hsp] at y4
        obtain ⟨z0, z1, z2, z3, z4, f0, f1, f2, f3, f4⟩ := hM3.facts
        have q6 : (0 : Int) < (n : Int) - 1 := by omega
        clear z0 z1 z2 z3 z4 f0 f1 f2 f3 f4
        by_cases hcap : cap = 2
        · obtain rfl : n = 2 := by omega
          subst hcap
          have C1 := spells_any u 5 [⟨#[40]⟩] 1 1 _ _ rfl (by decide) (strIn_one wc 9 #[.string ⟨#[40]⟩] [⟨#[40]⟩] rfl)
          rw [← isP_eq u ⟨#[40]⟩ [40] (Lib.toList_data _), hpo, hsp] at C1
          go_wp2_with fail
          refine C1.mono ?_
          rintro e v1 ⟨rfl, hv1⟩
          replace hv1 := (below1 wc (.cells #[.string ⟨#[40]⟩] 9)).trans (hv1.mono (below1 wc (.cells #[.string ⟨#[40]⟩] 9)).size)
          have hM4 := hM3.below hv1
          have hB4 := hB3.trans (hv1.mono hB3.size)
          clear C1 y0 y1 y2 y3 y4
          obtain ⟨z0, z1, z2, z3, z4, f0, f1, f2, f3, f4⟩ := hM4.facts
          have hM5 := hM4.set1 (.bool true)
          have hB5 : Below w.heap.size w (v1.setCell ⟨w.heap.size, 1, none⟩ (.bool true)) := hB4.setCell (p := ⟨w.heap.size, 1, none⟩) (Nat.le_refl _) _
          have CP := fun (a3 : Option Addr) (m3 c3 : Nat) (hm : r.length = m3) (hc : m3 ≤ c3) (hT3 : ToksAt (v1.setCell ⟨w.heap.size, 1, none⟩ (.bool true)) w.heap.size a3 r) => cutPar_any r m3 c3 a3 (v1.setCell ⟨w.heap.size, 1, none⟩ (.bool true)) hm hc (by rw [← hm]; omega) HXr.out w.heap.size hB5.size hT3
          clear hpo
          cases hcp : cutP r with
          | none =>
            rw [hcp] at CP
            go_wp2_with fail
            refine (CP _ _ _ (show r.length = 0 by omega) (Nat.le_refl _) (fun hp => absurd hp (by omega))).mono ?_
            rintro e v2 ⟨rfl, hv2⟩
            clear z0 z1 z2 z3 z4 f0 f1 f2 f3 f4
            have hM6 := hM5.below hv2
            have hB6 := hB5.trans (hv2.mono hB5.size)
            have hM7 := (hM6.set2 (.slice none 0 0)).set3 (.bool false)
            obtain ⟨z0, z1, z2, z3, z4, f0, f1, f2, f3, f4⟩ := hM6.facts
            obtain ⟨y0, y1, y2, y3, y4, g0, g1, g2, g3, g4⟩ := hM7.facts
            go_wp2
            clear z0 z1 z2 z3 z4 f0 f1 f2 f3 f4 y0 y1 y2 y3 y4 g0 g1 g2 g3 g4
            have hM8 := ((((hM7.set0 (.string ⟨#[]⟩)).set1 (.bool false)).set2 (.slice none 0 0)).set3 (.bool false)).set4 (.slice none 0 0)
            obtain ⟨z0, z1, z2, z3, z4, -, -, -, -, -⟩ := hM8.facts
            refine bodyPost_ret (v := .tuple #[.agg #[.string ⟨#[]⟩, .bool false, .slice none 0 0, .bool false, .slice none 0 0], .slice none 0 0, .bool false]) (by simp [results, Tryz.results55, go_sem, z0, z1, z2, z3, z4]) rfl ?_
            exact HeadRes.no (by rw [HH.out, hcp]) rfl (below_set5 (((hB6.setCell (p := ⟨w.heap.size, 2, none⟩) (Nat.le_refl _) _)).setCell (p := ⟨w.heap.size, 3, none⟩) (Nat.le_refl _) _) (Nat.le_refl _))
          | some x =>
            obtain ⟨p, vr, l⟩ := x
            rw [hcp] at CP
            go_wp2_with fail
            refine (CP _ _ _ (show r.length = 0 by omega) (Nat.le_refl _) (fun hp => absurd hp (by omega))).mono ?_
            rintro e v2 ⟨⟨pv, a5, c5, rfl, hrow5, hc5, ht5⟩, hv2⟩
            obtain ⟨pa, pcap, rfl⟩ := row_shape hrow5
            clear z0 z1 z2 z3 z4 f0 f1 f2 f3 f4
            have hM6 := hM5.below hv2
            have hB6 := hB5.trans (hv2.mono hB5.size)
            have hrl := hrow5.lt
            have hMs : w.heap.size < (v1.setCell ⟨w.heap.size, 1, none⟩ (.bool true)).heap.size := (Array.getElem?_eq_some_iff.1 hM5).1
            have hM7 := (hM6.set2 (.slice pa p.length pcap)).set3 (.bool vr)
            obtain ⟨z0, z1, z2, z3, z4, f0, f1, f2, f3, f4⟩ := hM6.facts
            obtain ⟨y0, y1, y2, y3, y4, g0, g1, g2, g3, g4⟩ := hM7.facts
            go_wp2
            clear z0 z1 z2 z3 z4 f0 f1 f2 f3 f4 y0 y1 y2 y3 y4 g0 g1 g2 g3 g4
            have hM8 := ((((hM7.set0 (.string t.tx)).set1 (.bool true)).set2 (.slice pa p.length pcap)).set3 (.bool vr)).set4 (.slice none 0 0)
            obtain ⟨z0, z1, z2, z3, z4, -, -, -, -, -⟩ := hM8.facts
            refine bodyPost_ret (v := .tuple #[.agg #[.string t.tx, .bool true, .slice pa p.length pcap, .bool vr, .slice none 0 0], .slice a5 l.length c5, .bool true]) (by simp [results, Tryz.results55, go_sem, z0, z1, z2, z3, z4]) rfl ?_
            refine HeadRes.yes (by rw [HH.out, hcp]) rfl rfl ?_ hc5 ?_ (below_set5 ((hB6.setCell (p := ⟨w.heap.size, 2, none⟩) (Nat.le_refl _) _).setCell (p := ⟨w.heap.size, 3, none⟩) (Nat.le_refl _) _) (Nat.le_refl _))
            · exact ownsRow_set5 (row_setC (row_setC (row_lower hMs hrow5) (fun j h => by have := (hrl j h).1; omega)) (fun j h => by have := (hrl j h).1; omega)) (fun j h => by have := (hrl j h).1; omega)
            · exact toksAt_back ht5 hB5

        · have v6 : ¬ (cap : Int) - 1 = 1 := by omega
          have C1 := spells_any u 5 [⟨#[40]⟩] 1 1 _ _ rfl (by decide) (strIn_one wc 9 #[.string ⟨#[40]⟩] [⟨#[40]⟩] rfl)
          rw [← isP_eq u ⟨#[40]⟩ [40] (Lib.toList_data _), hpo, hsp] at C1
          go_wp2_with fail
          refine C1.mono ?_
          rintro e v1 ⟨rfl, hv1⟩
          replace hv1 := (below1 wc (.cells #[.string ⟨#[40]⟩] 9)).trans (hv1.mono (below1 wc (.cells #[.string ⟨#[40]⟩] 9)).size)
          have hM4 := hM3.below hv1
          have hB4 := hB3.trans (hv1.mono hB3.size)
          clear C1 y0 y1 y2 y3 y4
          obtain ⟨z0, z1, z2, z3, z4, f0, f1, f2, f3, f4⟩ := hM4.facts
          have hM5 := hM4.set1 (.bool true)
          have hB5 : Below w.heap.size w (v1.setCell ⟨w.heap.size, 1, none⟩ (.bool true)) := hB4.setCell (p := ⟨w.heap.size, 1, none⟩) (Nat.le_refl _) _
          have CP := fun (a3 : Option Addr) (m3 c3 : Nat) (hm : r.length = m3) (hc : m3 ≤ c3) (hT3 : ToksAt (v1.setCell ⟨w.heap.size, 1, none⟩ (.bool true)) w.heap.size a3 r) => cutPar_any r m3 c3 a3 (v1.setCell ⟨w.heap.size, 1, none⟩ (.bool true)) hm hc (by rw [← hm]; omega) HXr.out w.heap.size hB5.size hT3
          clear hpo
          cases hcp : cutP r with
          | none =>
            rw [hcp] at CP
            go_wp2_with fail
            refine (CP _ _ _ (show r.length = n - 1 - 1 by omega) (by omega) ((HTR.out).below hB5)).mono ?_
            rintro e v2 ⟨rfl, hv2⟩
            clear z0 z1 z2 z3 z4 f0 f1 f2 f3 f4
            have hM6 := hM5.below hv2
            have hB6 := hB5.trans (hv2.mono hB5.size)
            have hM7 := (hM6.set2 (.slice none 0 0)).set3 (.bool false)
            obtain ⟨z0, z1, z2, z3, z4, f0, f1, f2, f3, f4⟩ := hM6.facts
            obtain ⟨y0, y1, y2, y3, y4, g0, g1, g2, g3, g4⟩ := hM7.facts
            go_wp2
            clear z0 z1 z2 z3 z4 f0 f1 f2 f3 f4 y0 y1 y2 y3 y4 g0 g1 g2 g3 g4
            have hM8 := ((((hM7.set0 (.string ⟨#[]⟩)).set1 (.bool false)).set2 (.slice none 0 0)).set3 (.bool false)).set4 (.slice none 0 0)
            obtain ⟨z0, z1, z2, z3, z4, -, -, -, -, -⟩ := hM8.facts
            refine bodyPost_ret (v := .tuple #[.agg #[.string ⟨#[]⟩, .bool false, .slice none 0 0, .bool false, .slice none 0 0], .slice none 0 0, .bool false]) (by simp [results, Tryz.results55, go_sem, z0, z1, z2, z3, z4]) rfl ?_
            exact HeadRes.no (by rw [HH.out, hcp]) rfl (below_set5 (((hB6.setCell (p := ⟨w.heap.size, 2, none⟩) (Nat.le_refl _) _)).setCell (p := ⟨w.heap.size, 3, none⟩) (Nat.le_refl _) _) (Nat.le_refl _))
          | some x =>
            obtain ⟨p, vr, l⟩ := x
            rw [hcp] at CP
            go_wp2_with fail
            refine (CP _ _ _ (show r.length = n - 1 - 1 by omega) (by omega) ((HTR.out).below hB5)).mono ?_
            rintro e v2 ⟨⟨pv, a5, c5, rfl, hrow5, hc5, ht5⟩, hv2⟩
            obtain ⟨pa, pcap, rfl⟩ := row_shape hrow5
            clear z0 z1 z2 z3 z4 f0 f1 f2 f3 f4
            have hM6 := hM5.below hv2
            have hB6 := hB5.trans (hv2.mono hB5.size)
            have hrl := hrow5.lt
            have hMs : w.heap.size < (v1.setCell ⟨w.heap.size, 1, none⟩ (.bool true)).heap.size := (Array.getElem?_eq_some_iff.1 hM5).1
            have hM7 := (hM6.set2 (.slice pa p.length pcap)).set3 (.bool vr)
            obtain ⟨z0, z1, z2, z3, z4, f0, f1, f2, f3, f4⟩ := hM6.facts
            obtain ⟨y0, y1, y2, y3, y4, g0, g1, g2, g3, g4⟩ := hM7.facts
            go_wp2
            clear z0 z1 z2 z3 z4 f0 f1 f2 f3 f4 y0 y1 y2 y3 y4 g0 g1 g2 g3 g4
            have hM8 := ((((hM7.set0 (.string t.tx)).set1 (.bool true)).set2 (.slice pa p.length pcap)).set3 (.bool vr)).set4 (.slice none 0 0)
            obtain ⟨z0, z1, z2, z3, z4, -, -, -, -, -⟩ := hM8.facts
            refine bodyPost_ret (v := .tuple #[.agg #[.string t.tx, .bool true, .slice pa p.length pcap, .bool vr, .slice none 0 0], .slice a5 l.length c5, .bool true]) (by simp [results, Tryz.results55, go_sem, z0, z1, z2, z3, z4]) rfl ?_
            refine HeadRes.yes (by rw [HH.out, hcp]) rfl rfl ?_ hc5 ?_ (below_set5 ((hB6.setCell (p := ⟨w.heap.size, 2, none⟩) (Nat.le_refl _) _).setCell (p := ⟨w.heap.size, 3, none⟩) (Nat.le_refl _) _) (Nat.le_refl _))
            · exact ownsRow_set5 (row_setC (row_setC (row_lower hMs hrow5) (fun j h => by have := (hrl j h).1; omega)) (fun j h => by have := (hrl j h).1; omega)) (fun j h => by have := (hrl j h).1; omega)
            · exact toksAt_back ht5 hB5


end Go.Proofs.YtaodjipnffgihaaGreat
