/- What a step keeps, by the type of the blocks. -/
import Derived.RangeFuncNested
import Derived.RangeFuncBox
import Derived.Lib.OthersKept
namespace Go.Proofs.Ytaodjipnffgihaa
open Go.RowKit

/-- Every block of cells of type T stands as it stood. -/
def KeepsT (T : TypeId) (W W' : World) : Prop := ∀ (k : Nat) (c : Array Value) (fz : Nat × Nat), W.heap[k]? = some (.cells c T fz) → W'.heap[k]? = some (.cells c T fz)

theorem KeepsT.refl (T : TypeId) (W : World) : KeepsT T W W := fun _ _ _ h => h
theorem KeepsT.trans {T : TypeId} {A B C : World} (h : KeepsT T A B) (k : KeepsT T B C) : KeepsT T A C := fun i c fz hi => k i c fz (h i c fz hi)
theorem KeepsT.of_below {T : TypeId} {W W' : World} (h : Below W.heap.size W W') : KeepsT T W W' := fun k _ _ hk =>
  (h.block k (Array.getElem?_eq_some_iff.1 hk).1).trans hk
theorem KeepsT.alloc (T : TypeId) (W : World) (o : Obj) : KeepsT T W (W.alloc o) := .of_below ((Below.refl _ _).alloc (Nat.le_refl _) _)
theorem KeepsT.drew {T : TypeId} {A W : World} (h : KeepsT T A W) : KeepsT T A W.drew := h
/-- A store into a variable's box of another type. -/
theorem KeepsT.set {T t : TypeId} {W : World} {B : Nat} {v : Value} (hb : Boxed W B t v) (hne : T ≠ t) (u : Value) : KeepsT T W (W.setCell ⟨B, 0, none⟩ u) := fun k c fz hk => by
  rw [Below.heap_setCell _ _ _ _ (fun e => ?_)]
  · exact hk
  · have e' : k = B := e
    subst e'
    rw [show W.heap[k]? = _ from hb] at hk
    simp only [Option.some.injEq, Obj.cells.injEq] at hk
    exact hne hk.2.1.symm
/-- A growth whose one row is of another type. -/
theorem KeepsT.grown {T : TypeId} {W W' : World} {row : Option Nat} (hg : W.grownBy W' row) (hr : ∀ g, row = some g → ∀ c fz, W.heap[g]? ≠ some (.cells c T fz)) : KeepsT T W W' := fun k c fz hk =>
  (hg.block k (Array.getElem?_eq_some_iff.1 hk).1 (fun e => hr k e.symm c fz hk)).trans hk
theorem KeepsT.grown_row {T e : TypeId} {W W' : World} {base size n : Nat} {v : Value} {xs : List Value} (hg : W.grownBy W' v.ownBlock) (hown : W.ownsRow base e size v n xs) (hne : T ≠ e) : KeepsT T W W' :=
  .grown hg fun g hgv c fz h => by
    rcases hown.2 with ⟨rfl, _⟩ | ⟨g', cap, cur, rfl, _, hgb, _⟩
    · simp [Value.ownBlock] at hgv
    · obtain rfl : g' = g := by simpa [Value.ownBlock] using hgv
      rw [hgb] at h
      simp only [Option.some.injEq, Obj.cells.injEq] at h
      exact hne h.2.1.symm
theorem KeepsT.putObj {T : TypeId} {W : World} {l : Nat} {o : Obj} (o' : Obj) (h : W.heap[l]? = some o) (ho : o.isCells = false) : KeepsT T W (W.putObj l o') := fun k c fz hk => by
  by_cases e : k = l
  · subst e
    rw [h] at hk
    cases hk
    cases ho
  · exact (World.putObj_heap_other e).trans hk
/-- What a builder's call keeps. -/
theorem KeepsT.of_others {T e t : TypeId} {b : Nat} {W W' : World} {cs : Array Value} {fz : Nat × Nat} (h : Lib.OthersKept e (some b) W W') (hb : W.heap[b]? = some (.cells cs t fz)) (hne : T ≠ t) (hTe : T ≠ e) : KeepsT T W W' := fun k c fz' hk => by
  refine h k _ hk (fun e' => ?_) (fun c' f' h' => ?_)
  · obtain rfl : k = b := by simpa using e'
    rw [hb] at hk
    simp only [Option.some.injEq, Obj.cells.injEq] at hk
    exact hne hk.2.1.symm
  · simp only [Obj.cells.injEq] at h'
    exact hTe h'.2.1

/-- A relation that a round keeps: the blocks of type T, and one variable's box. -/
def KeepsBox (T : TypeId) (B : Nat) (t : TypeId) (W W' : World) : Prop := KeepsT T W W' ∧ ∀ v, Boxed W B t v → Boxed W' B t v
theorem keepsBox_r {T : TypeId} {B : Nat} {t : TypeId} (W : World) : KeepsBox T B t W W := ⟨.refl _ _, fun _ h => h⟩
theorem keepsBox_t {T : TypeId} {B : Nat} {t : TypeId} {A X C : World} (h : KeepsBox T B t A X) (k : KeepsBox T B t X C) : KeepsBox T B t A C := ⟨h.1.trans k.1, fun v hv => k.2 v (h.2 v hv)⟩
theorem keepsBox_b {T : TypeId} {B : Nat} {t : TypeId} {n : Nat} (W : World) (l : Nat) (o o' : Obj) (_ : n ≤ l) (h : W.heap[l]? = some o) (hc : o.isCells = false) (_ : o.isWalk = false) : KeepsBox T B t W (W.putObj l o') :=
  ⟨.putObj o' h hc, fun v hv => hv.kept (grownBy_putObj' W l o') (fun e => by
    obtain rfl : B = l := by simpa using e
    rw [show W.heap[B]? = _ from hv] at h; cases h; cases hc)⟩
theorem keepsBox_below {T : TypeId} {B : Nat} {t : TypeId} {W W' : World} (h : Below W.heap.size W W') : KeepsBox T B t W W' :=
  ⟨.of_below h, fun _ hv => (h.block B hv.lt).trans hv⟩
theorem keepsBox_set {T : TypeId} {B B' : Nat} {t t' : TypeId} {W : World} {v : Value} (hb : Boxed W B' t' v) (hne : T ≠ t') (hB : B ≠ B') (u : Value) : KeepsBox T B t W (W.setCell ⟨B', 0, none⟩ u) :=
  ⟨.set hb hne u, fun _ hv => hv.other hB u⟩
theorem keepsBox_row {T e : TypeId} {B : Nat} {t : TypeId} {W W' : World} {base size n : Nat} {v : Value} {xs : List Value} (hg : W.grownBy W' v.ownBlock) (hown : W.ownsRow base e size v n xs) (hne : T ≠ e) (hte : t ≠ e) : KeepsBox T B t W W' :=
  ⟨.grown_row hg hown hne, fun _ hv => hv.kept hg (hv.not_row hte hown)⟩
theorem keepsBox_others {T e t' : TypeId} {B : Nat} {t : TypeId} {b : Nat} {W W' : World} {cs : Array Value} {fz : Nat × Nat} (h : Lib.OthersKept e (some b) W W') (hb : W.heap[b]? = some (.cells cs t' fz)) (hne : T ≠ t') (hTe : T ≠ e) (hB : B ≠ b) (hte : t ≠ e) : KeepsBox T B t W W' :=
  ⟨.of_others h hb hne hTe, fun v hv => h B _ hv (fun e' => hB (by simpa using e')) (fun c f h' => by
    simp only [Obj.cells.injEq] at h'
    exact hte h'.2.1)⟩

end Go.Proofs.Ytaodjipnffgihaa
