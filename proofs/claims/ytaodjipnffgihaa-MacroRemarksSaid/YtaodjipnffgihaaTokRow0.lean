/- Rows of tokens that the call made, element by element. -/
import Derived.Test.YtaodjipnffgihaaFirst0
import Derived.Test.YtaodjipnffgihaaGen
import Derived.IntWalk
import Derived.BigQuiet
import Derived.Deep.QuietTactic
namespace Go.Proofs.Ytaodjipnffgihaa
open Go.RowKit Go.Shelf

/-! ### Rows of tokens, element by element -/

theorem ydCells_get {ys : List Yd} {k : Nat} {y : Yd} (h : ys[k]? = some y) (j : Nat) (hj : j < 5) : (ydCells ys)[k * 5 + j]? = (ydCell y)[j]? := by
  induction ys generalizing k with
  | nil => simp at h
  | cons q ys ih =>
    have hc : ydCells (q :: ys) = ydCell q ++ ydCells ys := by simp [ydCells, ydCell]
    cases k with
    | zero =>
      simp only [List.getElem?_cons_zero, Option.some.injEq] at h
      subst h
      rw [hc, List.getElem?_append_left (by simp [ydCell]; omega)]
      simp
    | succ k =>
      simp only [List.getElem?_cons_succ] at h
      rw [hc, List.getElem?_append_right (by simp [ydCell]; omega)]
      have : (k + 1) * 5 + j - (ydCell q).length = k * 5 + j := by simp [ydCell]; omega
      rw [this]
      exact ih h
/-- A row of tokens lies at g. -/
def TokRow (W : World) (g : Nat) (ys : List Yd) : Prop := ∀ i y, ys[i]? = some y → W.cell? ⟨g, i * 5, none⟩ = some (.int .i64 y.k) ∧ W.cell? ⟨g, i * 5 + 1, none⟩ = some (.string y.tx) ∧ W.cell? ⟨g, i * 5 + 2, none⟩ = some (.int .i64 y.a) ∧ W.cell? ⟨g, i * 5 + 3, none⟩ = some (.int .i64 y.e) ∧ W.cell? ⟨g, i * 5 + 4, none⟩ = some (.bool y.sp)
theorem tokRow_of {W : World} {base cap : Nat} {a : Option Addr} {ys : List Yd} (hn : 0 < ys.length) (h : W.ownsRow base 49 5 (.slice a ys.length cap) ys.length (ydCells ys)) : ∃ g, a = some ⟨g, 0, none⟩ ∧ base ≤ g ∧ g < W.heap.size ∧ TokRow W g ys := by
  obtain ⟨g, ha, hg, hc⟩ := row_pos hn h
  subst ha
  refine ⟨g, rfl, (h.lt g rfl).1, hg, fun i y hy => ?_⟩
  exact ⟨hc _ _ (ydCells_get hy 0 (by decide)), hc _ _ (ydCells_get hy 1 (by decide)), hc _ _ (ydCells_get hy 2 (by decide)), hc _ _ (ydCells_get hy 3 (by decide)), hc _ _ (ydCells_get hy 4 (by decide))⟩
theorem TokRow.below {B g : Nat} {W W' : World} {ys : List Yd} (h : TokRow W g ys) (hb : Below B W W') (hg : g < B) : TokRow W' g ys := fun i y hy => by
  have hc : ∀ o, W'.cell? ⟨g, o, none⟩ = W.cell? ⟨g, o, none⟩ := fun o => hb.cell (p := ⟨g, o, none⟩) hg
  rw [hc, hc, hc, hc, hc]
  exact h i y hy

end Go.Proofs.Ytaodjipnffgihaa
