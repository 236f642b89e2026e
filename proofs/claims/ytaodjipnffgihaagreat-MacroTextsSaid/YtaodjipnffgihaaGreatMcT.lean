/- Macro tokens and macros: where they lie. -/
import Derived.Test.YtaodjipnffgihaaGreatMzG
import Derived.Test.YtaodjipnffgihaaGreatMzJ
import Derived.Deep.RegionHeld3
import Derived.Deep.DeepCutAuto
import Derived.Deep.RegionWith
import Derived.Deep.LoopGhost
import Derived.Deep.DeepAppendWide
namespace Go.Proofs.YtaodjipnffgihaaGreat
open Go.RowKit Go.Shelf

theorem infoPz : (Tryz.prog.info? 35).map (fun i => (i.zero, i.size, i.bytes)) = some (some (.agg #[.int .i64 0, .string ⟨#[]⟩, .bool false, .slice none 0 0]), 4, 56) := by kernel_rfl
/-- A macro token without parts. -/
def pnCell (p : Pz) : List Value := [.int .i64 p.k, .string p.tx, .bool p.sp, .slice none 0 0]
def pnCells (ps : List Pz) : List Value := ps.flatMap pnCell
theorem pnCells_snoc (ps : List Pz) (p : Pz) : pnCells (ps ++ [p]) = pnCells ps ++ pnCell p := by simp [pnCells]
theorem pnCells_len (ps : List Pz) : (pnCells ps).length = ps.length * 4 := by
  induction ps with
  | nil => rfl
  | cons t ts ih => simp only [pnCells, List.flatMap_cons, List.length_append, List.length_cons] at ih ⊢; rw [ih]; simp [pnCell]; omega
theorem pnCells_get {ys : List Pz} {k : Nat} {y : Pz} (h : ys[k]? = some y) (j : Nat) (hj : j < 4) : (pnCells ys)[k * 4 + j]? = (pnCell y)[j]? := by
  induction ys generalizing k with
  | nil => simp at h
  | cons q ys ih =>
    have hc : pnCells (q :: ys) = pnCell q ++ pnCells ys := by simp [pnCells]
    cases k with
    | zero =>
      simp only [List.getElem?_cons_zero, Option.some.injEq] at h
      subst h
      rw [hc, List.getElem?_append_left (by simp [pnCell]; omega)]
      simp
    | succ k =>
      simp only [List.getElem?_cons_succ] at h
      rw [hc, List.getElem?_append_right (by simp [pnCell]; omega)]
      have : (k + 1) * 4 + j - (pnCell q).length = k * 4 + j := by simp [pnCell]; omega
      rw [this]
      exact ih h
theorem cell4_new (w : World) (a b c d : Value) (t : TypeId) : ∀ j u, [a, b, c, d][j]? = some u → (w.alloc (.cells #[a, b, c, d] t)).cell? ((⟨w.heap.size, 0, none⟩ : Addr).add j) = some u := by
  intro j u hj
  match j, hj with
  | 0, hj => simp at hj; subst hj; simp [Addr.add]
  | 1, hj => simp at hj; subst hj; simp [Addr.add]
  | 2, hj => simp at hj; subst hj; simp [Addr.add]
  | 3, hj => simp at hj; subst hj; simp [Addr.add]
  | j + 4, hj => simp at hj

/-- An operation that only reads, taken ahead of the others; the slot that it writes is told. -/
theorem take_op {P : Program} {md : Region.Mode} {ops : Array Oper} {Q : Exit → Act → World → Prop} {S : World → Prop} {i d : Nat} {oi : Oper} {v : Value} {fuel : Nat} {listed : Array Bool} {tm : Array Value} {df : List Deferred} {w : World} (hi : ops[i]? = some oi) (hd : oi.dst = some d)
    (hs : Region.noSelect ops = true) (hf : Region.free md ops listed i = true) (hr : (Region.ready md ops listed).contains i = true)
    (hQ : ∀ c a w, Q (.panic c) (a.put oi.dst v) w → Q (.panic c) a w) (hy : YieldsIf P ops S oi v { tmps := tm, defers := df }) (hS : S w)
    (h : wpAnyH P md ops Q S fuel (listed.setIfInBounds i true) { tmps := tm.setIfInBounds d v, defers := df } w) : wpAnyH P md ops Q S (fuel + 1) listed { tmps := tm, defers := df } w := by
  refine wpAnyH_take hi hs hf hr hQ hy hS ?_
  rw [hd]
  exact h

end Go.Proofs.YtaodjipnffgihaaGreat
