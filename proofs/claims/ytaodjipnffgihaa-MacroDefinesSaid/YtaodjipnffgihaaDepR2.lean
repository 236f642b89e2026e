/- How deep rows stand: the document's answer, its walk. -/
import Derived.Test.YtaodjipnffgihaaDepR
import Derived.IntWalk
import Derived.WalkSmall
import Derived.Deep.LoopGhost
namespace Go.Proofs.Ytaodjipnffgihaa
open Go.RowKit

theorem cell1_newS (w : World) (a : Value) (t : TypeId) : ∀ j u, [a][j]? = some u → (w.alloc (.cells #[a] t)).cell? ((⟨w.heap.size, 0, none⟩ : Addr).add j) = some u := by
  intro j u hj
  match j, hj with
  | 0, hj => simp at hj; subst hj; simp [Addr.add]
  | j + 1, hj => simp at hj
theorem bch2 {B : Nat} {a b c : World} (h : Below B a b) (h2 : Below b.heap.size b c) (hB : B ≤ b.heap.size) : Below B a c := h.trans (h2.mono hB)

theorem row_shapeD {w : World} {base : Nat} {e : TypeId} {z : Nat} {v : Value} {n : Nat} {xs : List Value} (h : w.ownsRow base e z v n xs) : ∃ a cap, v = .slice a n cap := row_shape h
theorem row_someD {w : World} {base n : Nat} {e : TypeId} {v : Value} {xs : List Value} (h : w.ownsRow base e 1 v (n + 1) xs) : ∃ g cap, v = .slice (some ⟨g, 0, none⟩) (n + 1) cap ∧ (∀ j u, xs[j]? = some u → w.cell? ⟨g, j, none⟩ = some u) := by
  obtain ⟨a, cap, rfl⟩ := row_shape h
  obtain ⟨g, rfl, _, hc⟩ := row_pos (Nat.succ_pos n) h
  exact ⟨g, cap, rfl, hc⟩

theorem row_cap {w : World} {base n z g cap : Nat} {e : TypeId} {xs : List Value} (h : w.ownsRow base e z (.slice (some ⟨g, 0, none⟩) n cap) n xs) : n ≤ cap := by
  rcases h.2 with ⟨h', _⟩ | ⟨g', cap', cur, h', _, _, hn, _⟩
  · cases h'
  · cases h'; exact hn

def intC (l : List Nat) : List Value := l.map fun (x : Nat) => Value.int .i64 x
theorem intC_app (a b : List Nat) : intC (a ++ b) = intC a ++ intC b := List.map_append ..
theorem intC_len (a : List Nat) : (intC a).length = a.length := List.length_map ..
theorem infoInt : (Try.prog.info? 3).map (fun i => (i.zero, i.size, i.bytes)) = some (some (.int .i64 0), 1, 8) := by kernel_rfl

/-- What a row does to the depths so far and what stands open. -/
def depStep (q : List Nat × List Nat) (k : Nat) : Option (List Nat × List Nat) :=
  if k = 0 then some (q.1 ++ [q.2.length], q.2)
  else if k = 1 then some (q.1 ++ [q.2.length], q.2 ++ [1])
  else match q.2.getLast? with
    | none => none
    | some x => if k < 4 ∧ x = 3 then none else some (q.1 ++ [q.2.length - 1], if k = 4 then q.2.dropLast else q.2.dropLast ++ [k])
def depFold (rs : List Rz) : Option (List Nat × List Nat) := rs.foldl (fun q r => q.bind fun p => depStep p (turnS r)) (some ([], []))
/-- The depths; none: the rows don't nest. -/
def depS (rs : List Rz) : Option (List Nat) := match depFold rs with
  | some (o, []) => some o
  | _ => none
theorem depFold_snoc {rs : List Rz} {k : Nat} {r : Rz} (h : rs[k]? = some r) : depFold (rs.take (k + 1)) = (depFold (rs.take k)).bind fun p => depStep p (turnS r) := by
  unfold depFold
  rw [List.take_add_one, h, List.foldl_append]; rfl
theorem fold_none (l : List Rz) : l.foldl (fun q r => q.bind fun p => depStep p (turnS r)) none = none := by
  induction l with
  | nil => rfl
  | cons r l ih => exact ih
theorem depFold_none {rs : List Rz} {k : Nat} (h : depFold (rs.take k) = none) : depS rs = none := by
  have : depFold rs = none := by
    rw [← List.take_append_drop k rs]
    unfold depFold at h ⊢
    rw [List.foldl_append, h]
    exact fold_none _
  unfold depS; rw [this]
theorem depS_open {rs : List Rz} {o l : List Nat} (h : depFold rs = some (o, l)) (hl : l ≠ []) : depS rs = none := by
  unfold depS
  rw [h]
  cases l with
  | nil => exact absurd rfl hl
  | cons x l => rfl
theorem depS_done {rs : List Rz} {o : List Nat} (h : depFold rs = some (o, [])) : depS rs = some o := by
  unfold depS; rw [h]
theorem step_last {o l0 : List Nat} {x k : Nat} (h : 1 < k) : depStep (o, l0 ++ [x]) k = if k < 4 ∧ x = 3 then none else some (o ++ [l0.length], if k = 4 then l0 else l0 ++ [k]) := by
  unfold depStep
  rw [if_neg (by omega), if_neg (by omega)]
  simp only [List.getLast?_append, List.getLast?_singleton, Option.some_or, List.length_append, List.length_cons, List.length_nil, List.dropLast_concat, Nat.zero_add, Nat.add_sub_cancel]
theorem rv2 {v : Value} {a c : Int} (h : a = c) : Ending.returned (.tuple #[v, .int .i64 a]) = .returned (.tuple #[v, .int .i64 c]) := by rw [h]
def depE (rs : List Rz) : Int := match depS rs with | some _ => 0 | none => 81
theorem depE_none {rs : List Rz} (h : depS rs = none) : depE rs = 81 := by unfold depE; rw [h]
theorem depE_some {rs : List Rz} {o : List Nat} (h : depS rs = some o) : depE rs = 0 := by unfold depE; rw [h]

end Go.Proofs.Ytaodjipnffgihaa
