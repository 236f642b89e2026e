/- Rows in memory of their own. -/
import Derived.Test.YtaodjipnffgihaaRowS
import Derived.Test.YtaodjipnffgihaaKeeps
import Derived.Outline
import Derived.Deep.LoopGhost
import Derived.StillTailTactics
namespace Go.Proofs.Ytaodjipnffgihaa
open Go.RowKit

theorem ownsRow_keepsT {W W' : World} {base z n : Nat} {T : TypeId} {v : Value} {xs : List Value} (h : W.ownsRow base T z v n xs) (hk : KeepsT T W W') : W'.ownsRow base T z v n xs :=
  ⟨h.1, h.2.elim .inl fun ⟨g, cap, cur, h1, h2, h3, h4⟩ => .inr ⟨g, cap, cur, h1, h2, hk g cur _ h3, h4⟩⟩
/-- A store into a block of another type. -/
theorem keepsT_other {T t : TypeId} {W : World} {B j : Nat} {c : Array Value} {fz : Nat × Nat} (hb : W.heap[B]? = some (.cells c t fz)) (hne : T ≠ t) (u : Value) : KeepsT T W (W.setCell ⟨B, j, none⟩ u) := fun k c' fz' hk => by
  have hkB : k ≠ B := fun e => by
    subst e
    rw [hb] at hk
    simp only [Option.some.injEq, Obj.cells.injEq] at hk
    exact hne hk.2.1.symm
  simp only [World.setCell, Array.getElem?_modify]
  rw [if_neg (fun e => hkB e.symm)]
  exact hk

/-- A list of rows that the call owns: each row's tokens are a row of the call's own. -/
def rzVals : List Rz → List Value → List Value
  | [], _ => []
  | _, [] => []
  | r :: rs, v :: vs => [.bool r.d, .string r.nm, v] ++ rzVals rs vs
theorem rzVals_snoc : ∀ (rs : List Rz) (vs : List Value) (r : Rz) (v : Value), rs.length = vs.length → rzVals (rs ++ [r]) (vs ++ [v]) = rzVals rs vs ++ [.bool r.d, .string r.nm, v]
  | [], [], r, v, _ => rfl
  | q :: rs, u :: vs, r, v, h => by
    simp only [List.length_cons, Nat.add_right_cancel_iff] at h
    rw [List.cons_append, List.cons_append, rzVals, rzVals, rzVals_snoc rs vs r v h]
    rfl
def TokOwn (W : World) (B : Nat) (v : Value) (ts : List Tz) : Prop := W.ownsRow B 49 5 v ts.length (tzCells ts)
structure OwnRz (W : World) (B : Nat) (v : Value) (rs : List Rz) (vs : List Value) : Prop where
  len : rs.length = vs.length
  row : W.ownsRow B 67 3 v rs.length (rzVals rs vs)
  ts : ∀ (i : Nat) (r : Rz) (u : Value), rs[i]? = some r → vs[i]? = some u → TokOwn W B u r.ts
theorem OwnRz.nil (W : World) (B : Nat) : OwnRz W B (.slice none 0 0) [] [] := ⟨rfl, World.ownsRow_nil _ _ _ _, fun i r u h _ => by simp at h⟩
theorem OwnRz.below {W W' : World} {B : Nat} {v : Value} {rs : List Rz} {vs : List Value} (h : OwnRz W B v rs vs) (hb : Below W.heap.size W W') : OwnRz W' B v rs vs :=
  ⟨h.len, row_below h.row hb, fun i r u h1 h2 => row_below (h.ts i r u h1 h2) hb⟩

theorem infoRow : (Try.prog.info? 67).map (fun i => (i.zero, i.size, i.bytes)) = some (some (.agg #[.bool false, .string ⟨#[]⟩, .slice none 0 0]), 3, 48) := by kernel_rfl
theorem cell3_new (w : World) (a b c : Value) (t : TypeId) : ∀ j u, [a, b, c][j]? = some u → (w.alloc (.cells #[a, b, c] t)).cell? ((⟨w.heap.size, 0, none⟩ : Addr).add j) = some u := by
  intro j u hj
  match j, hj with
  | 0, hj => simp at hj; subst hj; simp [Addr.add]
  | 1, hj => simp at hj; subst hj; simp [Addr.add]
  | 2, hj => simp at hj; subst hj; simp [Addr.add]
  | j + 3, hj => simp at hj

end Go.Proofs.Ytaodjipnffgihaa
