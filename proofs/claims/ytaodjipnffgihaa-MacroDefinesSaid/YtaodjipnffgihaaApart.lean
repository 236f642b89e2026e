/- An append onto a row of the call's own: behind it the row lies where it lay, or in a new block (for two rows of one element type that grow side by side). -/
import Derived.Test.YtaodjipnffgihaaKeeps
import Derived.Laws.OwnMore
import Derived.OwnWalk
namespace Go.Proofs.Ytaodjipnffgihaa
open Go.RowKit

/-- Behind an append: where it lay, or new. -/
def Fresh (w : World) (v v' : Value) : Prop := v'.ownBlock = v.ownBlock ∨ ∀ g, v'.ownBlock = some g → w.heap.size ≤ g
/-- What the model says of a slice's element type. -/
structure ElemOk (P : Program) (t e : TypeId) (i : TypeInfo) (z : Value) (size bytes : Nat) : Prop where
  ht : P.underlying t = some (.slice e)
  hi : P.info? e = some i
  hz : i.zero = some z
  hs : i.size = size
  hb : i.bytes = bytes
  hc : z.cells.size = size
  hp : 0 < size

section
variable {P : Program} {t e : TypeId} {i : TypeInfo} {z : Value} {size bytes : Nat}
theorem append_fresh (E : ElemOk P t e i z size bytes) (w : World) (ty : TypeId) (base : Nat) {v : Value} {n : Nat} {xs : List Value} (ho : w.ownsRow base e size v n xs) {ad : Addr} {m c : Nat} {news : List Value} (hl : news.length = m * size)
    (hn : ∀ j u, news[j]? = some u → w.cell? (ad.add j) = some u) (h1 : ∀ u ∈ news, u.oneCell' = true) (hm : n + m ≤ maxLen) (hz : (n + m) * bytes ≤ 140737488355328) (hB : base ≤ w.heap.size) :
    ∃ v' w', (Builtin.append_ #[t, t] ty #[v, .slice (some ad) m c]).run P w = .ok v' w' ∧ w'.ownsRow base e size v' (n + m) (xs ++ news) ∧ w.grownBy w' v.ownBlock ∧ Fresh w v v' := by
  obtain ⟨v', w', hr, h2, h3, _⟩ := run_append_own (P := P) w base t ty e i z size bytes E.ht E.hi E.hz E.hs E.hb E.hc E.hp v n xs ho ad m c news hl hn h1 hm hz hB
  refine ⟨v', w', hr, h2, h3, ?_⟩
  rcases ho.2 with ⟨rfl, rfl⟩ | ⟨g, cap, cur, rfl, _⟩
  · have hx : xs = [] := List.eq_nil_of_length_eq_zero (by simpa using ho.1)
    subst hx
    obtain ⟨v2, w2, hr2, h4, _⟩ := run_append_own (P := P) w w.heap.size t ty e i z size bytes E.ht E.hi E.hz E.hs E.hb E.hc E.hp _ 0 [] (World.ownsRow_nil _ _ _ _) ad m c news hl hn h1 hm hz (Nat.le_refl _)
    rw [hr] at hr2
    cases hr2
    exact .inr fun g hg => (h4.lt g hg).1
  · by_cases hroom : n + m ≤ cap
    · obtain ⟨w2, hr2, _⟩ := run_append_fits (P := P) (w := w) base t ty e i size E.ht E.hi E.hs g n cap xs ho ad m c news hl hn h1 hroom
      rw [hr] at hr2
      cases hr2
      exact .inl rfl
    · have holds : ∀ j u, xs[j]? = some u → w.cell? ((⟨g, 0, none⟩ : Addr).add j) = some u := ho.cells (g := g) rfl
      have hm2 : n + m ≤ 9223372036854775807 := by unfold maxLen at hm; omega
      have hr2 := run_append_grow (P := P) w t ty e i z E.ht E.hi E.hz ⟨g, 0, none⟩ n cap xs (by rw [E.hs]; exact ho.1) holds ad m c news (by rw [E.hs]; exact hl) hn (by omega) (by omega) (growslice_fits (by omega) (by rw [E.hb]; exact hz))
      rw [hr] at hr2
      cases hr2
      exact .inr fun g' hg => by cases hg; exact Nat.le_refl _

/-- The operation, for the walk. -/
theorem wpList_fresh (E : ElemOk P t e i z size bytes) (w : World) {ops : Array Oper} {rest : List Oper} {o : Oper} {a : Act} {Q : Exit → Act → World → Prop} (hgd : o.guard = none) (sl x : Operand)
    (hop : o.op = .call { callee := .builtin .append, args := #[sl, x], argTypes := #[t, t] }) (base : Nat) (v : Value) (n : Nat) (xs : List Value) (hs : a.eval sl = v) (ho : w.ownsRow base e size v n xs)
    (ad : Addr) (m c : Nat) (news : List Value) (hx : a.eval x = .slice (some ad) m c) (hl : news.length = m * size) (hn : ∀ j u, news[j]? = some u → w.cell? (ad.add j) = some u) (h1 : ∀ u ∈ news, u.oneCell' = true)
    (hm : n + m ≤ maxLen) (hz : (n + m) * bytes ≤ 140737488355328) (hB : base ≤ w.heap.size)
    (h : ∀ v' w', w'.ownsRow base e size v' (n + m) (xs ++ news) → w.grownBy w' v.ownBlock → Fresh w v v' → wpList P ops Q rest (a.put o.dst v') w') : wpList P ops Q (o :: rest) a w := by
  refine wpList_plain hgd fun K hK => ?_
  obtain ⟨v', w', hr, h2, h3, h4⟩ := append_fresh E w o.type base ho hl hn h1 hm hz hB
  unfold Oper.wp execOp
  simp only [hop, resolve, invoke, builtin, Sem.run_bind, Sem.run_pure, Result.andThen_ok, List.map_toArray, List.map_cons, List.map_nil, hs, hx]
  rw [hr]
  exact hK _ _ (h v' w' h2 h3 h4)
end

/-- Two rows of the call's own lie in two blocks. -/
def Apart2 (v u : Value) : Prop := ∀ g, v.ownBlock = some g → u.ownBlock ≠ some g
theorem Apart2.symm {v u : Value} (h : Apart2 v u) : Apart2 u v := fun g hg e => h g e hg
theorem Apart2.nil (u : Value) : Apart2 (.slice none 0 0) u := fun g hg => by cases hg
/-- The one has grown: they lie apart still, and the other is as it was. -/
theorem Apart2.fresh {w : World} {v v' u : Value} (h : Apart2 v u) (hf : Fresh w v v') (hu : ∀ g, u.ownBlock = some g → g < w.heap.size) : Apart2 v' u := fun g hg e => by
  rcases hf with hf | hf
  · exact h g (by rw [← hf]; exact hg) e
  · have := hf g hg
    have := hu g e
    omega
theorem Apart2.kept {w w' : World} {v u : Value} {base n size : Nat} {e : TypeId} {xs : List Value} (h : Apart2 v u) (ho : w.ownsRow base e size u n xs) (hg : w.grownBy w' v.ownBlock) : w'.ownsRow base e size u n xs := by
  refine ho.kept hg ?_
  cases hb : u.ownBlock with
  | none => exact .inl rfl
  | some g => exact .inr (fun e' => h g e'.symm hb)

end Go.Proofs.Ytaodjipnffgihaa
