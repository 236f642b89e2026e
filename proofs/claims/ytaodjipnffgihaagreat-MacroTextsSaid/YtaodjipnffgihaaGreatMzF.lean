/- Several texts laid together. -/
import Derived.RangeFuncNested
import Derived.RangeFuncBox
import Derived.Lib.OthersKept
import Derived.Laws.OwnMore
import Derived.OwnWalk

namespace Go.Proofs.YtaodjipnffgihaaGreat
open Go.RowKit

/-- Every block of cells of type T stands as it stood. -/
def KeepsT (T : TypeId) (W W' : World) : Prop := ∀ (k : Nat) (c : Array Value) (fz : Nat × Nat), W.heap[k]? = some (.cells c T fz) → W'.heap[k]? = some (.cells c T fz)

theorem KeepsT.refl (T : TypeId) (W : World) : KeepsT T W W := fun _ _ _ h => h
theorem KeepsT.trans {T : TypeId} {A B C : World} (h : KeepsT T A B) (k : KeepsT T B C) : KeepsT T A C := fun i c fz hi => k i c fz (h i c fz hi)
theorem KeepsT.of_below {T : TypeId} {W W' : World} (h : Below W.heap.size W W') : KeepsT T W W' := fun k _ _ hk =>
  (h.block k (Array.getElem?_eq_some_iff.1 hk).1).trans hk
theorem KeepsT.alloc (T : TypeId) (W : World) (o : Obj) : KeepsT T W (W.alloc o) := .of_below ((Below.refl _ _).alloc (Nat.le_refl _) _)
theorem KeepsT.drew {T : TypeId} {A W : World} (h : KeepsT T A W) : KeepsT T A W.drew := h
/-- A store into a variable's box of another type. -/
theorem KeepsT.set {T t : TypeId} {W : World} {B : Nat} {v : Value} (hb : Boxed W B t v) (hne : T ≠ t) (u : Value) : KeepsT T W (W.setCell ⟨B, 0, none⟩ u) := fun k c fz hk => by
  rw [Below.heap_setCell _ _ _ _ (fun e => ?_)]
  · exact hk
  · have e' : k = B := e
    subst e'
    rw [show W.heap[k]? = _ from hb] at hk
    simp only [Option.some.injEq, Obj.cells.injEq] at hk
    exact hne hk.2.1.symm
/-- A growth whose one row is of another type. -/
theorem KeepsT.grown {T : TypeId} {W W' : World} {row : Option Nat} (hg : W.grownBy W' row) (hr : ∀ g, row = some g → ∀ c fz, W.heap[g]? ≠ some (.cells c T fz)) : KeepsT T W W' := fun k c fz hk =>
  (hg.block k (Array.getElem?_eq_some_iff.1 hk).1 (fun e => hr k e.symm c fz hk)).trans hk
theorem KeepsT.grown_row {T e : TypeId} {W W' : World} {base size n : Nat} {v : Value} {xs : List Value} (hg : W.grownBy W' v.ownBlock) (hown : W.ownsRow base e size v n xs) (hne : T ≠ e) : KeepsT T W W' :=
  .grown hg fun g hgv c fz h => by
    rcases hown.2 with ⟨rfl, _⟩ | ⟨g', cap, cur, rfl, _, hgb, _⟩
    · simp [Value.ownBlock] at hgv
    · obtain rfl : g' = g := by simpa [Value.ownBlock] using hgv
      rw [hgb] at h
      simp only [Option.some.injEq, Obj.cells.injEq] at h
      exact hne h.2.1.symm
theorem KeepsT.putObj {T : TypeId} {W : World} {l : Nat} {o : Obj} (o' : Obj) (h : W.heap[l]? = some o) (ho : o.isCells = false) : KeepsT T W (W.putObj l o') := fun k c fz hk => by
  by_cases e : k = l
  · subst e
    rw [h] at hk
    cases hk
    cases ho
  · exact (World.putObj_heap_other e).trans hk
/-- What a builder's call keeps. -/
theorem KeepsT.of_others {T e t : TypeId} {b : Nat} {W W' : World} {cs : Array Value} {fz : Nat × Nat} (h : Lib.OthersKept e (some b) W W') (hb : W.heap[b]? = some (.cells cs t fz)) (hne : T ≠ t) (hTe : T ≠ e) : KeepsT T W W' := fun k c fz' hk => by
  refine h k _ hk (fun e' => ?_) (fun c' f' h' => ?_)
  · obtain rfl : k = b := by simpa using e'
    rw [hb] at hk
    simp only [Option.some.injEq, Obj.cells.injEq] at hk
    exact hne hk.2.1.symm
  · simp only [Obj.cells.injEq] at h'
    exact hTe h'.2.1

/-- A relation that a round keeps: the blocks of type T, and one variable's box. -/
def KeepsBox (T : TypeId) (B : Nat) (t : TypeId) (W W' : World) : Prop := KeepsT T W W' ∧ ∀ v, Boxed W B t v → Boxed W' B t v
theorem keepsBox_r {T : TypeId} {B : Nat} {t : TypeId} (W : World) : KeepsBox T B t W W := ⟨.refl _ _, fun _ h => h⟩
theorem keepsBox_t {T : TypeId} {B : Nat} {t : TypeId} {A X C : World} (h : KeepsBox T B t A X) (k : KeepsBox T B t X C) : KeepsBox T B t A C := ⟨h.1.trans k.1, fun v hv => k.2 v (h.2 v hv)⟩
theorem keepsBox_b {T : TypeId} {B : Nat} {t : TypeId} {n : Nat} (W : World) (l : Nat) (o o' : Obj) (_ : n ≤ l) (h : W.heap[l]? = some o) (hc : o.isCells = false) (_ : o.isWalk = false) : KeepsBox T B t W (W.putObj l o') :=
  ⟨.putObj o' h hc, fun v hv => hv.kept (grownBy_putObj' W l o') (fun e => by
    obtain rfl : B = l := by simpa using e
    rw [show W.heap[B]? = _ from hv] at h; cases h; cases hc)⟩
theorem keepsBox_below {T : TypeId} {B : Nat} {t : TypeId} {W W' : World} (h : Below W.heap.size W W') : KeepsBox T B t W W' :=
  ⟨.of_below h, fun _ hv => (h.block B hv.lt).trans hv⟩
theorem keepsBox_set {T : TypeId} {B B' : Nat} {t t' : TypeId} {W : World} {v : Value} (hb : Boxed W B' t' v) (hne : T ≠ t') (hB : B ≠ B') (u : Value) : KeepsBox T B t W (W.setCell ⟨B', 0, none⟩ u) :=
  ⟨.set hb hne u, fun _ hv => hv.other hB u⟩
theorem keepsBox_row {T e : TypeId} {B : Nat} {t : TypeId} {W W' : World} {base size n : Nat} {v : Value} {xs : List Value} (hg : W.grownBy W' v.ownBlock) (hown : W.ownsRow base e size v n xs) (hne : T ≠ e) (hte : t ≠ e) : KeepsBox T B t W W' :=
  ⟨.grown_row hg hown hne, fun _ hv => hv.kept hg (hv.not_row hte hown)⟩
theorem keepsBox_others {T e t' : TypeId} {B : Nat} {t : TypeId} {b : Nat} {W W' : World} {cs : Array Value} {fz : Nat × Nat} (h : Lib.OthersKept e (some b) W W') (hb : W.heap[b]? = some (.cells cs t' fz)) (hne : T ≠ t') (hTe : T ≠ e) (hB : B ≠ b) (hte : t ≠ e) : KeepsBox T B t W W' :=
  ⟨.of_others h hb hne hTe, fun v hv => h B _ hv (fun e' => hB (by simpa using e')) (fun c f h' => by
    simp only [Obj.cells.injEq] at h'
    exact hte h'.2.1)⟩

end Go.Proofs.YtaodjipnffgihaaGreat

namespace Go.Proofs.YtaodjipnffgihaaGreat
open Go.RowKit

/-- Behind an append: where it lay, or new. -/
def Fresh (w : World) (v v' : Value) : Prop := v'.ownBlock = v.ownBlock ∨ ∀ g, v'.ownBlock = some g → w.heap.size ≤ g
/-- What the model says of a slice's element type. -/
structure ElemOk (P : Program) (t e : TypeId) (i : TypeInfo) (z : Value) (size bytes : Nat) : Prop where
  ht : P.underlying t = some (.slice e)
  hi : P.info? e = some i
  hz : i.zero = some z
  hs : i.size = size
  hb : i.bytes = bytes
  hc : z.cells.size = size
  hp : 0 < size

section
variable {P : Program} {t e : TypeId} {i : TypeInfo} {z : Value} {size bytes : Nat}
theorem append_fresh (E : ElemOk P t e i z size bytes) (w : World) (ty : TypeId) (base : Nat) {v : Value} {n : Nat} {xs : List Value} (ho : w.ownsRow base e size v n xs) {ad : Addr} {m c : Nat} {news : List Value} (hl : news.length = m * size)
    (hn : ∀ j u, news[j]? = some u → w.cell? (ad.add j) = some u) (h1 : ∀ u ∈ news, u.oneCell' = true) (hm : n + m ≤ maxLen) (hz : (n + m) * bytes ≤ 140737488355328) (hB : base ≤ w.heap.size) :
    ∃ v' w', (Builtin.append_ #[t, t] ty #[v, .slice (some ad) m c]).run P w = .ok v' w' ∧ w'.ownsRow base e size v' (n + m) (xs ++ news) ∧ w.grownBy w' v.ownBlock ∧ Fresh w v v' := by
  obtain ⟨v', w', hr, h2, h3, _⟩ := run_append_own (P := P) w base t ty e i z size bytes E.ht E.hi E.hz E.hs E.hb E.hc E.hp v n xs ho ad m c news hl hn h1 hm hz hB
  refine ⟨v', w', hr, h2, h3, ?_⟩
  rcases ho.2 with ⟨rfl, rfl⟩ | ⟨g, cap, cur, rfl, _⟩
  · have hx : xs = [] := List.eq_nil_of_length_eq_zero (by simpa using ho.1)
    subst hx
    obtain ⟨v2, w2, hr2, h4, _⟩ := run_append_own (P := P) w w.heap.size t ty e i z size bytes E.ht E.hi E.hz E.hs E.hb E.hc E.hp _ 0 [] (World.ownsRow_nil _ _ _ _) ad m c news hl hn h1 hm hz (Nat.le_refl _)
    rw [hr] at hr2
    cases hr2
    exact .inr fun g hg => (h4.lt g hg).1
  · by_cases hroom : n + m ≤ cap
    · obtain ⟨w2, hr2, _⟩ := run_append_fits (P := P) (w := w) base t ty e i size E.ht E.hi E.hs g n cap xs ho ad m c news hl hn h1 hroom
      rw [hr] at hr2
      cases hr2
      exact .inl rfl
    · have holds : ∀ j u, xs[j]? = some u → w.cell? ((⟨g, 0, none⟩ : Addr).add j) = some u := ho.cells (g := g) rfl
      have hm2 : n + m ≤ 9223372036854775807 := by unfold maxLen at hm; omega
      have hr2 := run_append_grow (P := P) w t ty e i z E.ht E.hi E.hz ⟨g, 0, none⟩ n cap xs (by rw [E.hs]; exact ho.1) holds ad m c news (by rw [E.hs]; exact hl) hn (by omega) (by omega) (growslice_fits (by omega) (by rw [E.hb]; exact hz))
      rw [hr] at hr2
      cases hr2
      exact .inr fun g' hg => by cases hg; exact Nat.le_refl _

/-- The operation, for the walk. -/
theorem wpList_fresh (E : ElemOk P t e i z size bytes) (w : World) {ops : Array Oper} {rest : List Oper} {o : Oper} {a : Act} {Q : Exit → Act → World → Prop} (hgd : o.guard = none) (sl x : Operand)
    (hop : o.op = .call { callee := .builtin .append, args := #[sl, x], argTypes := #[t, t] }) (base : Nat) (v : Value) (n : Nat) (xs : List Value) (hs : a.eval sl = v) (ho : w.ownsRow base e size v n xs)
    (ad : Addr) (m c : Nat) (news : List Value) (hx : a.eval x = .slice (some ad) m c) (hl : news.length = m * size) (hn : ∀ j u, news[j]? = some u → w.cell? (ad.add j) = some u) (h1 : ∀ u ∈ news, u.oneCell' = true)
    (hm : n + m ≤ maxLen) (hz : (n + m) * bytes ≤ 140737488355328) (hB : base ≤ w.heap.size)
    (h : ∀ v' w', w'.ownsRow base e size v' (n + m) (xs ++ news) → w.grownBy w' v.ownBlock → Fresh w v v' → wpList P ops Q rest (a.put o.dst v') w') : wpList P ops Q (o :: rest) a w := by
  refine wpList_plain hgd fun K hK => ?_
  obtain ⟨v', w', hr, h2, h3, h4⟩ := append_fresh E w o.type base ho hl hn h1 hm hz hB
  unfold Oper.wp execOp
  simp only [hop, resolve, invoke, builtin, Sem.run_bind, Sem.run_pure, Result.andThen_ok, List.map_toArray, List.map_cons, List.map_nil, hs, hx]
  rw [hr]
  exact hK _ _ (h v' w' h2 h3 h4)
end

/-- Two rows of the call's own lie in two blocks. -/
def Apart2 (v u : Value) : Prop := ∀ g, v.ownBlock = some g → u.ownBlock ≠ some g
theorem Apart2.symm {v u : Value} (h : Apart2 v u) : Apart2 u v := fun g hg e => h g e hg
theorem Apart2.nil (u : Value) : Apart2 (.slice none 0 0) u := fun g hg => by cases hg
/-- The one has grown: they lie apart still, and the other is as it was. -/
theorem Apart2.fresh {w : World} {v v' u : Value} (h : Apart2 v u) (hf : Fresh w v v') (hu : ∀ g, u.ownBlock = some g → g < w.heap.size) : Apart2 v' u := fun g hg e => by
  rcases hf with hf | hf
  · exact h g (by rw [← hf]; exact hg) e
  · have := hf g hg
    have := hu g e
    omega
theorem Apart2.kept {w w' : World} {v u : Value} {base n size : Nat} {e : TypeId} {xs : List Value} (h : Apart2 v u) (ho : w.ownsRow base e size u n xs) (hg : w.grownBy w' v.ownBlock) : w'.ownsRow base e size u n xs := by
  refine ho.kept hg ?_
  cases hb : u.ownBlock with
  | none => exact .inl rfl
  | some g => exact .inr (fun e' => h g e'.symm hb)

end Go.Proofs.YtaodjipnffgihaaGreat
