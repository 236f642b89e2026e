/- Rows of tokens that are written to; Bare's contracts, laid open. -/
import Derived.Test.YtaodjipnffgihaaBareR
import Derived.Laws.OwnMore
namespace Go.Proofs.Ytaodjipnffgihaa
open Go.RowKit Go.Shelf

theorem bch {a b c : World} (h : Below a.heap.size a b) (h2 : Below b.heap.size b c) : Below a.heap.size a c := h.trans (h2.mono h.size)

/-- Only this row was written to. -/
structure Wrote (a : Option Addr) (T : TypeId) (n : Nat) (W W' : World) : Prop where
  size : W'.heap.size = W.heap.size
  own : ∀ g, a = some ⟨g, 0, none⟩ → ∃ cur, W'.heap[g]? = some (.cells cur T (0, 0)) ∧ n ≤ cur.size
  below : ∀ B, (∀ g, a = some ⟨g, 0, none⟩ → B ≤ g) → Below B W W'

theorem Wrote.set {g j n : Nat} {T : TypeId} {W W' : World} (h : Wrote (some ⟨g, 0, none⟩) T n W W') (u : Value) : Wrote (some ⟨g, 0, none⟩) T n W (W'.setCell ⟨g, j, none⟩ u) where
  size := by rw [← h.size]; simp [World.setCell]
  own := fun g' e => by
    obtain rfl : g = g' := by simpa using e
    obtain ⟨cur, h1, h2⟩ := h.own g rfl
    refine ⟨cur.setIfInBounds j u, ?_, by simpa using h2⟩
    simp [World.setCell, Array.getElem?_modify, h1]
  below := fun B hB => (h.below B hB).setCell (hB g rfl) u
theorem Wrote.cell {g j n : Nat} {T : TypeId} {W W' : World} (h : Wrote (some ⟨g, 0, none⟩) T n W W') (hj : j < n) : ∃ u, W'.cell? ⟨g, j, none⟩ = some u := by
  obtain ⟨cur, h1, h2⟩ := h.own g rfl
  rw [Lib.cell_of_heap h1]
  exact ⟨_, Array.getElem?_eq_getElem (by omega)⟩
theorem Wrote.frozen {g n : Nat} (j : Nat) {T : TypeId} {W W' : World} (h : Wrote (some ⟨g, 0, none⟩) T n W W') : W'.frozen? ⟨g, j, none⟩ = false := by
  obtain ⟨cur, h1, h2⟩ := h.own g rfl
  simp [World.frozen?, h1]

theorem tzCells_get {ys : List Tz} {k : Nat} {y : Tz} (h : ys[k]? = some y) (j : Nat) (hj : j < 5) : (tzCells ys)[k * 5 + j]? = (tzCell y)[j]? := by
  induction ys generalizing k with
  | nil => simp at h
  | cons q ys ih =>
    have hc : tzCells (q :: ys) = tzCell q ++ tzCells ys := by simp [tzCells, tzCell]
    cases k with
    | zero =>
      simp only [List.getElem?_cons_zero, Option.some.injEq] at h
      subst h
      rw [hc, List.getElem?_append_left (by simp [tzCell]; omega)]
      simp
    | succ k =>
      simp only [List.getElem?_cons_succ] at h
      rw [hc, List.getElem?_append_right (by simp [tzCell]; omega)]
      have : (k + 1) * 5 + j - (tzCell q).length = k * 5 + j := by simp [tzCell]; omega
      rw [this]
      exact ih h
theorem tzCells_len (ts : List Tz) : (tzCells ts).length = ts.length * 5 := by
  induction ts with
  | nil => rfl
  | cons t ts ih => simp only [tzCells, List.flatMap_cons, List.length_append, List.length_cons] at ih ⊢; rw [ih]; simp [tzCell]; omega
theorem tzCells_one (ts : List Tz) : ∀ u ∈ tzCells ts, u.oneCell' = true := by
  intro u hu
  unfold tzCells at hu
  rw [List.mem_flatMap] at hu
  obtain ⟨t, _, ht⟩ := hu
  simp only [tzCell, List.mem_cons, List.not_mem_nil, or_false] at ht
  rcases ht with rfl | rfl | rfl | rfl | rfl <;> rfl
theorem tzCells_at {W : World} {b o : Nat} {ts : List Tz} (h : TzAt W b o ts) : ∀ j u, (tzCells ts)[j]? = some u → W.cell? ((⟨b, o, none⟩ : Addr).add j) = some u := by
  intro j u hj
  have hlt := (List.getElem?_eq_some_iff.1 hj).1
  rw [tzCells_len] at hlt
  obtain ⟨t, ht⟩ : ∃ t, ts[j / 5]? = some t := ⟨_, List.getElem?_eq_getElem (by omega)⟩
  obtain ⟨c0, c1, c2, c3, c4⟩ := h _ t ht
  have hj2 : (tzCells ts)[j / 5 * 5 + j % 5]? = (tzCell t)[j % 5]? := tzCells_get ht _ (Nat.mod_lt _ (by decide))
  rw [show j / 5 * 5 + j % 5 = j by omega, hj] at hj2
  have ha : (⟨b, o, none⟩ : Addr).add j = ⟨b, o + j / 5 * 5 + j % 5, none⟩ := by
    unfold Addr.add
    split
    · congr 1; omega
    · congr 1; simp only []; omega
  rw [ha]
  have h5 : j % 5 < 5 := Nat.mod_lt _ (by decide)
  generalize j % 5 = r at *
  match r, h5, hj2 with
  | 0, _, hj2 => cases hj2; exact c0
  | 1, _, hj2 => cases hj2; exact c1
  | 2, _, hj2 => cases hj2; exact c2
  | 3, _, hj2 => cases hj2; exact c3
  | 4, _, hj2 => cases hj2; exact c4

/-- A row of tokens that the call owns. -/
theorem tz_shape {W : World} {base n : Nat} {v : Value} {ts : List Tz} (hn : ts.length = n) (h : W.ownsRow base 49 5 v n (tzCells ts)) : ∃ a cap, v = .slice a n cap ∧ (0 < n → ∃ g, a = some ⟨g, 0, none⟩ ∧ g < W.heap.size ∧ TzRow W g ts) ∧ Wrote a 49 (n * 5) W W ∧ (∀ g, a = some ⟨g, 0, none⟩ → base ≤ g) := by
  subst hn
  rcases h.2 with ⟨rfl, h0⟩ | ⟨g, cap, cur, rfl, hg, hh, hc1, hc2, hc3, hc4⟩
  · exact ⟨none, 0, by rw [h0], fun hp => by omega, ⟨rfl, (fun g e => by cases e), fun _ _ => Below.refl _ _⟩, (fun g e => by cases e)⟩
  · refine ⟨some ⟨g, 0, none⟩, cap, rfl, fun _ => ⟨g, rfl, (Array.getElem?_eq_some_iff.1 hh).1, fun i t ht => ?_⟩, ⟨rfl, fun g' e => ?_, fun _ _ => Below.refl _ _⟩, fun g' e => ?_⟩
    · have hc : ∀ j u, (tzCells ts)[j]? = some u → W.cell? ⟨g, j, none⟩ = some u := fun j u hj => by
        have := h.cells (g := g) rfl j u hj
        rcases j with _ | j <;> simpa [Addr.add] using this
      exact ⟨hc _ _ (tzCells_get ht 0 (by decide)), hc _ _ (tzCells_get ht 1 (by decide)), hc _ _ (tzCells_get ht 2 (by decide)), hc _ _ (tzCells_get ht 3 (by decide)), hc _ _ (tzCells_get ht 4 (by decide))⟩
    · obtain rfl : g = g' := by simpa using e
      exact ⟨cur, hh, by rw [hc3]; exact Nat.mul_le_mul_right 5 hc1⟩
    · obtain rfl : g = g' := by simpa using e
      exact hg

theorem row_zero {W : World} {b n z : Nat} {e : TypeId} {v : Value} {xs : List Value} (h : W.ownsRow b e z v (0 + n) ([] ++ xs)) : W.ownsRow b e z v n xs := by
  rw [Nat.zero_add] at h; exact h

/-- scan.Bare, its row laid open. -/
theorem bare_at {ts bs : List Tz} {n m cap : Nat} {a : Option Addr} {w : World} (hbs : (bareS ts).1 = bs) (hm : bs.length = m) (hn : ts.length = n) (hn2 : n * 48 ≤ 140737488355328) (ht : ∀ t ∈ ts, t.tx.size ≤ 281474976710656)
    (hT : 0 < n → ∃ g, a = some ⟨g, 0, none⟩ ∧ g < w.heap.size ∧ TzRow w g ts) :
    Calls Try.prog 54 #[.slice a n cap] w fun e w' => (∃ a' cap', e = .returned (.slice a' m cap') ∧ (0 < m → ∃ g, a' = some ⟨g, 0, none⟩ ∧ g < w'.heap.size ∧ TzRow w' g bs) ∧ Wrote a' 49 (m * 5) w' w' ∧ (∀ g, a' = some ⟨g, 0, none⟩ → w.heap.size ≤ g)) ∧ Below w.heap.size w w' := by
  refine (bare_any ts n cap a w hn hn2 ht hT).mono ?_
  rintro e w1 ⟨⟨v, rfl, hr⟩, hb⟩
  rw [hbs, hm] at hr
  obtain ⟨a', cap', rfl, h1, h2, h3⟩ := tz_shape hm hr
  exact ⟨⟨a', cap', rfl, h1, h2, h3⟩, hb⟩
end Go.Proofs.Ytaodjipnffgihaa
