/- Elements of the lists that Chars and Splices answer. -/
import Derived.Test.YtdkdoknajanfgaaSplices
import Derived.Test.YtdkdoknajanfgaaRSpell
namespace Go.Proofs.Ytdkdoknajanfgaa
open Go.RowKit

theorem charCells_get {ps : List Part} {k : Nat} {p : Part} (h : ps[k]? = some p) (j : Nat) (hj : j < 3) : (charCells ps)[3 * k + j]? = (charCell p)[j]? := by
  induction ps generalizing k with
  | nil => simp at h
  | cons q ps ih =>
    have hc : charCells (q :: ps) = charCell q ++ charCells ps := by simp [charCells]
    cases k with
    | zero =>
      simp only [List.getElem?_cons_zero, Option.some.injEq] at h
      subst h
      rw [hc, List.getElem?_append_left (by simp [charCell]; omega)]
      simp
    | succ k =>
      simp only [List.getElem?_cons_succ] at h
      rw [hc, List.getElem?_append_right (by simp [charCell]; omega)]
      have : 3 * (k + 1) + j - (charCell q).length = 3 * k + j := by simp [charCell]; omega
      rw [this]
      exact ih h

theorem spanCells_get {ps : List Part} {k : Nat} {p : Part} (h : ps[k]? = some p) (j : Nat) (hj : j < 2) : (spanCells ps)[2 * k + j]? = (spanCell p)[j]? := by
  induction ps generalizing k with
  | nil => simp at h
  | cons q ps ih =>
    have hc : spanCells (q :: ps) = spanCell q ++ spanCells ps := by simp [spanCells]
    cases k with
    | zero =>
      simp only [List.getElem?_cons_zero, Option.some.injEq] at h
      subst h
      rw [hc, List.getElem?_append_left (by simp [spanCell]; omega)]
      simp
    | succ k =>
      simp only [List.getElem?_cons_succ] at h
      rw [hc, List.getElem?_append_right (by simp [spanCell]; omega)]
      have : 2 * (k + 1) + j - (spanCell q).length = 2 * k + j := by simp [spanCell]; omega
      rw [this]
      exact ih h

/-- A row of characters that has been answered: where it lies; its cells. -/
def CharRow (w : World) (base : Nat) (a : Option Addr) (cap : Nat) (ps : List Part) : Prop :=
  (a = none ∧ ps = [] ∧ cap = 0) ∨ ∃ g cur, a = some ⟨g, 0, none⟩ ∧ base ≤ g ∧ w.heap[g]? = some (.cells cur 42 (0, 0)) ∧ ps.length ≤ cap ∧ cap ≤ maxLen ∧ cur.size = cap * 3 ∧ cur.toList.take (ps.length * 3) = charCells ps
def SpanRow (w : World) (base : Nat) (a : Option Addr) (cap : Nat) (ps : List Part) : Prop :=
  (a = none ∧ ps = [] ∧ cap = 0) ∨ ∃ g cur, a = some ⟨g, 0, none⟩ ∧ base ≤ g ∧ w.heap[g]? = some (.cells cur 44 (0, 0)) ∧ ps.length ≤ cap ∧ cap ≤ maxLen ∧ cur.size = cap * 2 ∧ cur.toList.take (ps.length * 2) = spanCells ps

theorem charRow_of {w : World} {base : Nat} {v : Value} {ps : List Part} (h : w.ownsRow base 42 3 v ps.length (charCells ps)) : ∃ a cap, v = .slice a ps.length cap ∧ CharRow w base a cap ps := by
  rcases h.2 with ⟨rfl, h0⟩ | ⟨g, cap, cur, rfl, h1, h2, h3, h4, h5, h6⟩
  · have : ps = [] := List.length_eq_zero_iff.1 h0
    subst this
    exact ⟨none, 0, rfl, .inl ⟨rfl, rfl, rfl⟩⟩
  · exact ⟨_, cap, rfl, .inr ⟨g, cur, rfl, h1, h2, h3, h4, h5, h6⟩⟩
theorem spanRow_of {w : World} {base : Nat} {v : Value} {ps : List Part} (h : w.ownsRow base 44 2 v ps.length (spanCells ps)) : ∃ a cap, v = .slice a ps.length cap ∧ SpanRow w base a cap ps := by
  rcases h.2 with ⟨rfl, h0⟩ | ⟨g, cap, cur, rfl, h1, h2, h3, h4, h5, h6⟩
  · have : ps = [] := List.length_eq_zero_iff.1 h0
    subst this
    exact ⟨none, 0, rfl, .inl ⟨rfl, rfl, rfl⟩⟩
  · exact ⟨_, cap, rfl, .inr ⟨g, cur, rfl, h1, h2, h3, h4, h5, h6⟩⟩

/-- It lies on in a later world. -/
theorem CharRow.below {w w' : World} {base B : Nat} {a : Option Addr} {cap : Nat} {ps : List Part} (h : CharRow w base a cap ps) (hb : Below B w w') (hB : w.heap.size ≤ B) : CharRow w' base a cap ps := by
  rcases h with h | ⟨g, cur, h1, h2, h3, h4⟩
  · exact .inl h
  · exact .inr ⟨g, cur, h1, h2, (hb.block g (by have := (Array.getElem?_eq_some_iff.1 h3).1; omega)).trans h3, h4⟩
theorem SpanRow.below {w w' : World} {base B : Nat} {a : Option Addr} {cap : Nat} {ps : List Part} (h : SpanRow w base a cap ps) (hb : Below B w w') (hB : w.heap.size ≤ B) : SpanRow w' base a cap ps := by
  rcases h with h | ⟨g, cur, h1, h2, h3, h4⟩
  · exact .inl h
  · exact .inr ⟨g, cur, h1, h2, (hb.block g (by have := (Array.getElem?_eq_some_iff.1 h3).1; omega)).trans h3, h4⟩

theorem row_cell {w : World} {g : Nat} {cur : Array Value} {t : TypeId} {fz : Nat × Nat} {n : Nat} {xs : List Value} (h : w.heap[g]? = some (.cells cur t fz)) (ht : cur.toList.take n = xs) {j : Nat} {u : Value} (hu : xs[j]? = some u) : w.cell? ⟨g, j, none⟩ = some u := by
  rw [Lib.cell_of_heap h]
  have h2 : (cur.toList.take n)[j]? = some u := by rw [ht]; exact hu
  rw [List.getElem?_take] at h2
  split at h2
  · rw [← h2, Array.getElem?_toList]
  · cases h2

/-- The cells of element k. -/
theorem CharRow.cells {w : World} {base : Nat} {a : Option Addr} {cap : Nat} {ps : List Part} (h : CharRow w base a cap ps) {k : Nat} {p : Part} (hp : ps[k]? = some p) :
    ∃ g, a = some ⟨g, 0, none⟩ ∧ base ≤ g ∧ g < w.heap.size ∧ ps.length ≤ cap ∧ cap ≤ maxLen ∧ w.cell? ⟨g, k * 3, none⟩ = some (.int .u8 p.b.toNat) ∧ w.cell? ⟨g, k * 3 + 1, none⟩ = some (.int .i64 p.at') ∧ w.cell? ⟨g, k * 3 + 2, none⟩ = some (.int .i64 p.n) := by
  rcases h with ⟨_, h, _⟩ | ⟨g, cur, h1, h2, h3, h4, h5, h6, h7⟩
  · subst h; simp at hp
  · rw [Nat.mul_comm k 3]
    exact ⟨g, h1, h2, (Array.getElem?_eq_some_iff.1 h3).1, h4, h5, row_cell h3 h7 (charCells_get hp 0 (by omega)), row_cell h3 h7 (charCells_get hp 1 (by omega)), row_cell h3 h7 (charCells_get hp 2 (by omega))⟩
theorem SpanRow.cells {w : World} {base : Nat} {a : Option Addr} {cap : Nat} {ps : List Part} (h : SpanRow w base a cap ps) {k : Nat} {p : Part} (hp : ps[k]? = some p) :
    ∃ g, a = some ⟨g, 0, none⟩ ∧ base ≤ g ∧ g < w.heap.size ∧ ps.length ≤ cap ∧ cap ≤ maxLen ∧ w.cell? ⟨g, k * 2, none⟩ = some (.int .i64 p.at') ∧ w.cell? ⟨g, k * 2 + 1, none⟩ = some (.int .i64 ((p.at' : Int) + p.n)) := by
  rcases h with ⟨_, h, _⟩ | ⟨g, cur, h1, h2, h3, h4, h5, h6, h7⟩
  · subst h; simp at hp
  · rw [Nat.mul_comm k 2]
    exact ⟨g, h1, h2, (Array.getElem?_eq_some_iff.1 h3).1, h4, h5, row_cell h3 h7 (spanCells_get hp 0 (by omega)), row_cell h3 h7 (spanCells_get hp 1 (by omega))⟩

/-- phys.Chars, phys.Splices: what they answer, as rows. -/
theorem chars_row (s : ByteArray) (w : World) (hs : s.size ≤ maxLen) :
    Calls Try.prog 10 #[.string s] w fun e w' => (∃ a cap, e = .returned (.tuple #[.slice a (charsOf s.data.toList).length cap, .int .i64 (checkN s.data.toList)]) ∧ CharRow w' w.heap.size a cap (charsOf s.data.toList)) ∧ Below w.heap.size w w' := by
  refine (chars_any s w hs).mono ?_
  rintro e w' ⟨⟨v, rfl, h⟩, hb⟩
  obtain ⟨a, cap, rfl, hr⟩ := charRow_of h
  exact ⟨⟨a, cap, rfl, hr⟩, hb⟩
theorem splices_row (s : ByteArray) (w : World) (hs : s.size ≤ maxLen) :
    Calls Try.prog 14 #[.string s] w fun e w' => (∃ a cap, e = .returned (.tuple #[.slice a (splicesOf s.data.toList).length cap, .int .i64 (checkN s.data.toList)]) ∧ SpanRow w' w.heap.size a cap (splicesOf s.data.toList)) ∧ Below w.heap.size w w' := by
  refine (splices_any s w hs).mono ?_
  rintro e w' ⟨⟨v, rfl, h⟩, hb⟩
  obtain ⟨a, cap, rfl, hr⟩ := spanRow_of h
  exact ⟨⟨a, cap, rfl, hr⟩, hb⟩

end Go.Proofs.Ytdkdoknajanfgaa
