/- Stage 4, pure: floating constants (CtokOne of the document's answers). -/
import Derived.Test.YtenmapahigbbeaaCtS
namespace Go.Proofs.Ytenmapahigbbeaa

def fC (l : List UInt8) : Bool := l == [] || l == [102] || l == [70] || l == [108] || l == [76]
def signC (l : List UInt8) : List UInt8 := if l.head? = some 43 ∨ l.head? = some 45 then l.tail else l
def endsC (small great : UInt8) (may : Bool) (l : List UInt8) : Bool :=
  if l.head? = some small ∨ l.head? = some great then (if digitsC 10 (signC l.tail) = [] then false else fC (restC 10 (signC l.tail)))
  else may && fC l
/-- A floating constant's base, and what stands behind its sign of base. -/
def baseF (l : List UInt8) : Nat × List UInt8 := if (baseC l).1 = 16 then (16, (baseC l).2) else (10, l)
def tailF (b : Nat) (point : Bool) (l : List UInt8) : Bool := if b = 16 then endsC 112 80 false l else endsC 101 69 point l
def floatC (l : List UInt8) : Bool :=
  let b := (baseF l).1
  let ds := digitsC b (baseF l).2
  let r := restC b (baseF l).2
  if r.head? = some 46 then (if ds = [] ∧ digitsC b r.tail = [] then false else tailF b true (restC b r.tail))
  else (if ds = [] then false else tailF b false r)

theorem lC_head {c : UInt8} {q : List UInt8} (h : lC (c :: q) = true) : c = 108 ∨ c = 76 := by
  simp only [lC, Bool.or_eq_true, beq_iff_eq, List.cons.injEq, reduceCtorEq, false_or] at h
  rcases h with ((⟨h, _⟩ | ⟨h, _⟩) | ⟨h, _⟩) | ⟨h, _⟩ <;> simp [h]
theorem uC_head {c : UInt8} (h : uC c = true) : c = 117 ∨ c = 85 := by simpa [uC] using h
theorem suf_head {s : List UInt8} (h : (sufC s).1 = true) : s = [] ∨ ∃ c r, s = c :: r ∧ (c = 117 ∨ c = 85 ∨ c = 108 ∨ c = 76) := by
  cases s with
  | nil => exact .inl rfl
  | cons c r =>
    refine .inr ⟨c, r, rfl, ?_⟩
    unfold sufC at h
    split at h
    · rename_i h1
      rcases uC_head (c := c) (by simpa using h1) with h2 | h2 <;> simp [h2]
    · split at h
      · rename_i h1 h2
        cases r with
        | nil => exact absurd h2 (by simpa using h1)
        | cons x r =>
          rcases lC_head (c := c) (q := (x :: r).dropLast) (by simpa using h) with h3 | h3 <;> simp [h3]
      · rcases lC_head h with h3 | h3 <;> simp [h3]
theorem suf_worth {c : UInt8} (h : c = 117 ∨ c = 85 ∨ c = 108 ∨ c = 76) : worthC c = 99 ∧ c ≠ 46 ∧ c ≠ 101 ∧ c ≠ 69 ∧ c ≠ 112 ∧ c ≠ 80 := by
  rcases h with rfl | rfl | rfl | rfl <;> decide
theorem tail_not {s : List UInt8} (h : (sufC s).1 = true) (b : Nat) : tailF b false s = false ∧ s.head? ≠ some 46 := by
  rcases suf_head h with rfl | ⟨c, r, rfl, hc⟩
  · unfold tailF endsC; simp
  · obtain ⟨_, h1, h2, h3, h4, h5⟩ := suf_worth hc
    unfold tailF endsC
    simp [h1, h2, h3, h4, h5]

theorem split_digits (b : Nat) (l : List UInt8) : (∀ c ∈ digitsC b l, worthC c < b) ∧ l = digitsC b l ++ restC b l := by
  refine ⟨fun c hc => ?_, (List.takeWhile_append_dropWhile).symm⟩
  have := List.all_takeWhile (p := fun c => decide (worthC c < b)) (l := l)
  exact of_decide_eq_true (List.all_eq_true.1 this c hc)
/-- No text is both. -/
theorem int_float {l : List UInt8} (h : intC l ≠ none) : floatC l = false := by
  have hsu : (sufC (restC (baseC l).1 (baseC l).2)).1 = true := by
    cases hh : (sufC (restC (baseC l).1 (baseC l).2)).1 with
    | true => rfl
    | false => exact absurd (by unfold intC; simp [hh]) h
  have hr : restC (baseF l).1 (baseF l).2 = restC (baseC l).1 (baseC l).2 := by
    unfold baseF
    split
    · rename_i h16; rw [h16]
    · rename_i h16
      have hb : ((baseC l).1 = 10 ∨ (baseC l).1 = 8) ∧ (baseC l).2 = l := by
        unfold baseC at h16 ⊢
        split
        · split
          · rename_i h1 h2
            rw [if_pos h1, if_pos h2] at h16
            exact absurd rfl h16
          · exact ⟨.inr rfl, rfl⟩
        · exact ⟨.inl rfl, rfl⟩
      rw [hb.2] at hsu ⊢
      rcases hb.1 with h1 | h1
      · rw [h1]
      · rw [h1] at hsu ⊢
        obtain ⟨h2, h3⟩ := split_digits 8 l
        have h4 := take_all (b := 10) (l := digitsC 8 l) (s := restC 8 l) (fun c hc => Nat.lt_trans (h2 c hc) (by decide)) (by
          rcases suf_head hsu with h5 | ⟨c, r, h5, hc⟩
          · exact .inl h5
          · exact .inr ⟨c, r, h5, by rw [(suf_worth hc).1]; decide⟩)
        rw [← h3] at h4
        exact h4.2
  unfold floatC
  simp only [hr]
  have ht := tail_not hsu (baseF l).1
  rw [if_neg ht.2, ht.1]
  simp

/-! ### A letter more -/
theorem rest_snoc {b : Nat} (hb : b ≤ 16) (x : List UInt8) : restC b (x ++ [95]) = restC b x ++ [95] := by
  unfold restC
  have h95 : worthC 95 = 99 := by decide
  induction x with
  | nil =>
    rw [List.nil_append, List.dropWhile_cons, if_neg (by rw [h95]; simp; omega)]
    rfl
  | cons c x ih =>
    simp only [List.cons_append, List.dropWhile_cons]
    split
    · exact ih
    · rfl
theorem fC_snoc (z : List UInt8) : fC (z ++ [95]) = false := by
  cases z with
  | nil => decide
  | cons c z => cases z <;> simp [fC]
theorem head_snoc {z : List UInt8} {c : UInt8} (hc : c ≠ 95) (h : (z ++ [95]).head? = some c) : ∃ z', z = c :: z' := by
  cases z with
  | nil => simp at h; exact absurd h.symm hc
  | cons x z => simp at h; exact ⟨z, by rw [h]⟩
theorem sign_snoc (z : List UInt8) : ∃ z', signC (z ++ [95]) = z' ++ [95] := by
  unfold signC
  split
  · rename_i h
    rcases h with h | h
    · obtain ⟨z', rfl⟩ := head_snoc (by decide) h; exact ⟨z', rfl⟩
    · obtain ⟨z', rfl⟩ := head_snoc (by decide) h; exact ⟨z', rfl⟩
  · exact ⟨z, rfl⟩
theorem ends_snoc {s g : UInt8} (hs : s ≠ 95) (hg : g ≠ 95) (may : Bool) (z : List UInt8) : endsC s g may (z ++ [95]) = false := by
  unfold endsC
  split
  · rename_i h
    obtain ⟨z', hz⟩ : ∃ z', (z ++ [95]).tail = z' ++ [95] := by
      rcases h with h | h
      · obtain ⟨z', rfl⟩ := head_snoc hs h; exact ⟨z', rfl⟩
      · obtain ⟨z', rfl⟩ := head_snoc hg h; exact ⟨z', rfl⟩
    obtain ⟨y, hy⟩ := sign_snoc z'
    rw [hz, hy, rest_snoc (by decide), fC_snoc]
    simp
  · rw [fC_snoc]; simp
theorem tail_snoc (b : Nat) (p : Bool) (z : List UInt8) : tailF b p (z ++ [95]) = false := by
  unfold tailF
  split
  · exact ends_snoc (by decide) (by decide) _ _
  · exact ends_snoc (by decide) (by decide) _ _
theorem base_snoc (l : List UInt8) : ∃ x, (baseC (l ++ [95])).2 = x ++ [95] ∧ (baseC (l ++ [95])).1 ≤ 16 := by
  unfold baseC
  split
  · rename_i h
    obtain ⟨l', rfl⟩ := head_snoc (by decide) h
    split
    · rename_i h2
      simp only [List.cons_append, List.tail_cons] at h2 ⊢
      rcases h2 with h2 | h2
      · obtain ⟨q, rfl⟩ := head_snoc (by decide) h2; exact ⟨q, rfl, by decide⟩
      · obtain ⟨q, rfl⟩ := head_snoc (by decide) h2; exact ⟨q, rfl, by decide⟩
    · exact ⟨_, rfl, Nat.le_of_ble_eq_true rfl⟩
  · exact ⟨_, rfl, Nat.le_of_ble_eq_true rfl⟩
theorem suf_snoc (z : List UInt8) : (sufC (z ++ [95])).1 = false := by
  have hl : ∀ z : List UInt8, lC (z ++ [95]) = false := fun z => by
    cases z with
    | nil => decide
    | cons c z => rcases z with _ | ⟨d, _ | ⟨e, z⟩⟩ <;> simp [lC]
  unfold sufC
  split
  · rename_i h
    cases z with
    | nil => exact absurd h (by decide)
    | cons c z => exact hl z
  · split
    · rename_i h1 h2
      rw [List.getLast?_append] at h2
      have h3 : uC 95 = true := h2
      exact absurd h3 (by decide)
    · exact hl z
theorem int_snoc (l : List UInt8) : intC (l ++ [95]) = none := by
  obtain ⟨x, h1, h2⟩ := base_snoc l
  unfold intC
  simp [h1, rest_snoc h2, suf_snoc]
theorem float_snoc (l : List UInt8) : floatC (l ++ [95]) = false := by
  obtain ⟨x, h1, h2⟩ : ∃ x, (baseF (l ++ [95])).2 = x ++ [95] ∧ (baseF (l ++ [95])).1 ≤ 16 := by
    obtain ⟨x, h1, _⟩ := base_snoc l
    unfold baseF
    split
    · exact ⟨x, h1, Nat.le_of_ble_eq_true rfl⟩
    · exact ⟨l, rfl, Nat.le_of_ble_eq_true rfl⟩
  unfold floatC
  simp only [h1, rest_snoc h2]
  split
  · rename_i h
    obtain ⟨z, hz⟩ := head_snoc (by decide) h
    rw [hz, List.cons_append, List.tail_cons, rest_snoc h2, tail_snoc]
    simp
  · rw [tail_snoc]; simp

end Go.Proofs.Ytenmapahigbbeaa
