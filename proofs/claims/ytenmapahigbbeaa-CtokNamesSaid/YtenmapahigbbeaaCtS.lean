/- Stage 4, pure: integer constants, and numbers that are written in a base (CtokBack of the document's answers). -/
namespace Go.Proofs.Ytenmapahigbbeaa

def worthC (c : UInt8) : Nat := if 48 ≤ c ∧ c ≤ 57 then c.toNat - 48 else if 97 ≤ c ∧ c ≤ 102 then c.toNat - 87 else if 65 ≤ c ∧ c ≤ 70 then c.toNat - 55 else 99
def numC (b : Nat) (l : List UInt8) : Nat := l.foldl (fun v c => v * b + worthC c) 0
/-- May it be a suffix, and has it a u? -/
def lC (l : List UInt8) : Bool := l == [] || l == [108] || l == [76] || l == [108, 108] || l == [76, 76]
def uC (c : UInt8) : Bool := c == 117 || c == 85
def sufC (l : List UInt8) : Bool × Bool :=
  if (l.head?.map uC).getD false then (lC l.tail, true) else if (l.getLast?.map uC).getD false then (lC l.dropLast, true) else (lC l, false)
def baseC (l : List UInt8) : Nat × List UInt8 :=
  if l.head? = some 48 then (if l.tail.head? = some 120 ∨ l.tail.head? = some 88 then (16, l.tail.tail) else (8, l)) else (10, l)
def digitsC (b : Nat) (l : List UInt8) : List UInt8 := l.takeWhile fun c => worthC c < b
def restC (b : Nat) (l : List UInt8) : List UInt8 := l.dropWhile fun c => worthC c < b
def intC (l : List UInt8) : Option (Nat × Bool) :=
  let b := (baseC l).1
  let ds := digitsC b (baseC l).2
  let su := sufC (restC b (baseC l).2)
  if ds = [] ∨ su.1 = false then none
  else if 18446744073709551615 < numC b ds then none
  else if b = 10 ∧ su.2 = false ∧ 9223372036854775807 < numC b ds then none
  else some (numC b ds, su.2 || (decide (9223372036854775807 < numC b ds) && decide (b ≠ 10)))

/-! ### Numbers written -/
def digC (d : Nat) : UInt8 := if d < 10 then (48 + d).toUInt8 else (87 + d).toUInt8
def writC (b : Nat) : Nat → Nat → List UInt8
  | 0, n => [digC n]
  | f + 1, n => if n < b then [digC n] else writC b f (n / b) ++ [digC (n % b)]
theorem worth_dig : ∀ d, d < 16 → worthC (digC d) = d := by decide
theorem dig_zero : ∀ d, d < 16 → 0 < d → digC d ≠ 48 := by decide
theorem numC_snoc (b : Nat) (l : List UInt8) (c : UInt8) : numC b (l ++ [c]) = numC b l * b + worthC c := by
  unfold numC; rw [List.foldl_append]; rfl
theorem writ_num {b : Nat} (hb : 2 ≤ b) (hb2 : b ≤ 16) : ∀ f n, n < 2 ^ f → numC b (writC b f n) = n
  | 0, n, h => by
    have : n = 0 := by simpa using h
    subst this
    show 0 * b + worthC (digC 0) = 0
    rw [worth_dig 0 (by decide), Nat.zero_mul]
  | f + 1, n, h => by
    unfold writC
    split
    · rename_i hn
      show 0 * b + worthC (digC n) = n
      rw [worth_dig n (by omega)]; omega
    · have h2 : n / b ≤ n / 2 := Nat.div_le_div_left hb (by decide)
      have h3 : n / b < 2 ^ f := by rw [Nat.pow_succ] at h; omega
      rw [numC_snoc, writ_num hb hb2 f (n / b) h3, worth_dig _ (Nat.lt_of_lt_of_le (Nat.mod_lt _ (by omega)) hb2)]
      rw [Nat.mul_comm]; exact Nat.div_add_mod n b
theorem writ_all {b : Nat} (hb : 2 ≤ b) (hb2 : b ≤ 16) : ∀ f n, n < 2 ^ f → ∀ c ∈ writC b f n, worthC c < b
  | 0, n, h, c, hc => by
    have : n = 0 := by simpa using h
    subst this
    simp only [writC, List.mem_singleton] at hc
    subst hc
    rw [worth_dig 0 (by decide)]; omega
  | f + 1, n, h, c, hc => by
    unfold writC at hc
    split at hc
    · rename_i hn
      simp only [List.mem_singleton] at hc
      subst hc
      rw [worth_dig n (by omega)]; exact hn
    · have h2 : n / b ≤ n / 2 := Nat.div_le_div_left hb (by decide)
      have h3 : n / b < 2 ^ f := by rw [Nat.pow_succ] at h; omega
      rcases List.mem_append.1 hc with hc | hc
      · exact writ_all hb hb2 f (n / b) h3 c hc
      · simp only [List.mem_singleton] at hc
        subst hc
        have := Nat.mod_lt n (show b > 0 by omega)
        rw [worth_dig _ (by omega)]; exact this
theorem writ_ne (b f n : Nat) : writC b f n ≠ [] := by
  cases f with
  | zero => simp [writC]
  | succ f => unfold writC; split <;> simp
/-- A number above 0 does not begin with a 0. -/
theorem writ_head {b : Nat} (hb : 2 ≤ b) (hb2 : b ≤ 16) : ∀ f n, n < 2 ^ f → 0 < n → (writC b f n).head? ≠ some 48
  | 0, n, h, h0 => by
    have : n = 0 := by simpa using h
    omega
  | f + 1, n, h, h0 => by
    unfold writC
    split
    · rename_i hn
      simp only [List.head?_cons, ne_eq, Option.some.injEq]
      exact dig_zero n (by omega) h0
    · rename_i hn
      have h2 : n / b ≤ n / 2 := Nat.div_le_div_left hb (by decide)
      have h3 : n / b < 2 ^ f := by rw [Nat.pow_succ] at h; omega
      have h4 : 0 < n / b := Nat.div_pos (by omega) (by omega)
      rw [List.head?_append]
      have h5 := writ_head hb hb2 f (n / b) h3 h4
      cases hh : (writC b f (n / b)).head? with
      | none => exact absurd (List.head?_eq_none_iff.1 hh) (writ_ne _ _ _)
      | some x => rw [hh] at h5; simpa using h5

theorem take_all {b : Nat} {l s : List UInt8} (h : ∀ c ∈ l, worthC c < b) (hs : s = [] ∨ ∃ c r, s = c :: r ∧ ¬ worthC c < b) : digitsC b (l ++ s) = l ∧ restC b (l ++ s) = s := by
  unfold digitsC restC
  induction l with
  | nil =>
    rcases hs with rfl | ⟨c, r, rfl, hc⟩
    · exact ⟨rfl, rfl⟩
    · simp [hc]
  | cons x l ih =>
    have hx := h x List.mem_cons_self
    obtain ⟨h1, h2⟩ := ih (fun c hc => h c (List.mem_cons_of_mem _ hc))
    simp only [List.cons_append, List.takeWhile_cons, List.dropWhile_cons, hx, decide_true, if_true]
    exact ⟨by rw [h1], h2⟩

/-- What a constant of base b is worth, its digits and its suffix known. -/
theorem intC_of {l ds s : List UInt8} {b : Nat} (hb : baseC l = (b, ds ++ s)) (hd : ∀ c ∈ ds, worthC c < b) (hne : ds ≠ []) (hs : s = [] ∨ ∃ c r, s = c :: r ∧ ¬ worthC c < b) (hsu : (sufC s).1 = true) (hm : numC b ds ≤ 18446744073709551615) :
    intC l = if b = 10 ∧ (sufC s).2 = false ∧ 9223372036854775807 < numC b ds then none else some (numC b ds, (sufC s).2 || (decide (9223372036854775807 < numC b ds) && decide (b ≠ 10))) := by
  obtain ⟨h1, h2⟩ := take_all hd hs
  unfold intC
  simp only [hb, h1, h2, hsu]
  rw [if_neg (by simp [hne]), if_neg (by omega)]

/-- In base 10, without a suffix and with one. -/
theorem base_ten {f n : Nat} (h : n < 2 ^ f) (h0 : 0 < n) (s : List UInt8) : baseC (writC 10 f n ++ s) = (10, writC 10 f n ++ s) := by
  unfold baseC
  rw [if_neg]
  rw [List.head?_append]
  have h5 := writ_head (b := 10) (by decide) (by decide) f n h h0
  cases hh : (writC 10 f n).head? with
  | none => exact absurd (List.head?_eq_none_iff.1 hh) (writ_ne _ _ _)
  | some x => rw [hh] at h5; simpa using h5
theorem int_ten {f n : Nat} (h : n < 2 ^ f) (hm : n ≤ 18446744073709551615) : intC (writC 10 f n) = if 9223372036854775807 < n then none else some (n, false) := by
  rcases Nat.eq_zero_or_pos n with rfl | h0
  · cases f <;> rfl
  · have e := intC_of (s := []) (base_ten h h0 []) (writ_all (by decide) (by decide) f n h) (writ_ne _ _ _) (.inl rfl) rfl (by rw [writ_num (by decide) (by decide) f n h]; exact hm)
    rw [List.append_nil, writ_num (by decide) (by decide) f n h] at e
    rw [e]
    have hs : (sufC []).2 = false := rfl
    simp [hs]
theorem int_tenU {f n : Nat} (h : n < 2 ^ f) (hm : n ≤ 18446744073709551615) : intC (writC 10 f n ++ [117]) = some (n, true) := by
  rcases Nat.eq_zero_or_pos n with rfl | h0
  · cases f <;> rfl
  · have e := intC_of (base_ten h h0 [117]) (writ_all (by decide) (by decide) f n h) (writ_ne _ _ _) (.inr ⟨117, [], rfl, by decide⟩) (by decide) (by rw [writ_num (by decide) (by decide) f n h]; exact hm)
    rw [writ_num (by decide) (by decide) f n h] at e
    rw [e]
    have hs : (sufC [117]).2 = true := by decide
    simp [hs]
theorem int_eight {f n : Nat} (h : n < 2 ^ f) (hm : n ≤ 18446744073709551615) : intC (48 :: writC 8 f n) = some (n, decide (9223372036854775807 < n)) := by
  have ha := writ_all (b := 8) (by decide) (by decide) f n h
  have hb : baseC (48 :: writC 8 f n) = (8, (48 :: writC 8 f n) ++ []) := by
    unfold baseC
    rw [if_pos (by rfl), if_neg, List.append_nil]
    cases hh : writC 8 f n with
    | nil => simp
    | cons x r =>
      have := ha x (by rw [hh]; exact List.mem_cons_self)
      rintro (h1 | h1)
      · simp at h1; subst h1; exact absurd this (by decide)
      · simp at h1; subst h1; exact absurd this (by decide)
  have hnum : numC 8 (48 :: writC 8 f n) = n := by
    have := writ_num (b := 8) (by decide) (by decide) f n h
    unfold numC at this ⊢
    rw [List.foldl_cons, show 0 * 8 + worthC 48 = 0 by decide]; exact this
  have e := intC_of hb (fun c hc => by
    rcases List.mem_cons.1 hc with rfl | hc
    · decide
    · exact ha c hc) (by simp) (.inl rfl) rfl (by rw [hnum]; exact hm)
  rw [hnum] at e
  rw [e]
  have hs : (sufC []).2 = false := rfl
  simp [hs]
theorem int_hex {f n : Nat} {x : UInt8} (hx : x = 120 ∨ x = 88) {s : List UInt8} (hs : s = [] ∨ ∃ c r, s = c :: r ∧ ¬ worthC c < 16) (hsu : (sufC s).1 = true) (h : n < 2 ^ f) (hm : n ≤ 18446744073709551615) :
    intC (48 :: x :: (writC 16 f n ++ s)) = some (n, (sufC s).2 || decide (9223372036854775807 < n)) := by
  have hb : baseC (48 :: x :: (writC 16 f n ++ s)) = (16, writC 16 f n ++ s) := by
    unfold baseC
    rw [if_pos (by rfl), if_pos (by rcases hx with rfl | rfl <;> simp)]
    rfl
  have e := intC_of hb (writ_all (by decide) (by decide) f n h) (writ_ne _ _ _) hs hsu (by rw [writ_num (by decide) (by decide) f n h]; exact hm)
  rw [writ_num (by decide) (by decide) f n h] at e
  rw [e]
  simp

end Go.Proofs.Ytenmapahigbbeaa
