/- Stage 4, pure: digits as the program tells them; suffixes as the program cuts them. -/
import Derived.Test.YtenmapahigbbeaaCtF
import Derived.Test.YtenmapahigbbeaaCtE
namespace Go.Proofs.Ytenmapahigbbeaa

/-- What a byte is worth as a digit: 16: it is none. -/
def digV (c : UInt8) : Nat := if worthC c = 99 then 16 else worthC c
theorem worth_or (c : UInt8) : worthC c = 99 ∨ worthC c < 16 := by
  have h : ∀ n, n < 256 → (fun c : UInt8 => worthC c = 99 ∨ worthC c < 16) (UInt8.ofNat n) := by decide +kernel
  have := h c.toNat c.toNat_lt
  rwa [UInt8.ofNat_toNat] at this
theorem digV_nat (c : UInt8) : digV c = if 48 ≤ c.toNat ∧ c.toNat ≤ 57 then c.toNat - 48 else if 97 ≤ c.toNat ∧ c.toNat ≤ 102 then c.toNat - 87 else if 65 ≤ c.toNat ∧ c.toNat ≤ 70 then c.toNat - 55 else 16 := by
  have h : ∀ n, n < 256 → (fun c : UInt8 => digV c = if 48 ≤ c.toNat ∧ c.toNat ≤ 57 then c.toNat - 48 else if 97 ≤ c.toNat ∧ c.toNat ≤ 102 then c.toNat - 87 else if 65 ≤ c.toNat ∧ c.toNat ≤ 70 then c.toNat - 55 else 16) (UInt8.ofNat n) := by decide +kernel
  have := h c.toNat c.toNat_lt
  rwa [UInt8.ofNat_toNat] at this
theorem worthC_nat (c : UInt8) : worthC c = if 48 ≤ c.toNat ∧ c.toNat ≤ 57 then c.toNat - 48 else if 97 ≤ c.toNat ∧ c.toNat ≤ 102 then c.toNat - 87 else if 65 ≤ c.toNat ∧ c.toNat ≤ 70 then c.toNat - 55 else 99 := by
  have h : ∀ n, n < 256 → (fun c : UInt8 => worthC c = if 48 ≤ c.toNat ∧ c.toNat ≤ 57 then c.toNat - 48 else if 97 ≤ c.toNat ∧ c.toNat ≤ 102 then c.toNat - 87 else if 65 ≤ c.toNat ∧ c.toNat ≤ 70 then c.toNat - 55 else 99) (UInt8.ofNat n) := by decide +kernel
  have := h c.toNat c.toNat_lt
  rwa [UInt8.ofNat_toNat] at this
theorem digV_le (c : UInt8) : digV c ≤ 16 := by
  unfold digV
  rcases worth_or c with h | h
  · rw [if_pos h]; exact Nat.le_refl _
  · rw [if_neg (by omega)]; omega
theorem digV_lt {b : Nat} (hb : b ≤ 16) (c : UInt8) : digV c < b ↔ worthC c < b := by
  unfold digV
  rcases worth_or c with h | h
  · rw [if_pos h, h]; omega
  · rw [if_neg (by omega)]
theorem digV_eq {b : Nat} (hb : b ≤ 16) {c : UInt8} (h : digV c < b) : digV c = worthC c := by
  have h2 := (digV_lt hb c).1 h
  unfold digV
  rw [if_neg (by omega)]
theorem num_fit {b g v d : Nat} (hb : 0 < b) (hd : d ≤ g) : v ≤ (g - d) / b ↔ v * b + d ≤ g := by
  rw [Nat.le_div_iff_mul_le hb]; omega

/-- What number tells of digits: whether they fit, and what they are worth if so. -/
structure NumSt (b g : Nat) (ds : List UInt8) (v : Nat) (f : Bool) : Prop where
  fit : f = decide (numC b ds ≤ g)
  val : v = if numC b ds ≤ g then numC b ds else 0
theorem NumSt.start (b g : Nat) : NumSt b g [] 0 true := ⟨(decide_eq_true (Nat.zero_le _)).symm, (if_pos (Nat.zero_le _)).symm⟩
theorem NumSt.le {b g v : Nat} {ds : List UInt8} {f : Bool} (h : NumSt b g ds v f) : v ≤ g := by
  rw [h.val]; split
  · assumption
  · exact Nat.zero_le _
theorem NumSt.more {b g v : Nat} {ds : List UInt8} {c : UInt8} (hb : 0 < b) (hb2 : b ≤ 16) (hg : 16 ≤ g) (h : NumSt b g ds v true) (hd : digV c < b) (hv : v ≤ (g - digV c) / b) : NumSt b g (ds ++ [c]) (v * b + digV c) true := by
  have h1 := of_decide_eq_true h.fit.symm
  have h2 := h.val
  rw [if_pos h1] at h2
  have h3 := (num_fit hb (by omega)).1 hv
  rw [h2, digV_eq hb2 hd] at h3 ⊢
  have h4 : numC b (ds ++ [c]) ≤ g := by rw [numC_snoc]; exact h3
  exact ⟨(decide_eq_true h4).symm, by rw [if_pos h4, numC_snoc]⟩
theorem NumSt.over {b g v : Nat} {ds : List UInt8} {c : UInt8} (hb : 0 < b) (hb2 : b ≤ 16) (hg : 16 ≤ g) (h : NumSt b g ds v true) (hd : digV c < b) (hv : ¬ v ≤ (g - digV c) / b) : NumSt b g (ds ++ [c]) 0 false := by
  have h1 := of_decide_eq_true h.fit.symm
  have h2 := h.val
  rw [if_pos h1] at h2
  have h3 := fun h => hv ((num_fit hb (by omega)).2 h)
  rw [h2, digV_eq hb2 hd] at h3
  have h4 : ¬ numC b (ds ++ [c]) ≤ g := by rw [numC_snoc]; exact h3
  exact ⟨(decide_eq_false h4).symm, (if_neg h4).symm⟩
theorem NumSt.still {b g v : Nat} {ds : List UInt8} (c : UInt8) (hb : 0 < b) (h : NumSt b g ds v false) : NumSt b g (ds ++ [c]) 0 false := by
  have h1 := of_decide_eq_false h.fit.symm
  have h4 : ¬ numC b (ds ++ [c]) ≤ g := by
    rw [numC_snoc]
    have := Nat.le_mul_of_pos_right (numC b ds) hb
    omega
  exact ⟨(decide_eq_false h4).symm, (if_neg h4).symm⟩
/-- Where the digits of a base end. -/
theorem digits_all {b : Nat} {l : List UInt8} (h : ∀ c ∈ l, worthC c < b) : digitsC b l = l := by
  have := take_all (s := []) h (.inl rfl)
  rw [List.append_nil] at this
  exact this.1
theorem digits_cut {b : Nat} {q : List UInt8} {x : UInt8} {l : List UInt8} (h : ∀ c ∈ q, worthC c < b) (hx : ¬ worthC x < b) (hp : q ++ [x] <+: l) : digitsC b l = q := by
  obtain ⟨t, rfl⟩ := hp
  rw [List.append_assoc]
  exact (take_all h (.inr ⟨x, t, rfl, hx⟩)).1
theorem rest_drop (b : Nat) (l : List UInt8) : restC b l = l.drop (digitsC b l).length := by
  conv => rhs; rw [(split_digits b l).2]
  have h1 : digitsC b (digitsC b l ++ restC b l) = digitsC b l := by rw [← (split_digits b l).2]
  rw [h1, List.drop_left]
theorem digits_len (b : Nat) (l : List UInt8) : (digitsC b l).length ≤ l.length := by
  have := congrArg List.length (split_digits b l).2
  rw [List.length_append] at this
  omega

/-! ### Suffixes -/
/-- What the program cuts, and whether it has. -/
def cutU (l : List UInt8) : List UInt8 × Bool :=
  if l.head? = some 117 then (l.tail, true) else if l.getLast? = some 117 then (l.dropLast, true) else if l.head? = some 85 then (l.tail, true) else if l.getLast? = some 85 then (l.dropLast, true) else (l, false)
theorem lC_mem {l : List UInt8} (h : lC l = true) : ∀ c ∈ l, c = 108 ∨ c = 76 := by
  simp only [lC, Bool.or_eq_true, beq_iff_eq] at h
  rcases h with (((h | h) | h) | h) | h <;> (rw [h]; decide)
theorem lC_no {l : List UInt8} {c : UInt8} (h : c ∈ l) (h1 : c ≠ 108) (h2 : c ≠ 76) : lC l = false := by
  cases hl : lC l with
  | false => rfl
  | true =>
    rcases lC_mem hl c h with e | e
    · exact absurd e h1
    · exact absurd e h2
theorem uC_not {c : UInt8} (h1 : c ≠ 117) (h2 : c ≠ 85) : uC c = false := by simp [uC, h1, h2]
theorem cutU_suf (l : List UInt8) : lC (cutU l).1 = (sufC l).1 ∧ ((sufC l).1 = true → (cutU l).2 = (sufC l).2) := by
  have hu : uC 117 = true := by decide
  have hU : uC 85 = true := by decide
  unfold cutU sufC
  by_cases h1 : l.head? = some 117
  · rw [if_pos h1, h1]
    simp [hu]
  · rw [if_neg h1]
    by_cases h2 : l.getLast? = some 117
    · rw [if_pos h2]
      by_cases h3 : l.head? = some 85
      · rw [h3]
        simp only [Option.map_some, Option.getD_some, hU, if_true]
        obtain ⟨r, rfl⟩ : ∃ r, l = 85 :: r := by
          cases l with
          | nil => cases h3
          | cons c r => simp at h3; exact ⟨r, by rw [h3]⟩
        cases r with
        | nil => simp at h2
        | cons d r =>
          have e1 : lC ((85 :: d :: r).dropLast) = false := lC_no (c := 85) (by simp) (by decide) (by decide)
          have e2 : lC (d :: r) = false := by
            refine lC_no (c := 117) ?_ (by decide) (by decide)
            have : (d :: r).getLast? = some 117 := by simpa using h2
            exact List.mem_of_getLast? this
          rw [e1, List.tail_cons, e2]
          exact ⟨rfl, fun h => by cases h⟩
      · have h4 : (l.head?.map uC).getD false = false := by
          cases hh : l.head? with
          | none => rfl
          | some c => rw [hh] at h1 h3; exact uC_not (fun e => h1 (by rw [e])) (fun e => h3 (by rw [e]))
        rw [h4, if_neg (by decide), h2]
        simp [hu]
    · rw [if_neg h2]
      by_cases h3 : l.head? = some 85
      · rw [if_pos h3, h3]
        simp [hU]
      · rw [if_neg h3]
        have h4 : (l.head?.map uC).getD false = false := by
          cases hh : l.head? with
          | none => rfl
          | some c => rw [hh] at h1 h3; exact uC_not (fun e => h1 (by rw [e])) (fun e => h3 (by rw [e]))
        by_cases h5 : l.getLast? = some 85
        · rw [if_pos h5, h4, if_neg (show ¬ (false = true) by decide), h5]
          simp [hU]
        · rw [if_neg h5, h4, if_neg (show ¬ (false = true) by decide)]
          have h6 : (l.getLast?.map uC).getD false = false := by
            cases hh : l.getLast? with
            | none => rfl
            | some c => rw [hh] at h2 h5; exact uC_not (fun e => h2 (by rw [e])) (fun e => h5 (by rw [e]))
          rw [h6, if_neg (by decide)]
          simp

/-! ### Capped numbers -/
theorem cap_min (b : Nat) (hb : 0 < b) : ∀ (l : List UInt8) (v : Nat), l.foldl (fun v c => min (v * b + worthC c) 1099511627776) (min v 1099511627776) = min (l.foldl (fun v c => v * b + worthC c) v) 1099511627776
  | [], v => rfl
  | c :: l, v => by
    rw [List.foldl_cons, List.foldl_cons]
    have : min (min v 1099511627776 * b + worthC c) 1099511627776 = min (v * b + worthC c) 1099511627776 := by
      by_cases h : v ≤ 1099511627776
      · rw [Nat.min_eq_left h]
      · rw [Nat.min_eq_right (by omega : 1099511627776 ≤ v)]
        have h1 := Nat.le_mul_of_pos_right 1099511627776 hb
        have h2 := Nat.le_mul_of_pos_right v hb
        rw [Nat.min_eq_right (by omega), Nat.min_eq_right (by omega)]
    rw [this]
    exact cap_min b hb l _
theorem cap_num (b : Nat) (hb : 0 < b) (l : List UInt8) : capC b l = min (numC b l) 1099511627776 := by
  have := cap_min b hb l 0
  rw [Nat.zero_min] at this
  exact this

end Go.Proofs.Ytenmapahigbbeaa
