/- The parts of a text and its suffixes (stage 2's seat: without the splices' list); how long what is spelt may be. -/
import Derived.Test.YtoepfehgimhmnaaMath
import Derived.Test.YtoepfehgimhmnaaLogical
namespace Go.Proofs.Ytoepfehgimhmnaa
open Go.RowKit

theorem drop_ne {l : List UInt8} {k : Nat} (hk : k < l.length) : l.drop k ≠ [] := fun h => by
  have := List.drop_eq_nil_iff.1 h; omega

theorem partsFrom_cons {l : List UInt8} {k : Nat} (hk : k < l.length) : partsFrom l k = partAt l k :: partsFrom l (k + partN (l.drop k)) := by
  rw [partsFrom, dif_pos hk]
theorem partsFrom_end {l : List UInt8} {k : Nat} (hk : ¬ k < l.length) : partsFrom l k = [] := by
  rw [partsFrom, dif_neg hk]

theorem chB_cons (p : Part) (ps : List Part) : chB (p :: ps) = (if p.sp then [] else [p.b]) ++ chB ps := by
  cases h : p.sp <;> simp [chB, chs, h]
theorem chB_lg {l : List UInt8} : ∀ (m k : Nat), l.length - k = m → chB (partsFrom l k) = lg (l.drop k) := by
  intro m
  induction m using Nat.strongRecOn with
  | ind m ih =>
    intro k hm
    by_cases hk : k < l.length
    · have hp := partN_pos (l.drop k)
      rw [partsFrom_cons hk, chB_cons, lg_cons (drop_ne hk), List.drop_drop, ih (l.length - (k + partN (l.drop k))) (by omega) _ rfl]
      simp only [partAt, partB]
      by_cases h : isSplice (l.drop k) = true <;> simp [h]
    · rw [partsFrom_end hk, List.drop_eq_nil_of_le (by omega), lg_nil]; rfl

theorem last_wl {l : List UInt8} : ∀ (m k : Nat), l.length - k = m → k < l.length → ∃ p, (partsFrom l k).getLast? = some p ∧ (!p.sp && p.b == 10) = wl (l.drop k) := by
  intro m
  induction m using Nat.strongRecOn with
  | ind m ih =>
    intro k hm hk
    have hp := partN_pos (l.drop k)
    rw [partsFrom_cons hk, wl_cons (drop_ne hk), List.drop_drop]
    by_cases hk2 : k + partN (l.drop k) < l.length
    · obtain ⟨p, h1, h2⟩ := ih (l.length - (k + partN (l.drop k))) (by omega) _ rfl hk2
      refine ⟨p, ?_, ?_⟩
      · rw [List.getLast?_cons, h1]; rfl
      · rw [if_neg (drop_ne hk2)]; exact h2
    · refine ⟨partAt l k, by rw [partsFrom_end hk2]; rfl, ?_⟩
      rw [if_pos (List.drop_eq_nil_of_le (by omega))]
      simp only [partAt, partB]
      by_cases h : isSplice (l.drop k) = true <;> simp [h]

theorem wellB_wl (l : List UInt8) : wellB l = wl l := by
  by_cases h : 0 < l.length
  · obtain ⟨p, h1, h2⟩ := last_wl (l := l) _ 0 rfl h
    unfold wellB parts
    rw [h1]
    exact h2
  · have : l = [] := List.length_eq_zero_iff.1 (by omega)
    subst this
    rw [wl_nil]
    unfold wellB parts
    rw [partsFrom_end (by decide)]; rfl

theorem checkN_ok {l : List UInt8} (h : l.length ≤ 65536) (h2 : wl l = true) : checkN l = 0 := by
  unfold checkN
  rw [if_neg (by omega), wellB_wl, if_pos h2]
theorem checkN_zero {l : List UInt8} (h : checkN l = 0) : l.length ≤ 65536 ∧ wl l = true := by
  unfold checkN at h
  by_cases hl : 65536 < l.length
  · rw [if_pos hl] at h; exact absurd h (by decide)
  · rw [if_neg hl, wellB_wl] at h
    refine ⟨by omega, ?_⟩
    cases hw : wl l with
    | true => rfl
    | false => rw [hw] at h; exact absurd h (by decide)

theorem logicalOf_lg {l : List UInt8} (h : checkN l = 0) : logicalOf l = lg l := by
  rw [logicalOf_ok h, parts, chB_lg _ 0 rfl]; rfl
/-- WHAT IS SPELT, CHECKED AND READ. -/
theorem spell_back {l : List UInt8} (h : (spellOut l).2 = 0) : checkN (spellOut l).1 = 0 ∧ logicalOf (spellOut l).1 = l := by
  unfold spellOut at h ⊢
  by_cases h1 : 65536 < l.length
  · rw [if_pos h1] at h; exact absurd h (by decide)
  · rw [if_neg h1] at h ⊢
    by_cases h2 : endsTen l = false
    · rw [if_pos h2] at h; exact absurd h (by decide)
    · rw [if_neg h2] at h ⊢
      by_cases h3 : 65536 < (spellUpto l l.length).length
      · rw [if_pos h3] at h; exact absurd h (by decide)
      · rw [if_neg h3]
        simp only
        rw [spellUpto_all] at h3 ⊢
        obtain ⟨r1, r2, r3⟩ := spl_reads l
        have hw : wl (spl l) = true := by
          by_cases hl : l = []
          · subst hl; exact wl_nil
          · refine r3 hl ?_
            simp only [endsTen, Bool.not_eq_false, Bool.or_eq_true, beq_iff_eq] at h2
            exact h2.resolve_left hl
        have hc := checkN_ok (by omega) hw
        exact ⟨hc, by rw [logicalOf_lg hc, r1]⟩

/-! ### How long what is spelt is -/

def dark (l : List UInt8) : Nat := (l.filter fun c => !(c == 32)).length
theorem dark_cons (c : UInt8) (l : List UInt8) : dark (c :: l) = (if c == 32 then 0 else 1) + dark l := by
  unfold dark
  by_cases h : (c == 32) = true
  · rw [List.filter_cons_of_neg (by rw [h]; decide), if_pos h, Nat.zero_add]
  · rw [List.filter_cons_of_pos (by rw [Bool.eq_false_iff.2 h]; rfl), if_neg h, List.length_cons]; omega
theorem spl_cons (c : UInt8) (r : List UInt8) : (spl (c :: r)).length = (if misr (c :: r) then 3 else 1) + (spl r).length := by
  rw [spl, List.length_cons]
  split
  · simp only [List.length_cons]; omega
  · omega
theorem misr_nope {c : UInt8} {r : List UInt8} (h1 : c ≠ 92) (h2 : isTri (c :: r) = false) : misr (c :: r) = false := by
  refine Bool.eq_false_iff.2 fun h => ?_
  rcases misr_parts.1 h with h | h
  · exact h1 h.1
  · rw [h2] at h; cases h
theorem isTri_nope {c : UInt8} {r : List UInt8} (h : c ≠ 63) : isTri (c :: r) = false := Bool.eq_false_iff.2 fun h2 => h (isTri_first h2)
theorem tri_three (a b c : UInt8) (r : List UInt8) : tri (a :: b :: c :: r) = if a = 63 ∧ b = 63 then third c else none := rfl
theorem spl_dark : ∀ (m : Nat) (l : List UInt8), l.length ≤ m → (spl l).length ≤ l.length + dark l := by
  intro m
  induction m with
  | zero =>
    intro l hl
    have : l = [] := List.length_eq_zero_iff.1 (by omega)
    subst this
    exact Nat.zero_le _
  | succ m ih =>
    intro l hl
    cases l with
    | nil => exact Nat.zero_le _
    | cons c r =>
      rw [List.length_cons] at hl
      by_cases hm : misr (c :: r) = true
      · rcases misr_parts.1 hm with ⟨rfl, hh⟩ | ht
        · cases r with
          | nil => cases hh
          | cons d r =>
            obtain rfl : d = 10 := Option.some.inj hh
            rw [List.length_cons] at hl
            have := ih r (by omega)
            rw [spl_cons, if_pos hm, spl_cons, misr_nope (by decide) (isTri_nope (by decide)), dark_cons, dark_cons, if_neg (by decide), if_neg (by decide), if_neg (by decide), List.length_cons, List.length_cons]
            omega
        · match r, ht with
          | [], ht => simp [isTri, tri] at ht
          | [_], ht => simp [isTri, tri] at ht
          | b :: d :: r, ht =>
            have h3 : (c = 63 ∧ b = 63) ∧ (third d).isSome = true := by
              have ht : (tri (c :: b :: d :: r)).isSome = true := ht
              rw [tri_three] at ht
              by_cases h4 : c = 63 ∧ b = 63
              · rw [if_pos h4] at ht; exact ⟨h4, ht⟩
              · rw [if_neg h4] at ht; cases ht
            obtain ⟨⟨rfl, rfl⟩, h4⟩ := h3
            have hd : d ≠ 63 := fun e => by subst e; exact absurd h4 (by decide)
            have h5 : isTri (63 :: d :: r) = false := by
              unfold isTri
              cases r with
              | nil => rfl
              | cons e r => rw [tri_three, if_neg (fun h => hd h.2)]; rfl
            simp only [List.length_cons] at hl
            have := ih (d :: r) (by simp only [List.length_cons]; omega)
            rw [spl_cons, if_pos hm, spl_cons, misr_nope (by decide) h5, if_neg (by decide), dark_cons, dark_cons, if_neg (by decide), List.length_cons, List.length_cons]
            omega
      · have := ih r (by omega)
        rw [spl_cons, if_neg hm, dark_cons, List.length_cons]
        omega

/-- When a text can be spelt. -/
theorem spell_fine {l : List UInt8} (h1 : l.length + dark l ≤ 65536) (h2 : endsTen l = true) : (spellOut l).2 = 0 := by
  have h3 := spl_dark _ l (Nat.le_refl _)
  unfold spellOut
  rw [if_neg (by omega), if_neg (by rw [h2]; decide), spellUpto_all, if_neg (by omega)]

end Go.Proofs.Ytoepfehgimhmnaa
