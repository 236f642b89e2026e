/- The characters of a text, one behind the other: what stands between them; what a token of them spans. -/
import Derived.Test.YtoepfehgimhmnaaTexts
namespace Go.Proofs.Ytoepfehgimhmnaa

/-- The bytes of splices; those and white space. -/
def splB (c : UInt8) : Bool := c == 92 || c == 10 || c == 63 || c == 47
def okB (c : UInt8) : Bool := isWS c || splB c

def okAt (p : UInt8 → Bool) (l : List UInt8) (x y : Nat) : Prop := ∀ k, x ≤ k → k < y → ∀ c, l[k]? = some c → p c = true

theorem okAt_trans {p : UInt8 → Bool} {l : List UInt8} {x y z : Nat} (h1 : okAt p l x y) (h2 : okAt p l y z) : okAt p l x z := fun k hx hz c hc => by
  by_cases h : k < y
  · exact h1 k hx h c hc
  · exact h2 k (by omega) hz c hc
theorem okAt_mono {p q : UInt8 → Bool} {l : List UInt8} {x y : Nat} (hpq : ∀ c, p c = true → q c = true) (h : okAt p l x y) : okAt q l x y := fun k hx hy c hc => hpq c (h k hx hy c hc)

/-- Characters of a text from a place on. -/
def Chain (l : List UInt8) : Nat → List Part → Prop
  | k, [] => okAt splB l k l.length
  | k, c :: r => k ≤ c.at' ∧ okAt splB l k c.at' ∧ 1 ≤ c.n ∧ c.at' + c.n ≤ l.length ∧ (c.n = 1 → l[c.at']? = some c.b) ∧ (isWS c.b = true → c.n = 1) ∧ Chain l (c.at' + c.n) r

theorem chain_weaken {l : List UInt8} {k k' : Nat} {cs : List Part} (hk : k ≤ k') (h1 : okAt splB l k k') (h : Chain l k' cs) : Chain l k cs := by
  cases cs with
  | nil => exact okAt_trans h1 h
  | cons c r => exact ⟨Nat.le_trans hk h.1, okAt_trans h1 h.2.1, h.2.2⟩

theorem third_noWS (c b : UInt8) (h : third c = some b) : isWS b = false := by
  unfold third at h
  repeat' split at h
  all_goals first | (cases h; decide) | cases h

theorem drop_getq (l : List UInt8) (k j : Nat) : (l.drop k)[j]? = l[k + j]? := List.getElem?_drop

/-- The bytes of a splice. -/
theorem splice_bytes {l : List UInt8} {k : Nat} (h : isSplice (l.drop k) = true) : okAt splB l k (k + partN (l.drop k)) := by
  have hn : partN (l.drop k) = charN (l.drop k) + 1 := by unfold partN; rw [if_pos h]
  simp only [isSplice, Bool.and_eq_true, beq_iff_eq] at h
  obtain ⟨hb, hnl⟩ := h
  rw [List.head?_drop] at hnl
  by_cases ht : isTri (l.drop k) = true
  · have hcn : charN (l.drop k) = 3 := by unfold charN; rw [if_pos ht]
    have hcb : charB (l.drop k) = triOf (l.drop k) := by unfold charB; rw [if_pos ht]
    rw [hcn] at hnl hn
    rw [hn]
    -- ? ? / and the end of the line
    have h4 : (l.drop k)[0]? = some 63 ∧ (l.drop k)[1]? = some 63 ∧ (l.drop k)[2]? = some 47 := by
      match hd : l.drop k with
      | [] => rw [hd] at ht; simp [isTri, tri] at ht
      | [_] => rw [hd] at ht; simp [isTri, tri] at ht
      | [_, _] => rw [hd] at ht; simp [isTri, tri] at ht
      | a :: b :: c :: r =>
        rw [hd] at ht hcb hb
        rw [hcb] at hb
        by_cases hab : a = 63 ∧ b = 63
        · have hth : (third c).getD 0 = 92 := by
            have := hb
            simp only [triOf, tri, if_pos hab] at this
            exact this
          have hc : c = 47 := by
            unfold third at hth
            repeat' split at hth
            all_goals first | assumption | (simp at hth)
          simp [hab.1, hab.2, hc]
        · simp [isTri, tri, hab] at ht
    intro j hx hy c hc
    obtain ⟨i, rfl⟩ : ∃ i, j = k + i := ⟨j - k, by omega⟩
    rw [← drop_getq] at hc
    match i, (show i < 4 by omega) with
    | 0, _ => rw [h4.1] at hc; cases hc; decide
    | 1, _ => rw [h4.2.1] at hc; cases hc; decide
    | 2, _ => rw [h4.2.2] at hc; cases hc; decide
    | 3, _ => rw [hnl] at hc; cases hc; decide
  · have ht' : isTri (l.drop k) = false := by simpa using ht
    have hcn : charN (l.drop k) = 1 := by unfold charN; rw [if_neg ht]
    have hcb : charB (l.drop k) = (l.drop k).headD 0 := by unfold charB; rw [if_neg ht]
    rw [hcn] at hnl hn
    rw [hn]
    rw [hcb] at hb
    intro j hx hy c hc
    obtain ⟨i, rfl⟩ : ∃ i, j = k + i := ⟨j - k, by omega⟩
    rw [← drop_getq] at hc
    match i, (show i < 2 by omega) with
    | 0, _ =>
      match hd : l.drop k with
      | [] => rw [hd] at hc; simp at hc
      | a :: r =>
        rw [hd] at hb hc
        simp at hb hc
        rw [← hc, hb]; decide
    | 1, _ => rw [hnl] at hc; cases hc; decide

theorem chain_parts {l : List UInt8} : ∀ (m k : Nat), l.length - k = m → k ≤ l.length → Chain l k (chs (partsFrom l k)) := by
  intro m
  induction m using Nat.strongRecOn with
  | ind m ih =>
    intro k hm hk
    by_cases hlt : k < l.length
    · have hp := partN_pos (l.drop k)
      have hne : l.drop k ≠ [] := fun h => by have := List.drop_eq_nil_iff.1 h; omega
      have hle := partN_le hne
      rw [List.length_drop] at hle
      have hr := ih (l.length - (k + partN (l.drop k))) (by omega) (k + partN (l.drop k)) rfl (by omega)
      rw [partsFrom, dif_pos hlt]
      by_cases hs : isSplice (l.drop k) = true
      · have hc : chs (partAt l k :: partsFrom l (k + partN (l.drop k))) = chs (partsFrom l (k + partN (l.drop k))) := by simp [chs, partAt, hs]
        rw [hc]
        exact chain_weaken (by omega) (splice_bytes hs) hr
      · have hs' : isSplice (l.drop k) = false := by simpa using hs
        have hc : chs (partAt l k :: partsFrom l (k + partN (l.drop k))) = partAt l k :: chs (partsFrom l (k + partN (l.drop k))) := by simp [chs, partAt, hs']
        rw [hc]
        refine ⟨Nat.le_refl _, fun j h1 h2 => by simp only [partAt] at h2; omega, hp, by simp only [partAt]; omega, fun h1 => ?_, fun h1 => ?_, hr⟩
        · simp only [partAt] at h1 ⊢
          have hn : charN (l.drop k) = 1 := by unfold partN at h1; rw [if_neg hs] at h1; exact h1
          have ht : ¬ isTri (l.drop k) = true := fun ht => by unfold charN at hn; rw [if_pos ht] at hn; omega
          have hb : partB (l.drop k) = (l.drop k).headD 0 := by unfold partB charB; rw [if_neg hs, if_neg ht]
          rw [hb]
          have := drop_getq l k 0
          rw [Nat.add_zero] at this
          rw [← this]
          match hd : l.drop k with
          | [] => exact absurd hd hne
          | a :: r => rfl
        · simp only [partAt] at h1 ⊢
          unfold partB at h1
          rw [if_neg hs] at h1
          unfold partN
          rw [if_neg hs]
          unfold charN
          split
          · rename_i ht
            exfalso
            unfold charB at h1
            rw [if_pos ht] at h1
            have : ∃ c b, third c = some b ∧ triOf (l.drop k) = b := by
              match hd : l.drop k with
              | [] => rw [hd] at ht; simp [isTri, tri] at ht
              | [_] => rw [hd] at ht; simp [isTri, tri] at ht
              | [_, _] => rw [hd] at ht; simp [isTri, tri] at ht
              | a :: b :: c :: r =>
                rw [hd] at ht
                by_cases hab : a = 63 ∧ b = 63
                · simp only [isTri, tri, if_pos hab] at ht
                  cases hth : third c with
                  | none => rw [hth] at ht; cases ht
                  | some x => exact ⟨c, x, hth, by simp [triOf, tri, if_pos hab, hth]⟩
                · simp [isTri, tri, hab] at ht
            obtain ⟨c, b, hth, htr⟩ := this
            rw [htr, third_noWS c b hth] at h1
            cases h1
          · rfl
    · rw [partsFrom, dif_neg hlt]
      intro j h1 h2
      omega

end Go.Proofs.Ytoepfehgimhmnaa
