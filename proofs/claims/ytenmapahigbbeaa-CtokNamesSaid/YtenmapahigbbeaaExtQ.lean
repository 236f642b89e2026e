/- A token that holds a quote is a literal that ends in it. -/
import Derived.Test.YtenmapahigbbeaaExt
namespace Go.Proofs.Ytenmapahigbbeaa

def noQ (c : UInt8) : Bool := c != 39 && c != 34
theorem first_quote : ∀ {p p' : List UInt8} {q q' : UInt8} {y y' : List UInt8}, p.all noQ = true → p'.all noQ = true → noQ q = false → noQ q' = false → p ++ q :: y = p' ++ q' :: y' → p = p' ∧ q = q' ∧ y = y'
  | [], [], _, _, _, _, _, _, _, _, h => by
    simp only [List.nil_append, List.cons.injEq] at h
    exact ⟨rfl, h.1, h.2⟩
  | [], c :: p', _, _, _, _, _, h2, h3, _, h => by
    simp only [List.nil_append, List.cons_append, List.cons.injEq] at h
    rw [List.all_cons, ← h.1, h3] at h2
    cases h2
  | c :: p, [], _, _, _, _, h1, _, _, h4, h => by
    simp only [List.nil_append, List.cons_append, List.cons.injEq] at h
    rw [List.all_cons, h.1, h4] at h1
    cases h1
  | c :: p, c' :: p', _, _, _, _, h1, h2, h3, h4, h => by
    simp only [List.cons_append, List.cons.injEq] at h
    rw [List.all_cons, Bool.and_eq_true] at h1 h2
    obtain ⟨e1, e2, e3⟩ := first_quote h1.2 h2.2 h3 h4 h.2
    exact ⟨by rw [h.1, e1], e2, e3⟩

theorem runLen_all {p : UInt8 → Bool} : ∀ {l : List UInt8}, runLen p l = l.length → ∀ c ∈ l, p c = true
  | [], _ => fun c hc => by cases hc
  | d :: l, h => fun c hc => by
    rw [runLen] at h
    by_cases hd : p d = true
    · rw [if_pos hd, List.length_cons] at h
      rcases List.mem_cons.1 hc with rfl | hc
      · exact hd
      · exact runLen_all (by omega) c hc
    · rw [if_neg hd, List.length_cons] at h; omega
def numB (c : UInt8) : Bool := isNum c || isSgn c
theorem exp_num (c : UInt8) (h : isExp c = true) : numB c = true := by
  unfold isExp at h
  simp only [Bool.or_eq_true, beq_iff_eq] at h
  rcases h with ((rfl | rfl) | rfl) | rfl <;> decide
theorem numTail_all : ∀ (m : Nat) {l : List UInt8}, l.length ≤ m → numTail l = l.length → ∀ c ∈ l, numB c = true := by
  intro m
  induction m with
  | zero =>
    intro l hl _ c hc
    have : l = [] := List.length_eq_zero_iff.1 (by omega)
    subst this
    cases hc
  | succ m ih =>
    intro l hl h c hc
    match l, hl, h, hc with
    | [d], _, h, hc =>
      obtain rfl : c = d := by simpa using hc
      rw [numTail] at h
      by_cases hd : isNum c = true
      · unfold numB; rw [hd]; rfl
      · rw [if_neg hd] at h; simp at h
    | d :: e :: l, hl, h, hc =>
      simp only [List.length_cons] at hl h
      rw [numTail_three] at h
      split at h
      · rename_i h1
        rw [Bool.and_eq_true] at h1
        rcases List.mem_cons.1 hc with rfl | hc
        · exact exp_num _ h1.1
        · rcases List.mem_cons.1 hc with rfl | hc
          · unfold numB; rw [h1.2, Bool.or_true]
          · exact ih (by omega) (by omega) c hc
      · split at h
        · rename_i h1 h2
          rcases List.mem_cons.1 hc with rfl | hc
          · unfold numB; rw [h2]; rfl
          · exact ih (l := e :: l) (by simp; omega) (by simp; omega) c hc
        · omega
theorem numStart_cons (d : UInt8) (r : List UInt8) : numStart (d :: r) = if isDig d then 1 else if d == 46 && (match r with | e :: _ => isDig e | [] => false) then 2 else 0 := rfl
theorem numStart_num {l : List UInt8} : ∀ c ∈ l.take (numStart l), numB c = true := by
  intro c hc
  match l, hc with
  | [], hc => simp [numStart] at hc
  | [d], hc =>
    rw [numStart_cons] at hc
    by_cases h1 : isDig d = true
    · rw [if_pos h1] at hc
      obtain rfl : c = d := by simpa using hc
      unfold numB isNum; rw [h1]; rfl
    · rw [if_neg h1, if_neg (by simp)] at hc; cases hc
  | d :: e :: r, hc =>
    rw [numStart_cons] at hc
    by_cases h1 : isDig d = true
    · rw [if_pos h1] at hc
      obtain rfl : c = d := by simpa using hc
      unfold numB isNum; rw [h1]; rfl
    · rw [if_neg h1] at hc
      simp only at hc
      by_cases h2 : (d == 46 && isDig e) = true
      · rw [if_pos h2] at hc
        rw [Bool.and_eq_true] at h2
        rcases (by simpa using hc : c = d ∨ c = e) with rfl | rfl
        · rw [eq_of_beq h2.1]; decide
        · have h3 : isDig c = true := h2.2
          unfold numB isNum; rw [h3]; rfl
      · rw [if_neg h2] at hc; cases hc
theorem numLen_all {l : List UInt8} (h : numLen l = l.length) (h0 : l ≠ []) : ∀ c ∈ l, numB c = true := by
  intro c hc
  have hs := numStart_le l
  unfold numLen at h
  have hl : l.length ≠ 0 := fun e => h0 (List.length_eq_zero_iff.1 e)
  split at h
  · omega
  · rw [← List.take_append_drop (numStart l) l, List.mem_append] at hc
    rcases hc with hc | hc
    · exact numStart_num c hc
    · exact numTail_all _ (Nat.le_refl _) (by rw [List.length_drop]; omega) c hc

theorem fold_mem (l : List UInt8) : ∀ (ks : List Nat) (a : Nat × Nat), (ks.foldl (better l) a).2 = a.2 ∨ ∃ k ∈ ks, measureOf k l = (ks.foldl (better l) a).2
  | [], _ => .inl rfl
  | k :: ks, a => by
    rw [List.foldl_cons]
    rcases fold_mem l ks (better l a k) with h | ⟨k', h1, h2⟩
    · rw [h]
      unfold better
      split
      · exact .inr ⟨k, List.mem_cons_self, rfl⟩
      · exact .inl rfl
    · exact .inr ⟨k', List.mem_cons_of_mem _ h1, h2⟩

theorem quoted_some {q : UInt8} {f : Nat} {l : List UInt8} : ∀ {ps : List (List UInt8)}, quotedLen q f l ps ≠ 0 → ∃ p ∈ ps, ∃ y n, l = p ++ q :: y ∧ bodyLen q y = some n ∧ quotedLen q f l ps = p.length + (n + 2)
  | [], h => absurd rfl h
  | p :: ps, h => by
    rw [quotedLen] at h ⊢
    split at h
    · rename_i h1
      rw [if_pos h1]
      rw [Bool.and_eq_true] at h1
      obtain ⟨t, ht⟩ := List.isPrefixOf_iff_prefix.1 h1.1
      subst ht
      have h2 := h1.2
      rw [List.drop_left] at h2 ⊢
      refine ⟨p, List.mem_cons_self, ?_⟩
      cases t with
      | nil => simp [litLen] at h2
      | cons c y =>
        rw [litLen] at h2 ⊢
        by_cases hc : (c == q) = true
        · rw [if_pos hc] at h2 ⊢
          have := eq_of_beq hc
          subst this
          cases hb : bodyLen c y with
          | none => rw [hb] at h2; simp at h2
          | some n =>
            rw [hb] at h2
            simp only at h2 ⊢
            by_cases hf : n < f
            · rw [if_pos hf] at h2; simp at h2
            · rw [if_neg hf]; exact ⟨y, n, rfl, hb, rfl⟩
        · rw [if_neg hc] at h2; simp at h2
    · rename_i h1
      rw [if_neg h1]
      obtain ⟨p', h2, h3⟩ := quoted_some h
      exact ⟨p', List.mem_cons_of_mem _ h2, h3⟩

theorem pre_noQ : (∀ p ∈ chPre, p.all noQ = true) ∧ (∀ p ∈ stPre, p.all noQ = true) ∧ (∀ p ∈ chPre, ∀ c ∈ p, c ≠ 32 ∧ c ≠ 10) ∧ (∀ p ∈ stPre, ∀ c ∈ p, c ≠ 32 ∧ c ≠ 10) := by decide +kernel
theorem puncts_noQ : ∀ p ∈ puncts, p.all noQ = true := by decide +kernel

end Go.Proofs.Ytenmapahigbbeaa
