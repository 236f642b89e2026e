/- What a token is does not hang on what stands far behind it. -/
import Derived.Test.YtenmapahigbbeaaTokM
namespace Go.Proofs.Ytenmapahigbbeaa

theorem runLen_take (p : UInt8 → Bool) : ∀ (l : List UInt8) (m : Nat), runLen p (l.take m) = min (runLen p l) m
  | [], m => by simp [runLen]
  | c :: r, 0 => by simp [runLen]
  | c :: r, m + 1 => by
    rw [List.take_succ_cons, runLen, runLen, runLen_take p r m]
    split <;> omega
theorem wordLen_take {l : List UInt8} {m : Nat} (h : wordLen l ≤ m) : wordLen (l.take m) = wordLen l := by
  cases l with
  | nil => simp
  | cons c r =>
    cases m with
    | zero =>
      have : wordLen (c :: r) = 0 := by omega
      rw [this]; rfl
    | succ m =>
      rw [wordLen] at h
      rw [List.take_succ_cons, wordLen, wordLen, runLen_take]
      split
      · rename_i hc
        rw [if_pos hc] at h
        omega
      · rfl
theorem numTail_three (c d : UInt8) (r : List UInt8) : numTail (c :: d :: r) = if isExp c && isSgn d then numTail r + 2 else if isNum c then numTail (d :: r) + 1 else 0 := by
  simp only [numTail]
theorem numTail_take : ∀ (l : List UInt8) (m : Nat), numTail l ≤ m → numTail (l.take m) = numTail l
  | [], m, _ => by simp
  | [c], m, h => by
    cases m with
    | zero =>
      have : numTail [c] = 0 := by omega
      rw [this]; rfl
    | succ m => simp
  | c :: d :: r, m, h => by
    rw [numTail_three] at h ⊢
    by_cases h1 : (isExp c && isSgn d) = true
    · rw [if_pos h1] at h ⊢
      obtain ⟨m', rfl⟩ : ∃ m', m = m' + 2 := ⟨m - 2, by omega⟩
      rw [show m' + 2 = m' + 1 + 1 by omega, List.take_succ_cons, List.take_succ_cons, numTail_three, if_pos h1, numTail_take r m' (by omega)]
    · rw [if_neg h1] at h ⊢
      by_cases h2 : isNum c = true
      · rw [if_pos h2] at h ⊢
        obtain ⟨m', rfl⟩ : ∃ m', m = m' + 1 := ⟨m - 1, by omega⟩
        have ih := numTail_take (d :: r) m' (by omega)
        cases m' with
        | zero =>
          rw [List.take_succ_cons, List.take_zero]
          have : numTail (d :: r) = 0 := by omega
          rw [this]
          simp only [numTail]
          rw [if_pos h2]
        | succ m'' =>
          rw [List.take_succ_cons] at ih
          rw [List.take_succ_cons, List.take_succ_cons, numTail_three, if_neg h1, if_pos h2, ih]
      · rw [if_neg h2] at h ⊢
        match m with
        | 0 => rfl
        | 1 =>
          rw [List.take_succ_cons, List.take_zero]
          simp only [numTail]
          rw [if_neg h2]
        | m + 2 => rw [show m + 2 = m + 1 + 1 by omega, List.take_succ_cons, List.take_succ_cons, numTail_three, if_neg h1, if_neg h2]
theorem numStart_take {l : List UInt8} {m : Nat} (h : numStart l ≤ m) : numStart (l.take m) = numStart l := by
  match l, m with
  | [], m => simp
  | c :: r, 0 =>
    have : numStart (c :: r) = 0 := by omega
    rw [this]; rfl
  | [c], m + 1 => simp
  | c :: d :: r, 1 =>
    rw [List.take_succ_cons, List.take_zero]
    simp only [numStart] at h ⊢
    by_cases hc : isDig c = true
    · rw [if_pos hc, if_pos hc]
    · rw [if_neg hc] at h
      rw [if_neg hc, if_neg hc, if_neg (by simp)]
      by_cases h2 : (c == 46 && isDig d) = true
      · rw [if_pos h2] at h; omega
      · rw [if_neg h2]
  | c :: d :: r, m + 2 => rw [show m + 2 = m + 1 + 1 by omega, List.take_succ_cons, List.take_succ_cons]; simp only [numStart]
theorem numLen_take {l : List UInt8} {m : Nat} (h : numLen l ≤ m) : numLen (l.take m) = numLen l := by
  unfold numLen at h ⊢
  by_cases h0 : numStart l = 0
  · have h1 := numStart_take (l := l) (m := m) (by omega)
    rw [if_pos h0, if_pos (by rw [h1]; exact h0)]
  · rw [if_neg h0] at h
    have h1 := numStart_take (l := l) (m := m) (by omega)
    rw [if_neg h0, if_neg (by rw [h1]; exact h0), h1, List.drop_take, numTail_take _ _ (by omega)]

theorem bodyLen_take (q : UInt8) : ∀ (k : Nat) (l : List UInt8), l.length ≤ k → ∀ (m i : Nat), bodyLen q l = some i → i + 1 ≤ m → bodyLen q (l.take m) = some i := by
  intro k
  induction k with
  | zero => intro l hl m i h; rw [List.length_eq_zero_iff.1 (Nat.le_zero.1 hl)] at h; simp [bodyLen] at h
  | succ k ih =>
    intro l hl m i h hm
    cases l with
    | nil => simp [bodyLen] at h
    | cons c r =>
      simp only [List.length_cons] at hl
      obtain ⟨m', rfl⟩ : ∃ m', m = m' + 1 := ⟨m - 1, by omega⟩
      rw [List.take_succ_cons, bodyLen_eq] 
      rw [bodyLen_eq] at h
      by_cases h1 : (c == q) = true
      · rw [if_pos h1] at h ⊢; exact h
      · rw [if_neg h1] at h ⊢
        by_cases h2 : (c == 10) = true
        · rw [if_pos h2] at h; cases h
        · rw [if_neg h2] at h ⊢
          by_cases h3 : (c == 92) = true
          · rw [if_pos h3] at h ⊢
            cases r with
            | nil => cases h
            | cons d r' =>
              simp only at h
              by_cases h4 : (d == 10) = true
              · rw [if_pos h4] at h; cases h
              · rw [if_neg h4] at h
                cases hb : bodyLen q r' with
                | none => rw [hb] at h; cases h
                | some j =>
                  rw [hb] at h
                  simp only [Option.map_some, Option.some.injEq] at h
                  simp only [List.length_cons] at hl
                  obtain ⟨m'', rfl⟩ : ∃ m'', m' = m'' + 1 := ⟨m' - 1, by omega⟩
                  rw [List.take_succ_cons]
                  simp only
                  rw [if_neg h4, ih r' (by omega) m'' j hb (by omega)]
                  simp only [Option.map_some, Option.some.injEq]
                  exact h
          · rw [if_neg h3] at h ⊢
            cases hb : bodyLen q r with
            | none => rw [hb] at h; cases h
            | some j =>
              rw [hb] at h
              simp only [Option.map_some, Option.some.injEq] at h
              rw [ih r (by omega) m' j hb (by omega)]
              simp only [Option.map_some, Option.some.injEq]
              exact h
theorem bodyLen_untake (q : UInt8) : ∀ (k : Nat) (l : List UInt8), l.length ≤ k → ∀ (m i : Nat), bodyLen q (l.take m) = some i → bodyLen q l = some i := by
  intro k
  induction k with
  | zero => intro l hl m i h; rw [List.length_eq_zero_iff.1 (Nat.le_zero.1 hl)] at h; simp [bodyLen] at h
  | succ k ih =>
    intro l hl m i h
    cases l with
    | nil => simp [bodyLen] at h
    | cons c r =>
      simp only [List.length_cons] at hl
      cases m with
      | zero => simp [bodyLen] at h
      | succ m' =>
        rw [List.take_succ_cons, bodyLen_eq] at h
        rw [bodyLen_eq]
        by_cases h1 : (c == q) = true
        · rw [if_pos h1] at h ⊢; exact h
        · rw [if_neg h1] at h ⊢
          by_cases h2 : (c == 10) = true
          · rw [if_pos h2] at h; cases h
          · rw [if_neg h2] at h ⊢
            by_cases h3 : (c == 92) = true
            · rw [if_pos h3] at h ⊢
              cases r with
              | nil => simp at h
              | cons d r' =>
                cases m' with
                | zero => simp at h
                | succ m'' =>
                  rw [List.take_succ_cons] at h
                  simp only at h ⊢
                  simp only [List.length_cons] at hl
                  by_cases h4 : (d == 10) = true
                  · rw [if_pos h4] at h; cases h
                  · rw [if_neg h4] at h ⊢
                    cases hb : bodyLen q (r'.take m'') with
                    | none => rw [hb] at h; cases h
                    | some j =>
                      rw [hb] at h
                      rw [ih r' (by omega) m'' j hb]
                      exact h
            · rw [if_neg h3] at h ⊢
              cases hb : bodyLen q (r.take m') with
              | none => rw [hb] at h; cases h
              | some j =>
                rw [hb] at h
                rw [ih r (by omega) m' j hb]
                exact h
theorem litLen_take {q : UInt8} {f : Nat} {l : List UInt8} {m : Nat} (h : litLen q f l ≤ m) : litLen q f (l.take m) = litLen q f l := by
  cases l with
  | nil => simp
  | cons c r =>
    cases m with
    | zero =>
      have : litLen q f (c :: r) = 0 := by omega
      rw [this]; rfl
    | succ m =>
      rw [litLen] at h
      rw [List.take_succ_cons, litLen, litLen]
      by_cases hc : (c == q) = true
      · rw [if_pos hc] at h ⊢
        rw [if_pos hc]
        cases hb : bodyLen q r with
        | none =>
          cases hb2 : bodyLen q (r.take m) with
          | none => rfl
          | some j => rw [bodyLen_untake q _ r (Nat.le_refl _) m j hb2] at hb; cases hb
        | some i =>
          rw [hb] at h
          simp only at h ⊢
          by_cases hf : i < f
          · rw [if_pos hf]
            cases hb2 : bodyLen q (r.take m) with
            | none => rfl
            | some j =>
              rw [bodyLen_untake q _ r (Nat.le_refl _) m j hb2] at hb
              cases hb
              simp only
              rw [if_pos hf]
          · rw [if_neg hf] at h ⊢
            rw [bodyLen_take q _ r (Nat.le_refl _) m i hb (by omega)]
            simp only
            rw [if_neg hf]
      · rw [if_neg hc, if_neg hc]
theorem litLen_zero {q : UInt8} {f : Nat} {l : List UInt8} (m : Nat) (h : litLen q f l = 0) : litLen q f (l.take m) = 0 := by
  rw [litLen_take (by omega)]; exact h
theorem isPrefixOf_take {p l : List UInt8} {m : Nat} (h : p.length ≤ m) : p.isPrefixOf (l.take m) = p.isPrefixOf l := by
  rw [Bool.eq_iff_iff, List.isPrefixOf_iff_prefix, List.isPrefixOf_iff_prefix]
  constructor
  · rintro ⟨t, ht⟩
    exact ⟨t ++ l.drop m, by rw [← List.append_assoc, ht, List.take_append_drop]⟩
  · rintro ⟨t, rfl⟩
    refine ⟨t.take (m - p.length), ?_⟩
    rw [List.take_append, List.take_of_length_le h]
theorem isPrefixOf_take_false {p l : List UInt8} (m : Nat) (h : p.isPrefixOf l = false) : p.isPrefixOf (l.take m) = false := by
  cases h2 : p.isPrefixOf (l.take m) with
  | false => rfl
  | true =>
    obtain ⟨t, ht⟩ := List.isPrefixOf_iff_prefix.1 h2
    have : p.isPrefixOf l = true := List.isPrefixOf_iff_prefix.2 ⟨t ++ l.drop m, by rw [← List.append_assoc, ht, List.take_append_drop]⟩
    rw [this] at h; cases h

theorem quotedLen_take {q : UInt8} {f : Nat} {l : List UInt8} {m : Nat} : ∀ (ps : List (List UInt8)), quotedLen q f l ps ≤ m → quotedLen q f (l.take m) ps = quotedLen q f l ps
  | [], _ => rfl
  | p :: ps, h => by
    rw [quotedLen] at h
    rw [quotedLen, quotedLen]
    by_cases h1 : (p.isPrefixOf l && litLen q f (l.drop p.length) != 0) = true
    · rw [if_pos h1] at h
      have h2 := h1
      rw [Bool.and_eq_true] at h2
      have hl : litLen q f ((l.take m).drop p.length) = litLen q f (l.drop p.length) := by
        rw [List.drop_take]; exact litLen_take (by omega)
      rw [if_pos h1, hl, if_pos]
      rw [isPrefixOf_take (by omega)]
      exact h1
    · rw [if_neg h1] at h ⊢
      have hn : ¬ (p.isPrefixOf (l.take m) && litLen q f ((l.take m).drop p.length) != 0) = true := by
        intro h2
        rw [Bool.and_eq_true] at h2
        cases hp : p.isPrefixOf l with
        | false => rw [isPrefixOf_take_false m hp] at h2; cases h2.1
        | true =>
          rw [hp, Bool.true_and] at h1
          have hz : litLen q f (l.drop p.length) = 0 := by simpa using h1
          rw [List.drop_take, litLen_zero _ hz] at h2
          cases h2.2
      rw [if_neg hn]
      exact quotedLen_take ps h
theorem punctDown_take {l : List UInt8} {m : Nat} : ∀ n, n ≤ m → punctDown (l.take m) n = punctDown l n
  | 0, _ => rfl
  | n + 1, h => by
    rw [punctDown, punctDown, List.take_take, Nat.min_eq_left h, punctDown_take n (by omega)]
theorem punctDown_cut {l : List UInt8} : ∀ (n k : Nat), punctDown l n ≤ k → k ≤ n → punctDown l k = punctDown l n
  | 0, k, _, hk => by rw [Nat.le_zero.1 hk]
  | n + 1, k, h, hk => by
    by_cases he : k = n + 1
    · rw [he]
    · rw [punctDown] at h ⊢
      by_cases hp : isPunctB (l.take (n + 1)) = true
      · rw [if_pos hp] at h; omega
      · rw [if_neg hp] at h ⊢
        exact punctDown_cut n k h (by omega)
theorem punctLen_take {l : List UInt8} {m : Nat} (h : punctLen l ≤ m) : punctLen (l.take m) = punctLen l := by
  unfold punctLen at h ⊢
  rw [List.length_take, punctDown_take _ (by omega)]
  by_cases hm : min l.length 4 ≤ m
  · rw [show min (min m l.length) 4 = min l.length 4 by omega]
  · rw [show min (min m l.length) 4 = m by omega]
    exact punctDown_cut _ _ h (by omega)
theorem nlLen_take {l : List UInt8} {m : Nat} (h : nlLen l ≤ m) : nlLen (l.take m) = nlLen l := by
  cases l with
  | nil => simp
  | cons c r =>
    cases m with
    | zero =>
      have : nlLen (c :: r) = 0 := by omega
      rw [this]; rfl
    | succ m => rfl
theorem measure_take {k : Nat} {l : List UInt8} {m : Nat} (h : measureOf k l ≤ m) : measureOf k (l.take m) = measureOf k l := by
  unfold measureOf at h ⊢
  by_cases h1 : k = 1
  · rw [if_pos h1] at h ⊢; rw [if_pos h1]; exact wordLen_take h
  · rw [if_neg h1] at h ⊢; rw [if_neg h1]
    by_cases h2 : k = 2
    · rw [if_pos h2] at h ⊢; rw [if_pos h2]; exact numLen_take h
    · rw [if_neg h2] at h ⊢; rw [if_neg h2]
      by_cases h3 : k = 3
      · rw [if_pos h3] at h ⊢; rw [if_pos h3]; exact quotedLen_take _ h
      · rw [if_neg h3] at h ⊢; rw [if_neg h3]
        by_cases h4 : k = 4
        · rw [if_pos h4] at h ⊢; rw [if_pos h4]; exact quotedLen_take _ h
        · rw [if_neg h4] at h ⊢; rw [if_neg h4]
          by_cases h5 : k = 5
          · rw [if_pos h5] at h ⊢; rw [if_pos h5]; exact punctLen_take h
          · rw [if_neg h5] at h ⊢; rw [if_neg h5]
            by_cases h9 : k = 9
            · rw [if_pos h9] at h ⊢; rw [if_pos h9]; exact nlLen_take h
            · rw [if_neg h9, if_neg h9]

/-! ### The longest token -/

theorem better_ge (l : List UInt8) (a : Nat × Nat) (k : Nat) : a.2 ≤ (better l a k).2 ∧ measureOf k l ≤ (better l a k).2 := by
  unfold better
  split
  · exact ⟨by simp only; omega, Nat.le_refl _⟩
  · exact ⟨Nat.le_refl _, by omega⟩
theorem fold_ge (l : List UInt8) : ∀ (ks : List Nat) (a : Nat × Nat), a.2 ≤ (ks.foldl (better l) a).2 ∧ ∀ k ∈ ks, measureOf k l ≤ (ks.foldl (better l) a).2
  | [], a => ⟨Nat.le_refl _, fun _ h => by cases h⟩
  | k :: ks, a => by
    obtain ⟨h1, h2⟩ := fold_ge l ks (better l a k)
    obtain ⟨h3, h4⟩ := better_ge l a k
    refine ⟨Nat.le_trans h3 h1, fun j hj => ?_⟩
    rcases List.mem_cons.1 hj with rfl | hj
    · exact Nat.le_trans h4 h1
    · exact h2 j hj
theorem fold_congr {l l' : List UInt8} : ∀ (ks : List Nat) (a : Nat × Nat), (∀ k ∈ ks, measureOf k l' = measureOf k l) → ks.foldl (better l') a = ks.foldl (better l) a
  | [], _, _ => rfl
  | k :: ks, a, h => by
    have h1 : better l' a k = better l a k := by unfold better; rw [h k List.mem_cons_self]
    rw [List.foldl_cons, List.foldl_cons, h1]
    exact fold_congr ks _ (fun j hj => h j (List.mem_cons_of_mem _ hj))
def kinds6 : List Nat := [1, 2, 3, 4, 5, 9]
theorem longest_congr {l l' : List UInt8} (h : ∀ k ∈ kinds6, measureOf k l' = measureOf k l) (hh : l'.headD 0 = l.headD 0) : longestOf l' = longestOf l := by
  unfold longestOf
  rw [fold_congr [1, 2, 3, 4, 5, 9] (0, 0) h, hh]
theorem longest_bound {l : List UInt8} {m : Nat} (h : (longestOf l).2 ≤ m) : ∀ k ∈ kinds6, measureOf k l ≤ m := by
  intro k hk
  have h1 := (fold_ge l kinds6 (0, 0)).2 k hk
  unfold longestOf at h
  simp only at h
  split at h
  · rename_i h2
    have h3 : (kinds6.foldl (better l) (0, 0)).2 = 0 := by
      rw [Bool.and_eq_true] at h2
      exact of_decide_eq_true h2.1
    omega
  · have : (kinds6.foldl (better l) (0, 0)).2 ≤ m := h
    omega
theorem headD_take {l : List UInt8} {m : Nat} (hm : 1 ≤ m) : (l.take m).headD 0 = l.headD 0 := by
  obtain ⟨m', rfl⟩ : ∃ m', m = m' + 1 := ⟨m - 1, by omega⟩
  cases l <;> rfl
theorem longest_take {l : List UInt8} {m : Nat} (hm : 1 ≤ m) (h : (longestOf l).2 ≤ m) : longestOf (l.take m) = longestOf l :=
  longest_congr (fun k hk => measure_take (longest_bound h k hk)) (headD_take hm)

theorem closeC_take : ∀ (l : List UInt8) (m i : Nat), closeC l = some i → i + 2 ≤ m → closeC (l.take m) = some i
  | [], m, i, h, _ => by simp [closeC] at h
  | c :: r, m, i, h, hm => by
    obtain ⟨m', rfl⟩ : ∃ m', m = m' + 1 := ⟨m - 1, by omega⟩
    rw [closeC] at h
    rw [List.take_succ_cons, closeC]
    by_cases h1 : (c == 42 && r.head? == some 47) = true
    · rw [if_pos h1] at h
      rw [if_pos]
      · exact h
      · cases h
        obtain ⟨m'', rfl⟩ : ∃ m'', m' = m'' + 1 := ⟨m' - 1, by omega⟩
        cases r with
        | nil => simp at h1
        | cons d r => rw [List.take_succ_cons]; exact h1
    · rw [if_neg h1] at h
      cases hr : closeC r with
      | none => rw [hr] at h; cases h
      | some j =>
        rw [hr] at h
        simp only [Option.map_some, Option.some.injEq] at h
        have ih := closeC_take r m' j hr (by omega)
        rw [if_neg, ih]
        · simp only [Option.map_some, Option.some.injEq]; exact h
        · intro h2
          cases m' with
          | zero => simp at h2
          | succ m'' =>
            cases r with
            | nil => simp at h2
            | cons d r => rw [List.take_succ_cons] at h2; exact h1 h2
theorem isComment_take {l : List UInt8} {m : Nat} (h : isComment l = true) (hm : 2 ≤ m) : isComment (l.take m) = true := by
  unfold isComment at h ⊢
  rw [isPrefixOf_take hm, isPrefixOf_take hm]; exact h
theorem isComment_take_no {l : List UInt8} (m : Nat) (h : isComment l = false) : isComment (l.take m) = false := by
  unfold isComment at h ⊢
  rw [Bool.or_eq_false_iff] at h ⊢
  exact ⟨isPrefixOf_take_false m h.1, isPrefixOf_take_false m h.2⟩
theorem commentLen_take {l : List UInt8} {m : Nat} (h0 : commentLen l ≠ 0) (hm : commentLen l ≤ m) : commentLen (l.take m) = commentLen l ∧ 2 ≤ m := by
  unfold commentLen at h0 hm ⊢
  by_cases h1 : [47, 47].isPrefixOf l = true
  · rw [if_pos h1] at hm ⊢
    rw [isPrefixOf_take (by simp only [List.length_cons, List.length_nil]; omega), if_pos h1, List.drop_take, runLen_take]
    omega
  · rw [if_neg h1] at h0 hm ⊢
    have h1' : [47, 47].isPrefixOf l = false := Bool.eq_false_iff.2 h1
    rw [isPrefixOf_take_false m h1', if_neg (by decide)]
    cases hc : closeC (l.drop 2) with
    | none => rw [hc] at h0; exact absurd rfl h0
    | some n =>
      rw [hc] at hm
      simp only at hm
      rw [List.drop_take, closeC_take _ _ n hc (by omega)]
      exact ⟨rfl, by omega⟩

/-- What a token is, if its text is cut off behind it (a header's name aside). -/
theorem next_take {inc : Bool} {l : List UInt8} {k n m : Nat} (h : nextOf inc l = (k, n, 0)) (hk : k ≠ 7) (hn : 1 ≤ n) (hm : n ≤ m) : nextOf false (l.take m) = (k, n, 0) := by
  unfold nextOf at h
  split at h
  · simp only [Prod.mk.injEq] at h; exact absurd h.1.symm hk
  · unfold nextOf
    rw [if_neg (by simp)]
    split at h
    · rename_i h2
      split at h
      · simp only [Prod.mk.injEq] at h; omega
      · rename_i h3
        simp only [Prod.mk.injEq] at h
        obtain ⟨h4, h5⟩ := commentLen_take h3 (show commentLen l ≤ m by omega)
        rw [if_pos (isComment_take h2 h5), h4, if_neg h3]
        simp only [Prod.mk.injEq]
        exact ⟨h.1, h.2.1, trivial⟩
    · rename_i h2
      have h2' : isComment l = false := by simpa using h2
      split at h
      · simp only [Prod.mk.injEq] at h; omega
      · rename_i h3
        simp only [Prod.mk.injEq] at h
        rw [isComment_take_no m h2', if_neg (by decide), longest_take (by omega) (by omega), if_neg h3]
        simp only [Prod.mk.injEq]
        exact ⟨h.1, h.2.1, trivial⟩

end Go.Proofs.Ytenmapahigbbeaa
