/- What a token is, if other text stands behind it. -/
import Derived.Test.YtenmapahigbbeaaGreatExtM
namespace Go.Proofs.YtenmapahigbbeaaGreat

theorem closeN_app (q : UInt8) : ∀ {y s s' : List UInt8} {n : Nat}, closeN q (y ++ s) = some n → n < y.length → closeN q (y ++ s') = some n
  | [], _, _, _, _, h2 => by simp at h2
  | c :: y, s, s', n, h, h2 => by
    rw [List.cons_append, closeN] at h ⊢
    by_cases h10 : (c == 10) = true
    · rw [if_pos h10] at h; cases h
    · rw [if_neg h10] at h ⊢
      by_cases hq : (c == q) = true
      · rw [if_pos hq] at h ⊢; exact h
      · rw [if_neg hq] at h ⊢
        cases hc : closeN q (y ++ s) with
        | none => rw [hc] at h; cases h
        | some m =>
          rw [hc] at h
          obtain rfl : m + 1 = n := Option.some.inj h
          rw [List.length_cons] at h2
          rw [closeN_app q hc (by omega)]; rfl
theorem header_cons (c : UInt8) (r : List UInt8) : headerLen (c :: r) = if c == 34 then (match closeN 34 r with | some n => n + 2 | none => 0) else if c == 60 then (match closeN 62 r with | some n => n + 2 | none => 0) else 0 := rfl
theorem header_ext {x s : List UInt8} (s' : List UInt8) (hx : x ≠ []) (h : headerLen (x ++ s) = x.length) : headerLen (x ++ s') = x.length := by
  cases x with
  | nil => exact absurd rfl hx
  | cons c y =>
    rw [List.cons_append, header_cons, List.length_cons] at h
    rw [List.cons_append, header_cons, List.length_cons]
    by_cases h1 : (c == 34) = true
    · rw [if_pos h1] at h ⊢
      cases hc : closeN 34 (y ++ s) with
      | none => rw [hc] at h; simp at h
      | some n =>
        rw [hc] at h
        simp only at h
        rw [closeN_app 34 hc (by omega)]; exact h
    · rw [if_neg h1] at h ⊢
      by_cases h2 : (c == 60) = true
      · rw [if_pos h2] at h ⊢
        cases hc : closeN 62 (y ++ s) with
        | none => rw [hc] at h; simp at h
        | some n =>
          rw [hc] at h
          simp only at h
          rw [closeN_app 62 hc (by omega)]; exact h
      · rw [if_neg h2] at h; omega

theorem closeC_cons (c : UInt8) (r : List UInt8) : closeC (c :: r) = if c == 42 && r.head? == some 47 then some 0 else (closeC r).map (· + 1) := rfl
theorem closeC_app : ∀ {l : List UInt8} {n : Nat} (r : List UInt8), closeC l = some n → closeC (l ++ r) = some n
  | [], _, _, h => by cases h
  | c :: l, n, r, h => by
    rw [closeC_cons] at h
    rw [List.cons_append, closeC_cons]
    by_cases h1 : (c == 42 && l.head? == some 47) = true
    · rw [if_pos h1] at h
      have h2 : (c == 42 && (l ++ r).head? == some 47) = true := by
        cases l with
        | nil => simp at h1
        | cons d l => exact h1
      rw [if_pos h2]; exact h
    · rw [if_neg h1] at h
      cases hc : closeC l with
      | none => rw [hc] at h; cases h
      | some m =>
        rw [hc] at h
        have h2 : ¬ (c == 42 && (l ++ r).head? == some 47) = true := by
          cases l with
          | nil => cases hc
          | cons d l => exact h1
        rw [if_neg h2, closeC_app r hc]; exact h

theorem isComment_cons (c d : UInt8) (r : List UInt8) : isComment (c :: d :: r) = (c == 47 && (d == 42 || d == 47)) := by
  unfold isComment
  simp only [List.isPrefixOf]
  by_cases h : c = 47
  · subst h
    by_cases h2 : d = 42
    · subst h2; simp
    · by_cases h3 : d = 47
      · subst h3; simp
      · have e1 : (42 == d) = false := beq_eq_false_iff_ne.2 fun e => h2 e.symm
        have e2 : (47 == d) = false := beq_eq_false_iff_ne.2 fun e => h3 e.symm
        simp [h2, h3, e1, e2]
  · have e1 : (47 == c) = false := beq_eq_false_iff_ne.2 fun e => h e.symm
    simp [h, e1]
theorem isComment_ext {x r : List UInt8} (hr : Stops r) (hx : x ≠ []) : isComment (x ++ r) = isComment x := by
  match x, hx with
  | [c], _ =>
    cases r with
    | nil => rfl
    | cons d s =>
      show isComment (c :: d :: s) = isComment [c]
      rw [isComment_cons]
      have h1 : isComment [c] = false := by unfold isComment; simp [List.isPrefixOf]
      rw [h1]
      rcases hr d s rfl with rfl | rfl <;> simp
  | c :: d :: x, _ =>
    show isComment (c :: d :: (x ++ r)) = _
    rw [isComment_cons, isComment_cons]
theorem runLen_ten {p : UInt8 → Bool} (h10 : p 10 = false) {r : List UInt8} (hr : ∀ c s, r = c :: s → c = 10) : ∀ x : List UInt8, runLen p (x ++ r) = runLen p x
  | [] => by
    cases r with
    | nil => rfl
    | cons c s =>
      have hp : p c = false := by rw [hr c s rfl]; exact h10
      show runLen p (c :: s) = 0
      simp [runLen, hp]
  | c :: x => by
    rw [List.cons_append, runLen, runLen, runLen_ten h10 hr x]
theorem commentLen_ext {x r : List UInt8} (h : isComment x = true) (hl : commentLen x = x.length) (hr : [47, 47].isPrefixOf x = true → ∀ c s, r = c :: s → c = 10) : commentLen (x ++ r) = x.length := by
  match x, h with
  | [], h => cases h
  | [c], h => simp [isComment, List.isPrefixOf] at h
  | c :: d :: x, h =>
    have hp : [47, 47].isPrefixOf (c :: d :: x ++ r) = [47, 47].isPrefixOf (c :: d :: x) := rfl
    have hd : (c :: d :: x ++ r).drop 2 = x ++ r := rfl
    unfold commentLen at hl ⊢
    rw [hp, hd]
    by_cases h1 : [47, 47].isPrefixOf (c :: d :: x) = true
    · rw [if_pos h1] at hl ⊢
      rw [runLen_ten (by decide) (hr h1)]
      exact hl
    · rw [if_neg h1] at hl ⊢
      have hd2 : (c :: d :: x).drop 2 = x := rfl
      rw [hd2] at hl
      cases hc : closeC x with
      | none => rw [hc] at hl; simp at hl
      | some n => rw [hc] at hl; rw [closeC_app r hc]; exact hl

theorem fold_kinds (l : List UInt8) : ∀ (ks : List Nat) (a : Nat × Nat), (∀ k ∈ ks, k ≠ 7) → a.1 ≠ 7 → (ks.foldl (better l) a).1 ≠ 7
  | [], _, _, h => h
  | k :: ks, a, h, ha => by
    rw [List.foldl_cons]
    refine fold_kinds l ks _ (fun k' hk' => h k' (List.mem_cons_of_mem _ hk')) ?_
    unfold better
    split
    · exact h k List.mem_cons_self
    · exact ha
theorem longest_not7 (l : List UInt8) : (longestOf l).1 ≠ 7 := by
  unfold longestOf
  simp only
  split
  · decide
  · exact fold_kinds l _ _ (by decide) (by decide)

/-- A token stays what it is when what follows begins with a blank or a line's end. -/
theorem next_ext {inc : Bool} {x s r : List UInt8} {k : Nat} (hr : Stops r) (hx : x ≠ []) (h : nextOf inc (x ++ s) = (k, x.length, 0))
    (h1 : k = 8 → [47, 47].isPrefixOf x = true → ∀ c t, r = c :: t → c = 10) (h2 : inc = true → k ≠ 7 → headerLen (x ++ r) = 0) : nextOf inc (x ++ r) = (k, x.length, 0) := by
  have hl : 1 ≤ x.length := by
    cases x with
    | nil => exact absurd rfl hx
    | cons c y => simp
  by_cases hk : k = 7
  · subst hk
    unfold nextOf at h ⊢
    by_cases h3 : (inc && headerLen (x ++ s) != 0) = true
    · rw [if_pos h3] at h
      simp only [Prod.mk.injEq] at h
      have h4 := header_ext r hx h.2.1
      rw [Bool.and_eq_true] at h3
      rw [if_pos (by rw [h3.1, h4]; simp; omega), h4]
    · rw [if_neg h3] at h
      split at h
      · split at h <;> simp at h
      · split at h
        · simp at h
        · simp only [Prod.mk.injEq] at h
          exfalso
          have h5 := h.1
          rename_i _ hz
          have := longest_not7 (x ++ s)
          exact this h5
  · have hn := next_take (m := x.length) h hk hl (Nat.le_refl _)
    rw [List.take_left] at hn
    unfold nextOf at hn ⊢
    rw [if_neg (by simp)] at hn
    have h3 : ¬ (inc && headerLen (x ++ r) != 0) = true := by
      intro h4
      rw [Bool.and_eq_true] at h4
      rw [h2 h4.1 hk] at h4
      simp at h4
    rw [if_neg h3, isComment_ext hr hx]
    by_cases hc : isComment x = true
    · rw [if_pos hc] at hn ⊢
      by_cases h0 : commentLen x = 0
      · rw [if_pos h0] at hn; simp at hn
      · rw [if_neg h0] at hn
        simp only [Prod.mk.injEq] at hn
        have h4 := commentLen_ext (r := r) hc hn.2.1 (h1 hn.1.symm)
        rw [h4, if_neg (by omega)]
        rw [← hn.1]
    · rw [if_neg hc] at hn ⊢
      by_cases h0 : (longestOf x).2 = 0
      · rw [if_pos h0] at hn; simp at hn
      · rw [if_neg h0] at hn
        simp only [Prod.mk.injEq] at hn
        have h4 : longestOf x = (k, x.length) := Prod.ext hn.1 hn.2.1
        rw [longest_ext hr hx h4, if_neg (by simp only; omega)]

end Go.Proofs.YtenmapahigbbeaaGreat
