/- How long tokens are; the tokens of a text, step by step. -/
import Derived.Test.YtaodjipnffgihaaTok
namespace Go.Proofs.Ytaodjipnffgihaa

theorem runLen_le' (p : UInt8 → Bool) : ∀ l : List UInt8, runLen p l ≤ l.length
  | [] => Nat.le_refl _
  | c :: r => by
    unfold runLen
    have := runLen_le' p r
    split <;> simp <;> omega
theorem wordLen_le (l : List UInt8) : wordLen l ≤ l.length := by
  cases l with
  | nil => exact Nat.le_refl _
  | cons c r =>
    rw [wordLen]
    have := runLen_le' isAln r
    split <;> simp <;> omega
theorem numTail_le' : ∀ l : List UInt8, numTail l ≤ l.length
  | [] => Nat.le_refl _
  | [c] => by simp only [numTail]; split <;> simp
  | c :: d :: r => by
    have h1 := numTail_le' r
    have h2 := numTail_le' (d :: r)
    simp only [numTail]
    simp only [List.length_cons] at *
    split
    · omega
    · split <;> omega
theorem numStart_le (l : List UInt8) : numStart l ≤ l.length := by
  match l with
  | [] => simp [numStart]
  | [c] => simp only [numStart]; split <;> simp
  | c :: d :: r => simp only [numStart]; split <;> (try split) <;> simp
theorem numLen_le' (l : List UInt8) : numLen l ≤ l.length := by
  unfold numLen
  split
  · omega
  · have h := numTail_le' (l.drop (numStart l))
    have := numStart_le l
    rw [List.length_drop] at h
    omega
theorem bodyLen_eq (q c : UInt8) (r : List UInt8) : bodyLen q (c :: r) = if c == q then some 0 else if c == 10 then none else if c == 92 then
      (match r with | [] => none | d :: r' => if d == 10 then none else (bodyLen q r').map (· + 2))
    else (bodyLen q r).map (· + 1) := by
  cases r <;> simp [bodyLen]
theorem bodyLen_lt (q : UInt8) : ∀ (m : Nat) (l : List UInt8), l.length ≤ m → ∀ n, bodyLen q l = some n → n + 1 ≤ l.length := by
  intro m
  induction m with
  | zero => intro l hl n h; rw [List.length_eq_zero_iff.1 (Nat.le_zero.1 hl)] at h; simp [bodyLen] at h
  | succ m ih =>
    intro l hl n h
    cases l with
    | nil => simp [bodyLen] at h
    | cons c r =>
      rw [bodyLen_eq] at h
      simp only [List.length_cons] at hl ⊢
      split at h
      · cases h; omega
      · split at h
        · cases h
        · split at h
          · cases r with
            | nil => cases h
            | cons d r' =>
              simp only at h
              split at h
              · cases h
              · cases hb : bodyLen q r' with
                | none => rw [hb] at h; cases h
                | some k =>
                  rw [hb] at h
                  simp only [List.length_cons] at hl ⊢
                  have := ih r' (by omega) k hb
                  simp only [Option.map_some, Option.some.injEq] at h
                  omega
          · cases hb : bodyLen q r with
            | none => rw [hb] at h; cases h
            | some k =>
              rw [hb] at h
              have := ih r (by omega) k hb
              simp only [Option.map_some, Option.some.injEq] at h
              omega
theorem litLen_le (q : UInt8) (f : Nat) (l : List UInt8) : litLen q f l ≤ l.length := by
  cases l with
  | nil => exact Nat.le_refl _
  | cons c r =>
    rw [litLen]
    split
    · cases hb : bodyLen q r with
      | none => simp
      | some n =>
        have := bodyLen_lt q _ r (Nat.le_refl _) n hb
        simp only [List.length_cons]
        split <;> omega
    · simp
theorem quotedLen_le (q : UInt8) (f : Nat) (l : List UInt8) : ∀ ps : List (List UInt8), quotedLen q f l ps ≤ l.length
  | [] => Nat.zero_le _
  | p :: ps => by
    rw [quotedLen]
    split
    · rename_i h
      rw [Bool.and_eq_true] at h
      have h2 := (List.isPrefixOf_iff_prefix.1 h.1).length_le
      have h3 := litLen_le q f (l.drop p.length)
      rw [List.length_drop] at h3
      omega
    · exact quotedLen_le q f l ps
theorem punctDown_le (l : List UInt8) : ∀ n, punctDown l n ≤ n
  | 0 => Nat.le_refl _
  | n + 1 => by
    rw [punctDown]
    have := punctDown_le l n
    split <;> omega
theorem punctLen_le (l : List UInt8) : punctLen l ≤ l.length := by
  have := punctDown_le l (min l.length 4)
  unfold punctLen
  omega
theorem nlLen_le (l : List UInt8) : nlLen l ≤ l.length := by
  cases l with
  | nil => exact Nat.le_refl _
  | cons c r => rw [nlLen]; split <;> simp
theorem measure_le (k : Nat) (l : List UInt8) : measureOf k l ≤ l.length := by
  unfold measureOf
  split
  · exact wordLen_le l
  · split
    · exact numLen_le' l
    · split
      · exact quotedLen_le _ _ l _
      · split
        · exact quotedLen_le _ _ l _
        · split
          · exact punctLen_le l
          · split
            · exact nlLen_le l
            · exact Nat.zero_le _
theorem fold_le (l : List UInt8) : ∀ (ks : List Nat) (a : Nat × Nat), a.2 ≤ l.length → (ks.foldl (better l) a).2 ≤ l.length
  | [], _, h => h
  | k :: ks, a, h => fold_le l ks _ (by
    unfold better
    split
    · exact measure_le k l
    · exact h)
theorem longest_le {l : List UInt8} (h : l ≠ []) : (longestOf l).2 ≤ l.length := by
  unfold longestOf
  have h1 : 0 < l.length := List.length_pos_iff.2 h
  have h2 := fold_le l [1, 2, 3, 4, 5, 9] (0, 0) (Nat.zero_le _)
  simp only
  split
  · exact h1
  · exact h2
theorem closeN_lt (q : UInt8) : ∀ (l : List UInt8) {n : Nat}, closeN q l = some n → n + 1 ≤ l.length
  | [], _, h => by simp [closeN] at h
  | c :: r, n, h => by
    rw [closeN] at h
    split at h
    · cases h
    · split at h
      · cases h; simp
      · cases hr : closeN q r with
        | none => rw [hr] at h; simp at h
        | some m =>
          rw [hr] at h
          have := closeN_lt q r hr
          simp at h
          simp; omega
theorem headerLen_le (l : List UInt8) : headerLen l ≤ l.length := by
  cases l with
  | nil => exact Nat.le_refl _
  | cons c r =>
    rw [headerLen]
    have h := fun q n (h : closeN q r = some n) => closeN_lt q r h
    simp only [List.length_cons]
    split
    · cases hc : closeN 34 r with
      | none => simp
      | some n => have := h 34 n hc; simp only; omega
    · split
      · cases hc : closeN 62 r with
        | none => simp
        | some n => have := h 62 n hc; simp only; omega
      · omega
theorem closeC_lt : ∀ (l : List UInt8) {n : Nat}, closeC l = some n → n + 2 ≤ l.length
  | [], n, h => by simp [closeC] at h
  | c :: r, n, h => by
    rw [closeC] at h
    split at h
    · rename_i hc
      cases h
      cases r with
      | nil => simp at hc
      | cons d r => simp
    · cases hr : closeC r with
      | none => rw [hr] at h; simp at h
      | some m =>
        rw [hr] at h
        have := closeC_lt r hr
        simp at h
        simp; omega
theorem commentLen_le {l : List UInt8} (h : isComment l = true) : commentLen l ≤ l.length := by
  have h2 : 2 ≤ l.length := by
    rw [isComment, Bool.or_eq_true] at h
    rcases h with h | h <;> exact (List.isPrefixOf_iff_prefix.1 h).length_le
  unfold commentLen
  split
  · have := runLen_le' notNl (l.drop 2)
    rw [List.length_drop] at this
    omega
  · cases hc : closeC (l.drop 2) with
    | none => simp
    | some n =>
      have := closeC_lt _ hc
      rw [List.length_drop] at this
      simp only; omega

/-- A token has at least one byte, and no more than there are. -/
theorem next_len {inc : Bool} {l : List UInt8} (h : l ≠ []) (he : (nextOf inc l).2.2 = 0) : 1 ≤ (nextOf inc l).2.1 ∧ (nextOf inc l).2.1 ≤ l.length := by
  unfold nextOf at he ⊢
  split
  · rename_i h1
    rw [Bool.and_eq_true] at h1
    have := headerLen_le l
    have h2 := h1.2
    simp only [bne_iff_ne, ne_eq] at h2
    exact ⟨by simp only; omega, this⟩
  · rename_i h1
    rw [if_neg h1] at he
    split
    · rename_i h2
      rw [if_pos h2] at he
      split
      · rename_i h3
        rw [if_pos h3] at he
        simp at he
      · exact ⟨by simp only; omega, commentLen_le h2⟩
    · rename_i h2
      rw [if_neg h2] at he
      split
      · rename_i h3
        rw [if_pos h3] at he
        simp at he
      · exact ⟨by simp only; omega, longest_le h⟩

/-! ### The tokens, step by step -/

/-- Where the next token begins behind a place. -/
def atOf (l : List UInt8) (e : Nat) : Nat := e + runLen isWS (l.drop e)
theorem atOf_le {l : List UInt8} {e : Nat} (h : e ≤ l.length) : atOf l e ≤ l.length := by
  unfold atOf
  have := runLen_le' isWS (l.drop e)
  rw [List.length_drop] at this
  omega
theorem atOf_ge (l : List UInt8) (e : Nat) : e ≤ atOf l e := Nat.le_add_right _ _

def nextAt (l : List UInt8) (e st : Nat) : Nat × Nat × Nat := nextOf (st == 2) (l.drop (atOf l e))
/-- The token behind a place, where there is one. -/
def tokAt (l : List UInt8) (e st : Nat) : Tk := ⟨(nextAt l e st).1, atOf l e, atOf l e + (nextAt l e st).2.1, decide (e < atOf l e)⟩
def stAt (l : List UInt8) (e st : Nat) : Nat := lineWith st (nextAt l e st).1 (txt l (tokAt l e st))

theorem toksF_step (f : Nat) (l : List UInt8) (e st : Nat) : toksF (f + 1) l e st = if l.length ≤ atOf l e then ([], 0) else if (nextAt l e st).2.2 ≠ 0 then ([], (nextAt l e st).2.2) else
    (tokAt l e st :: (toksF f l (atOf l e + (nextAt l e st).2.1) (stAt l e st)).1, (toksF f l (atOf l e + (nextAt l e st).2.1) (stAt l e st)).2) := rfl

theorem nextAt_len {l : List UInt8} {e st : Nat} (h : atOf l e < l.length) (he : (nextAt l e st).2.2 = 0) : 1 ≤ (nextAt l e st).2.1 ∧ atOf l e + (nextAt l e st).2.1 ≤ l.length := by
  have hne : l.drop (atOf l e) ≠ [] := fun h2 => by have := List.drop_eq_nil_iff.1 h2; omega
  have := next_len hne he
  rw [List.length_drop] at this
  unfold nextAt
  omega

theorem toksF_fuel (l : List UInt8) : ∀ (f g e st : Nat), l.length + 1 ≤ f + e → l.length + 1 ≤ g + e → e ≤ l.length → toksF f l e st = toksF g l e st := by
  intro f
  induction f with
  | zero => intro g e st h1 _ h3; omega
  | succ f ih =>
    intro g e st h1 h2 h3
    cases g with
    | zero => omega
    | succ g =>
      rw [toksF_step, toksF_step]
      by_cases h4 : l.length ≤ atOf l e
      · rw [if_pos h4, if_pos h4]
      · rw [if_neg h4, if_neg h4]
        by_cases h5 : (nextAt l e st).2.2 ≠ 0
        · rw [if_pos h5, if_pos h5]
        · rw [if_neg h5, if_neg h5]
          have h6 := nextAt_len (by omega) (Classical.byContradiction h5)
          have h7 := atOf_ge l e
          rw [ih g _ _ (by omega) (by omega) h6.2]

/-- The tokens behind a place. -/
def toks (l : List UInt8) (e st : Nat) : List Tk × Nat := toksF (l.length + 1 - e) l e st
theorem toks_end {l : List UInt8} {e st : Nat} (he : e ≤ l.length) (h : l.length ≤ atOf l e) : toks l e st = ([], 0) := by
  unfold toks
  rw [show l.length + 1 - e = (l.length - e) + 1 by omega, toksF_step, if_pos h]
theorem toks_err {l : List UInt8} {e st : Nat} (h : atOf l e < l.length) (h2 : (nextAt l e st).2.2 ≠ 0) : toks l e st = ([], (nextAt l e st).2.2) := by
  have := atOf_ge l e
  unfold toks
  rw [show l.length + 1 - e = (l.length - e) + 1 by omega, toksF_step, if_neg (by omega), if_pos h2]
theorem toks_cons {l : List UInt8} {e st : Nat} (h : atOf l e < l.length) (h2 : (nextAt l e st).2.2 = 0) :
    toks l e st = (tokAt l e st :: (toks l (tokAt l e st).e (stAt l e st)).1, (toks l (tokAt l e st).e (stAt l e st)).2) := by
  have h3 := atOf_ge l e
  have h4 := nextAt_len h h2
  unfold toks
  rw [show l.length + 1 - e = (l.length - e) + 1 by omega, toksF_step, if_neg (by omega), if_neg (by rw [h2]; decide)]
  have h5 : (tokAt l e st).e = atOf l e + (nextAt l e st).2.1 := rfl
  rw [h5, toksF_fuel l (l.length - e) (l.length + 1 - (atOf l e + (nextAt l e st).2.1)) _ _ (by omega) (by omega) h4.2]

theorem lineWith_le {st k : Nat} {t : List UInt8} (h : st ≤ 3) : lineWith st k t ≤ 3 := by
  unfold lineWith
  split
  · exact h
  · split
    · omega
    · split
      · omega
      · split <;> omega
theorem fold_kind (l : List UInt8) : ∀ (ks : List Nat) (a : Nat × Nat), (∀ k ∈ ks, k ≤ 9) → a.1 ≤ 9 → (ks.foldl (better l) a).1 ≤ 9
  | [], _, _, h => h
  | k :: ks, a, hk, h => fold_kind l ks _ (fun j hj => hk j (List.mem_cons_of_mem _ hj)) (by
    unfold better
    split
    · exact hk k List.mem_cons_self
    · exact h)
theorem nextOf_kind (inc : Bool) (l : List UInt8) : (nextOf inc l).1 ≤ 9 := by
  have h2 := fold_kind l [1, 2, 3, 4, 5, 9] (0, 0) (by decide) (Nat.zero_le _)
  have h3 : (longestOf l).1 ≤ 9 := by
    unfold longestOf
    simp only
    split
    · decide
    · exact h2
  unfold nextOf
  split
  · exact (by decide : 7 ≤ 9)
  · split
    · split
      · exact (by decide : 0 ≤ 9)
      · exact (by decide : 8 ≤ 9)
    · split
      · exact (by decide : 0 ≤ 9)
      · exact h3

/-- All tokens lie within the text. -/
theorem toks_within {l : List UInt8} : ∀ (m e st : Nat), l.length - e ≤ m → e ≤ l.length → ∀ t ∈ (toks l e st).1, e ≤ t.a ∧ t.a < t.e ∧ t.e ≤ l.length ∧ t.k ≤ 9 := by
  intro m
  induction m with
  | zero =>
    intro e st hm he t ht
    have := atOf_ge l e
    rw [toks_end he (by omega)] at ht
    simp at ht
  | succ m ih =>
    intro e st hm he t ht
    have hg := atOf_ge l e
    by_cases h1 : l.length ≤ atOf l e
    · rw [toks_end he h1] at ht; simp at ht
    · by_cases h2 : (nextAt l e st).2.2 = 0
      · rw [toks_cons (by omega) h2] at ht
        have h3 := nextAt_len (by omega) h2
        have h5 : (tokAt l e st).e = atOf l e + (nextAt l e st).2.1 := rfl
        rcases List.mem_cons.1 ht with rfl | ht
        · exact ⟨hg, by rw [h5]; show atOf l e < _; omega, by rw [h5]; exact h3.2, nextOf_kind _ _⟩
        · have := ih _ _ (by rw [h5]; omega) (by rw [h5]; exact h3.2) t ht
          rw [h5] at this
          exact ⟨by omega, this.2⟩
      · rw [toks_err (by omega) h2] at ht; simp at ht
theorem toks_err_le {l : List UInt8} : ∀ (m e st : Nat), l.length - e ≤ m → e ≤ l.length → (toks l e st).2 = 0 ∨ (toks l e st).2 = 20 ∨ (toks l e st).2 = 21 := by
  have hn : ∀ inc l', (nextOf inc l').2.2 = 0 ∨ (nextOf inc l').2.2 = 20 ∨ (nextOf inc l').2.2 = 21 := by
    intro inc l'
    unfold nextOf
    split
    · exact .inl rfl
    · split
      · split
        · exact .inr (.inl rfl)
        · exact .inl rfl
      · split
        · exact .inr (.inr rfl)
        · exact .inl rfl
  intro m
  induction m with
  | zero =>
    intro e st hm he
    have := atOf_ge l e
    rw [toks_end he (by omega)]
    exact .inl rfl
  | succ m ih =>
    intro e st hm he
    have hg := atOf_ge l e
    by_cases h1 : l.length ≤ atOf l e
    · rw [toks_end he h1]; exact .inl rfl
    · by_cases h2 : (nextAt l e st).2.2 = 0
      · rw [toks_cons (by omega) h2]
        have h3 := nextAt_len (by omega) h2
        have h5 : (tokAt l e st).e = atOf l e + (nextAt l e st).2.1 := rfl
        exact ih _ _ (by rw [h5]; omega) (by rw [h5]; exact h3.2)
      · rw [toks_err (by omega) h2]
        exact hn _ _

end Go.Proofs.Ytaodjipnffgihaa
