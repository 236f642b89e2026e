/- Several texts laid together. -/


namespace Go.Proofs.Ytaodjipnffgihaa

/-- The byte that the trigraph with this third byte stands for. -/
def third (c : UInt8) : Option UInt8 :=
  if c = 61 then some 35 else if c = 47 then some 92 else if c = 39 then some 94 else if c = 40 then some 91 else if c = 41 then some 93
  else if c = 33 then some 124 else if c = 60 then some 123 else if c = 62 then some 125 else if c = 45 then some 126 else none

def isThird (c : UInt8) : Bool := (third c).isSome
def thirdOf (c : UInt8) : UInt8 := (third c).getD 0

/-- The trigraph with which a list begins. -/
def tri : List UInt8 → Option UInt8
  | a :: b :: c :: _ => if a = 63 ∧ b = 63 then third c else none
  | _ => none

def isTri (l : List UInt8) : Bool := (tri l).isSome
def triOf (l : List UInt8) : UInt8 := (tri l).getD 0

/-- The character with which a list that is not empty begins, as if there were no splices: its byte, its length. -/
def charB (l : List UInt8) : UInt8 := if isTri l then triOf l else l.headD 0
def charN (l : List UInt8) : Nat := if isTri l then 3 else 1

/-- Does a list begin with a splice? -/
def isSplice (l : List UInt8) : Bool := charB l == 92 && (l.drop (charN l)).head? == some 10

def partB (l : List UInt8) : UInt8 := if isSplice l then 0 else charB l
def partN (l : List UInt8) : Nat := if isSplice l then charN l + 1 else charN l

theorem charN_pos (l : List UInt8) : 0 < charN l := by unfold charN; split <;> omega
theorem partN_pos (l : List UInt8) : 0 < partN l := by unfold partN; have := charN_pos l; split <;> omega

theorem isTri_len {l : List UInt8} (h : isTri l = true) : 3 ≤ l.length := by
  match l, h with
  | [], h => simp [isTri, tri] at h
  | [_], h => simp [isTri, tri] at h
  | [_, _], h => simp [isTri, tri] at h
  | _ :: _ :: _ :: _, _ => simp

theorem charN_le {l : List UInt8} (h : l ≠ []) : charN l ≤ l.length := by
  unfold charN
  split
  · rename_i h'; exact isTri_len h'
  · cases l with
    | nil => exact absurd rfl h
    | cons a r => simp

theorem partN_le {l : List UInt8} (h : l ≠ []) : partN l ≤ l.length := by
  unfold partN
  split
  · rename_i h'
    simp only [isSplice, Bool.and_eq_true, beq_iff_eq] at h'
    have h2 := h'.2
    rcases Nat.lt_or_ge (charN l) l.length with h3 | h3
    · exact h3
    · rw [List.drop_eq_nil_of_le h3] at h2; cases h2
  · exact charN_le h

/-- A part of a text: a character, or a splice (of which the byte is 0). -/
structure Part where
  b : UInt8
  at' : Nat
  n : Nat
  sp : Bool
  deriving DecidableEq

/-- The part with which a list begins that stands at a place. -/
def partAt (l : List UInt8) (k : Nat) : Part := ⟨partB (l.drop k), k, partN (l.drop k), isSplice (l.drop k)⟩

/-- The parts of a list, from a place on. -/
def partsFrom (l : List UInt8) (k : Nat) : List Part :=
  if _h : k < l.length then partAt l k :: partsFrom l (k + partN (l.drop k)) else []
termination_by l.length - k
decreasing_by have := partN_pos (l.drop k); omega

def parts (l : List UInt8) : List Part := partsFrom l 0

end Go.Proofs.Ytaodjipnffgihaa

namespace Go.Proofs.Ytaodjipnffgihaa

def isWS (c : UInt8) : Bool := c == 32 || c == 9 || c == 11 || c == 12
def isLet (c : UInt8) : Bool := (97 ≤ c && c ≤ 122) || (65 ≤ c && c ≤ 90) || c == 95
def isDig (c : UInt8) : Bool := 48 ≤ c && c ≤ 57
def isExp (c : UInt8) : Bool := c == 101 || c == 69 || c == 112 || c == 80
def isSgn (c : UInt8) : Bool := c == 43 || c == 45
def isAln (c : UInt8) : Bool := isLet c || isDig c
def isNum (c : UInt8) : Bool := isDig c || isLet c || c == 46

/-- How many bytes at a list's beginning are of a kind. -/
def runLen (p : UInt8 → Bool) : List UInt8 → Nat
  | [] => 0
  | c :: r => if p c then runLen p r + 1 else 0

def wordLen : List UInt8 → Nat
  | [] => 0
  | c :: r => if isLet c then runLen isAln r + 1 else 0

def numTail : List UInt8 → Nat
  | [] => 0
  | [c] => if isNum c then 1 else 0
  | c :: d :: r => if isExp c && isSgn d then numTail r + 2 else if isNum c then numTail (d :: r) + 1 else 0

/-- With how many bytes a number begins: a digit, or a point and a digit. -/
def numStart : List UInt8 → Nat
  | [] => 0
  | c :: r => if isDig c then 1 else if c == 46 && (match r with | d :: _ => isDig d | [] => false) then 2 else 0

def numLen (l : List UInt8) : Nat := if numStart l = 0 then 0 else numStart l + numTail (l.drop (numStart l))

/-- How many bytes of pieces there are ahead of the closing quote. -/
def bodyLen (q : UInt8) : List UInt8 → Option Nat
  | [] => none
  | c :: r => if c == q then some 0 else if c == 10 then none else if c == 92 then
      (match r with | [] => none | d :: r' => if d == 10 then none else (bodyLen q r').map (· + 2))
    else (bodyLen q r).map (· + 1)

/-- A literal without a prefix, with at least so many pieces' bytes. -/
def litLen (q : UInt8) (f : Nat) : List UInt8 → Nat
  | [] => 0
  | c :: r => if c == q then (match bodyLen q r with | some n => if n < f then 0 else n + 2 | none => 0) else 0

def quotedLen (q : UInt8) (f : Nat) (l : List UInt8) : List (List UInt8) → Nat
  | [] => 0
  | p :: ps => if p.isPrefixOf l && litLen q f (l.drop p.length) != 0 then p.length + litLen q f (l.drop p.length) else quotedLen q f l ps

def chPre : List (List UInt8) := [[], [117], [85], [76]]
def stPre : List (List UInt8) := [[], [117, 56], [117], [85], [76]]

def puncts : List (List UInt8) := [[91], [93], [40], [41], [123], [125], [46], [45, 62], [43, 43], [45, 45], [38], [42], [43], [45], [126], [33], [47], [37], [60, 60], [62, 62], [60], [62], [60, 61], [62, 61], [61, 61], [33, 61], [94], [124], [38, 38], [124, 124], [63], [58], [59], [46, 46, 46], [61], [42, 61], [47, 61], [37, 61], [43, 61], [45, 61], [60, 60, 61], [62, 62, 61], [38, 61], [94, 61], [124, 61], [44], [35], [35, 35], [60, 58], [58, 62], [60, 37], [37, 62], [37, 58], [37, 58, 37, 58]]
def isPunctB (l : List UInt8) : Bool := puncts.contains l
def punctDown (l : List UInt8) : Nat → Nat
  | 0 => 0
  | n + 1 => if isPunctB (l.take (n + 1)) then n + 1 else punctDown l n
def punctLen (l : List UInt8) : Nat := punctDown l (min l.length 4)

def nlLen : List UInt8 → Nat
  | [] => 0
  | c :: _ => if c == 10 then 1 else 0

/-- The length of the longest token of a kind. -/
def measureOf (k : Nat) (l : List UInt8) : Nat :=
  if k = 1 then wordLen l else if k = 2 then numLen l else if k = 3 then quotedLen 39 1 l chPre else if k = 4 then quotedLen 34 0 l stPre
  else if k = 5 then punctLen l else if k = 9 then nlLen l else 0

def better (l : List UInt8) (a : Nat × Nat) (k : Nat) : Nat × Nat := if a.2 < measureOf k l then (k, measureOf k l) else a
def isQuote (c : UInt8) : Bool := c == 39 || c == 34

/-- The longest token: its kind and its length; 0, 0: none begins there. -/
def longestOf (l : List UInt8) : Nat × Nat :=
  let a := [1, 2, 3, 4, 5, 9].foldl (better l) (0, 0)
  if a.2 = 0 && !isQuote (l.headD 0) then (6, 1) else a

def closeN (q : UInt8) : List UInt8 → Option Nat
  | [] => none
  | c :: r => if c == 10 then none else if c == q then some 0 else (closeN q r).map (· + 1)
def headerLen : List UInt8 → Nat
  | [] => 0
  | c :: r => if c == 34 then (match closeN 34 r with | some n => n + 2 | none => 0) else if c == 60 then (match closeN 62 r with | some n => n + 2 | none => 0) else 0

def closeC : List UInt8 → Option Nat
  | [] => none
  | c :: r => if c == 42 && r.head? == some 47 then some 0 else (closeC r).map (· + 1)
def notNl (c : UInt8) : Bool := !(c == 10)
/-- The length of the comment that begins a list; 0: it does not end. -/
def commentLen (l : List UInt8) : Nat :=
  if [47, 47].isPrefixOf l then 2 + runLen notNl (l.drop 2) else match closeC (l.drop 2) with | some n => n + 4 | none => 0
def isComment (l : List UInt8) : Bool := [47, 42].isPrefixOf l || [47, 47].isPrefixOf l

/-- The kind and the length of the token with which a list begins, and the error if it is rejected there. -/
def nextOf (inc : Bool) (l : List UInt8) : Nat × Nat × Nat :=
  if inc && headerLen l != 0 then (7, headerLen l, 0)
  else if isComment l then (if commentLen l = 0 then (0, 0, 20) else (8, commentLen l, 0))
  else if (longestOf l).2 = 0 then (0, 0, 21) else ((longestOf l).1, (longestOf l).2, 0)

/-- What the tokens of a line are: 0 there are none, 1 the sign of a directive, 2 that and include, 3 anything else. -/
def lineWith (st : Nat) (k : Nat) (t : List UInt8) : Nat :=
  if k = 8 then st else if k = 9 then 0 else if st = 0 && (t == [35] || t == [37, 58]) then 1
  else if st = 1 && t == [105, 110, 99, 108, 117, 100, 101] then 2 else 3

/-- A token of a logical text: its kind, where it begins and ends, whether white space is ahead of it. -/
structure Tk where
  k : Nat
  a : Nat
  e : Nat
  sp : Bool
  deriving DecidableEq

def txt (l : List UInt8) (t : Tk) : List UInt8 := (l.take t.e).drop t.a

/-- The tokens from a place on, and the error with which the text is rejected (0: none). -/
def toksF : Nat → List UInt8 → Nat → Nat → List Tk × Nat
  | 0, _, _, _ => ([], 0)
  | f + 1, l, e, st =>
    let a := e + runLen isWS (l.drop e)
    if l.length ≤ a then ([], 0) else
    let x := nextOf (st == 2) (l.drop a)
    if x.2.2 ≠ 0 then ([], x.2.2) else
    let t : Tk := ⟨x.1, a, a + x.2.1, decide (e < a)⟩
    let y := toksF f l (a + x.2.1) (lineWith st x.1 (txt l t))
    (t :: y.1, y.2)

end Go.Proofs.Ytaodjipnffgihaa

namespace Go.Proofs.Ytaodjipnffgihaa

theorem runLen_le' (p : UInt8 → Bool) : ∀ l : List UInt8, runLen p l ≤ l.length
  | [] => Nat.le_refl _
  | c :: r => by
    unfold runLen
    have := runLen_le' p r
    split <;> simp <;> omega
theorem wordLen_le (l : List UInt8) : wordLen l ≤ l.length := by
  cases l with
  | nil => exact Nat.le_refl _
  | cons c r =>
    rw [wordLen]
    have := runLen_le' isAln r
    split <;> simp <;> omega
theorem numTail_le' : ∀ l : List UInt8, numTail l ≤ l.length
  | [] => Nat.le_refl _
  | [c] => by simp only [numTail]; split <;> simp
  | c :: d :: r => by
    have h1 := numTail_le' r
    have h2 := numTail_le' (d :: r)
    simp only [numTail]
    simp only [List.length_cons] at *
    split
    · omega
    · split <;> omega
theorem numStart_le (l : List UInt8) : numStart l ≤ l.length := by
  match l with
  | [] => simp [numStart]
  | [c] => simp only [numStart]; split <;> simp
  | c :: d :: r => simp only [numStart]; split <;> (try split) <;> simp
theorem numLen_le' (l : List UInt8) : numLen l ≤ l.length := by
  unfold numLen
  split
  · omega
  · have h := numTail_le' (l.drop (numStart l))
    have := numStart_le l
    rw [List.length_drop] at h
    omega
theorem bodyLen_eq (q c : UInt8) (r : List UInt8) : bodyLen q (c :: r) = if c == q then some 0 else if c == 10 then none else if c == 92 then
      (match r with | [] => none | d :: r' => if d == 10 then none else (bodyLen q r').map (· + 2))
    else (bodyLen q r).map (· + 1) := by
  cases r <;> simp [bodyLen]
theorem bodyLen_lt (q : UInt8) : ∀ (m : Nat) (l : List UInt8), l.length ≤ m → ∀ n, bodyLen q l = some n → n + 1 ≤ l.length := by
  intro m
  induction m with
  | zero => intro l hl n h; rw [List.length_eq_zero_iff.1 (Nat.le_zero.1 hl)] at h; simp [bodyLen] at h
  | succ m ih =>
    intro l hl n h
    cases l with
    | nil => simp [bodyLen] at h
    | cons c r =>
      rw [bodyLen_eq] at h
      simp only [List.length_cons] at hl ⊢
      split at h
      · cases h; omega
      · split at h
        · cases h
        · split at h
          · cases r with
            | nil => cases h
            | cons d r' =>
              simp only at h
              split at h
              · cases h
              · cases hb : bodyLen q r' with
                | none => rw [hb] at h; cases h
                | some k =>
                  rw [hb] at h
                  simp only [List.length_cons] at hl ⊢
                  have := ih r' (by omega) k hb
                  simp only [Option.map_some, Option.some.injEq] at h
                  omega
          · cases hb : bodyLen q r with
            | none => rw [hb] at h; cases h
            | some k =>
              rw [hb] at h
              have := ih r (by omega) k hb
              simp only [Option.map_some, Option.some.injEq] at h
              omega
theorem litLen_le (q : UInt8) (f : Nat) (l : List UInt8) : litLen q f l ≤ l.length := by
  cases l with
  | nil => exact Nat.le_refl _
  | cons c r =>
    rw [litLen]
    split
    · cases hb : bodyLen q r with
      | none => simp
      | some n =>
        have := bodyLen_lt q _ r (Nat.le_refl _) n hb
        simp only [List.length_cons]
        split <;> omega
    · simp
theorem quotedLen_le (q : UInt8) (f : Nat) (l : List UInt8) : ∀ ps : List (List UInt8), quotedLen q f l ps ≤ l.length
  | [] => Nat.zero_le _
  | p :: ps => by
    rw [quotedLen]
    split
    · rename_i h
      rw [Bool.and_eq_true] at h
      have h2 := (List.isPrefixOf_iff_prefix.1 h.1).length_le
      have h3 := litLen_le q f (l.drop p.length)
      rw [List.length_drop] at h3
      omega
    · exact quotedLen_le q f l ps
theorem punctDown_le (l : List UInt8) : ∀ n, punctDown l n ≤ n
  | 0 => Nat.le_refl _
  | n + 1 => by
    rw [punctDown]
    have := punctDown_le l n
    split <;> omega
theorem punctLen_le (l : List UInt8) : punctLen l ≤ l.length := by
  have := punctDown_le l (min l.length 4)
  unfold punctLen
  omega
theorem nlLen_le (l : List UInt8) : nlLen l ≤ l.length := by
  cases l with
  | nil => exact Nat.le_refl _
  | cons c r => rw [nlLen]; split <;> simp
theorem measure_le (k : Nat) (l : List UInt8) : measureOf k l ≤ l.length := by
  unfold measureOf
  split
  · exact wordLen_le l
  · split
    · exact numLen_le' l
    · split
      · exact quotedLen_le _ _ l _
      · split
        · exact quotedLen_le _ _ l _
        · split
          · exact punctLen_le l
          · split
            · exact nlLen_le l
            · exact Nat.zero_le _
theorem fold_le (l : List UInt8) : ∀ (ks : List Nat) (a : Nat × Nat), a.2 ≤ l.length → (ks.foldl (better l) a).2 ≤ l.length
  | [], _, h => h
  | k :: ks, a, h => fold_le l ks _ (by
    unfold better
    split
    · exact measure_le k l
    · exact h)
theorem longest_le {l : List UInt8} (h : l ≠ []) : (longestOf l).2 ≤ l.length := by
  unfold longestOf
  have h1 : 0 < l.length := List.length_pos_iff.2 h
  have h2 := fold_le l [1, 2, 3, 4, 5, 9] (0, 0) (Nat.zero_le _)
  simp only
  split
  · exact h1
  · exact h2
theorem closeN_lt (q : UInt8) : ∀ (l : List UInt8) {n : Nat}, closeN q l = some n → n + 1 ≤ l.length
  | [], _, h => by simp [closeN] at h
  | c :: r, n, h => by
    rw [closeN] at h
    split at h
    · cases h
    · split at h
      · cases h; simp
      · cases hr : closeN q r with
        | none => rw [hr] at h; simp at h
        | some m =>
          rw [hr] at h
          have := closeN_lt q r hr
          simp at h
          simp; omega
theorem headerLen_le (l : List UInt8) : headerLen l ≤ l.length := by
  cases l with
  | nil => exact Nat.le_refl _
  | cons c r =>
    rw [headerLen]
    have h := fun q n (h : closeN q r = some n) => closeN_lt q r h
    simp only [List.length_cons]
    split
    · cases hc : closeN 34 r with
      | none => simp
      | some n => have := h 34 n hc; simp only; omega
    · split
      · cases hc : closeN 62 r with
        | none => simp
        | some n => have := h 62 n hc; simp only; omega
      · omega
theorem closeC_lt : ∀ (l : List UInt8) {n : Nat}, closeC l = some n → n + 2 ≤ l.length
  | [], n, h => by simp [closeC] at h
  | c :: r, n, h => by
    rw [closeC] at h
    split at h
    · rename_i hc
      cases h
      cases r with
      | nil => simp at hc
      | cons d r => simp
    · cases hr : closeC r with
      | none => rw [hr] at h; simp at h
      | some m =>
        rw [hr] at h
        have := closeC_lt r hr
        simp at h
        simp; omega
theorem commentLen_le {l : List UInt8} (h : isComment l = true) : commentLen l ≤ l.length := by
  have h2 : 2 ≤ l.length := by
    rw [isComment, Bool.or_eq_true] at h
    rcases h with h | h <;> exact (List.isPrefixOf_iff_prefix.1 h).length_le
  unfold commentLen
  split
  · have := runLen_le' notNl (l.drop 2)
    rw [List.length_drop] at this
    omega
  · cases hc : closeC (l.drop 2) with
    | none => simp
    | some n =>
      have := closeC_lt _ hc
      rw [List.length_drop] at this
      simp only; omega

/-- A token has at least one byte, and no more than there are. -/
theorem next_len {inc : Bool} {l : List UInt8} (h : l ≠ []) (he : (nextOf inc l).2.2 = 0) : 1 ≤ (nextOf inc l).2.1 ∧ (nextOf inc l).2.1 ≤ l.length := by
  unfold nextOf at he ⊢
  split
  · rename_i h1
    rw [Bool.and_eq_true] at h1
    have := headerLen_le l
    have h2 := h1.2
    simp only [bne_iff_ne, ne_eq] at h2
    exact ⟨by simp only; omega, this⟩
  · rename_i h1
    rw [if_neg h1] at he
    split
    · rename_i h2
      rw [if_pos h2] at he
      split
      · rename_i h3
        rw [if_pos h3] at he
        simp at he
      · exact ⟨by simp only; omega, commentLen_le h2⟩
    · rename_i h2
      rw [if_neg h2] at he
      split
      · rename_i h3
        rw [if_pos h3] at he
        simp at he
      · exact ⟨by simp only; omega, longest_le h⟩

/-! ### The tokens, step by step -/

/-- Where the next token begins behind a place. -/
def atOf (l : List UInt8) (e : Nat) : Nat := e + runLen isWS (l.drop e)
theorem atOf_le {l : List UInt8} {e : Nat} (h : e ≤ l.length) : atOf l e ≤ l.length := by
  unfold atOf
  have := runLen_le' isWS (l.drop e)
  rw [List.length_drop] at this
  omega
theorem atOf_ge (l : List UInt8) (e : Nat) : e ≤ atOf l e := Nat.le_add_right _ _

def nextAt (l : List UInt8) (e st : Nat) : Nat × Nat × Nat := nextOf (st == 2) (l.drop (atOf l e))
/-- The token behind a place, where there is one. -/
def tokAt (l : List UInt8) (e st : Nat) : Tk := ⟨(nextAt l e st).1, atOf l e, atOf l e + (nextAt l e st).2.1, decide (e < atOf l e)⟩
def stAt (l : List UInt8) (e st : Nat) : Nat := lineWith st (nextAt l e st).1 (txt l (tokAt l e st))

theorem toksF_step (f : Nat) (l : List UInt8) (e st : Nat) : toksF (f + 1) l e st = if l.length ≤ atOf l e then ([], 0) else if (nextAt l e st).2.2 ≠ 0 then ([], (nextAt l e st).2.2) else
    (tokAt l e st :: (toksF f l (atOf l e + (nextAt l e st).2.1) (stAt l e st)).1, (toksF f l (atOf l e + (nextAt l e st).2.1) (stAt l e st)).2) := rfl

theorem nextAt_len {l : List UInt8} {e st : Nat} (h : atOf l e < l.length) (he : (nextAt l e st).2.2 = 0) : 1 ≤ (nextAt l e st).2.1 ∧ atOf l e + (nextAt l e st).2.1 ≤ l.length := by
  have hne : l.drop (atOf l e) ≠ [] := fun h2 => by have := List.drop_eq_nil_iff.1 h2; omega
  have := next_len hne he
  rw [List.length_drop] at this
  unfold nextAt
  omega

theorem toksF_fuel (l : List UInt8) : ∀ (f g e st : Nat), l.length + 1 ≤ f + e → l.length + 1 ≤ g + e → e ≤ l.length → toksF f l e st = toksF g l e st := by
  intro f
  induction f with
  | zero => intro g e st h1 _ h3; omega
  | succ f ih =>
    intro g e st h1 h2 h3
    cases g with
    | zero => omega
    | succ g =>
      rw [toksF_step, toksF_step]
      by_cases h4 : l.length ≤ atOf l e
      · rw [if_pos h4, if_pos h4]
      · rw [if_neg h4, if_neg h4]
        by_cases h5 : (nextAt l e st).2.2 ≠ 0
        · rw [if_pos h5, if_pos h5]
        · rw [if_neg h5, if_neg h5]
          have h6 := nextAt_len (by omega) (Classical.byContradiction h5)
          have h7 := atOf_ge l e
          rw [ih g _ _ (by omega) (by omega) h6.2]

/-- The tokens behind a place. -/
def toks (l : List UInt8) (e st : Nat) : List Tk × Nat := toksF (l.length + 1 - e) l e st
theorem toks_end {l : List UInt8} {e st : Nat} (he : e ≤ l.length) (h : l.length ≤ atOf l e) : toks l e st = ([], 0) := by
  unfold toks
  rw [show l.length + 1 - e = (l.length - e) + 1 by omega, toksF_step, if_pos h]
theorem toks_err {l : List UInt8} {e st : Nat} (h : atOf l e < l.length) (h2 : (nextAt l e st).2.2 ≠ 0) : toks l e st = ([], (nextAt l e st).2.2) := by
  have := atOf_ge l e
  unfold toks
  rw [show l.length + 1 - e = (l.length - e) + 1 by omega, toksF_step, if_neg (by omega), if_pos h2]
theorem toks_cons {l : List UInt8} {e st : Nat} (h : atOf l e < l.length) (h2 : (nextAt l e st).2.2 = 0) :
    toks l e st = (tokAt l e st :: (toks l (tokAt l e st).e (stAt l e st)).1, (toks l (tokAt l e st).e (stAt l e st)).2) := by
  have h3 := atOf_ge l e
  have h4 := nextAt_len h h2
  unfold toks
  rw [show l.length + 1 - e = (l.length - e) + 1 by omega, toksF_step, if_neg (by omega), if_neg (by rw [h2]; decide)]
  have h5 : (tokAt l e st).e = atOf l e + (nextAt l e st).2.1 := rfl
  rw [h5, toksF_fuel l (l.length - e) (l.length + 1 - (atOf l e + (nextAt l e st).2.1)) _ _ (by omega) (by omega) h4.2]

theorem lineWith_le {st k : Nat} {t : List UInt8} (h : st ≤ 3) : lineWith st k t ≤ 3 := by
  unfold lineWith
  split
  · exact h
  · split
    · omega
    · split
      · omega
      · split <;> omega
theorem fold_kind (l : List UInt8) : ∀ (ks : List Nat) (a : Nat × Nat), (∀ k ∈ ks, k ≤ 9) → a.1 ≤ 9 → (ks.foldl (better l) a).1 ≤ 9
  | [], _, _, h => h
  | k :: ks, a, hk, h => fold_kind l ks _ (fun j hj => hk j (List.mem_cons_of_mem _ hj)) (by
    unfold better
    split
    · exact hk k List.mem_cons_self
    · exact h)
theorem nextOf_kind (inc : Bool) (l : List UInt8) : (nextOf inc l).1 ≤ 9 := by
  have h2 := fold_kind l [1, 2, 3, 4, 5, 9] (0, 0) (by decide) (Nat.zero_le _)
  have h3 : (longestOf l).1 ≤ 9 := by
    unfold longestOf
    simp only
    split
    · decide
    · exact h2
  unfold nextOf
  split
  · exact (by decide : 7 ≤ 9)
  · split
    · split
      · exact (by decide : 0 ≤ 9)
      · exact (by decide : 8 ≤ 9)
    · split
      · exact (by decide : 0 ≤ 9)
      · exact h3

/-- All tokens lie within the text. -/
theorem toks_within {l : List UInt8} : ∀ (m e st : Nat), l.length - e ≤ m → e ≤ l.length → ∀ t ∈ (toks l e st).1, e ≤ t.a ∧ t.a < t.e ∧ t.e ≤ l.length ∧ t.k ≤ 9 := by
  intro m
  induction m with
  | zero =>
    intro e st hm he t ht
    have := atOf_ge l e
    rw [toks_end he (by omega)] at ht
    simp at ht
  | succ m ih =>
    intro e st hm he t ht
    have hg := atOf_ge l e
    by_cases h1 : l.length ≤ atOf l e
    · rw [toks_end he h1] at ht; simp at ht
    · by_cases h2 : (nextAt l e st).2.2 = 0
      · rw [toks_cons (by omega) h2] at ht
        have h3 := nextAt_len (by omega) h2
        have h5 : (tokAt l e st).e = atOf l e + (nextAt l e st).2.1 := rfl
        rcases List.mem_cons.1 ht with rfl | ht
        · exact ⟨hg, by rw [h5]; show atOf l e < _; omega, by rw [h5]; exact h3.2, nextOf_kind _ _⟩
        · have := ih _ _ (by rw [h5]; omega) (by rw [h5]; exact h3.2) t ht
          rw [h5] at this
          exact ⟨by omega, this.2⟩
      · rw [toks_err (by omega) h2] at ht; simp at ht
theorem toks_err_le {l : List UInt8} : ∀ (m e st : Nat), l.length - e ≤ m → e ≤ l.length → (toks l e st).2 = 0 ∨ (toks l e st).2 = 20 ∨ (toks l e st).2 = 21 := by
  have hn : ∀ inc l', (nextOf inc l').2.2 = 0 ∨ (nextOf inc l').2.2 = 20 ∨ (nextOf inc l').2.2 = 21 := by
    intro inc l'
    unfold nextOf
    split
    · exact .inl rfl
    · split
      · split
        · exact .inr (.inl rfl)
        · exact .inl rfl
      · split
        · exact .inr (.inr rfl)
        · exact .inl rfl
  intro m
  induction m with
  | zero =>
    intro e st hm he
    have := atOf_ge l e
    rw [toks_end he (by omega)]
    exact .inl rfl
  | succ m ih =>
    intro e st hm he
    have hg := atOf_ge l e
    by_cases h1 : l.length ≤ atOf l e
    · rw [toks_end he h1]; exact .inl rfl
    · by_cases h2 : (nextAt l e st).2.2 = 0
      · rw [toks_cons (by omega) h2]
        have h3 := nextAt_len (by omega) h2
        have h5 : (tokAt l e st).e = atOf l e + (nextAt l e st).2.1 := rfl
        exact ih _ _ (by rw [h5]; omega) (by rw [h5]; exact h3.2)
      · rw [toks_err (by omega) h2]
        exact hn _ _

end Go.Proofs.Ytaodjipnffgihaa

namespace Go.Proofs.Ytaodjipnffgihaa

theorem runLen_take (p : UInt8 → Bool) : ∀ (l : List UInt8) (m : Nat), runLen p (l.take m) = min (runLen p l) m
  | [], m => by simp [runLen]
  | c :: r, 0 => by simp [runLen]
  | c :: r, m + 1 => by
    rw [List.take_succ_cons, runLen, runLen, runLen_take p r m]
    split <;> omega
theorem wordLen_take {l : List UInt8} {m : Nat} (h : wordLen l ≤ m) : wordLen (l.take m) = wordLen l := by
  cases l with
  | nil => simp
  | cons c r =>
    cases m with
    | zero =>
      have : wordLen (c :: r) = 0 := by omega
      rw [this]; rfl
    | succ m =>
      rw [wordLen] at h
      rw [List.take_succ_cons, wordLen, wordLen, runLen_take]
      split
      · rename_i hc
        rw [if_pos hc] at h
        omega
      · rfl
theorem numTail_three (c d : UInt8) (r : List UInt8) : numTail (c :: d :: r) = if isExp c && isSgn d then numTail r + 2 else if isNum c then numTail (d :: r) + 1 else 0 := by
  simp only [numTail]
theorem numTail_take : ∀ (l : List UInt8) (m : Nat), numTail l ≤ m → numTail (l.take m) = numTail l
  | [], m, _ => by simp
  | [c], m, h => by
    cases m with
    | zero =>
      have : numTail [c] = 0 := by omega
      rw [this]; rfl
    | succ m => simp
  | c :: d :: r, m, h => by
    rw [numTail_three] at h ⊢
    by_cases h1 : (isExp c && isSgn d) = true
    · rw [if_pos h1] at h ⊢
      obtain ⟨m', rfl⟩ : ∃ m', m = m' + 2 := ⟨m - 2, by omega⟩
      rw [show m' + 2 = m' + 1 + 1 by omega, List.take_succ_cons, List.take_succ_cons, numTail_three, if_pos h1, numTail_take r m' (by omega)]
    · rw [if_neg h1] at h ⊢
      by_cases h2 : isNum c = true
      · rw [if_pos h2] at h ⊢
        obtain ⟨m', rfl⟩ : ∃ m', m = m' + 1 := ⟨m - 1, by omega⟩
        have ih := numTail_take (d :: r) m' (by omega)
        cases m' with
        | zero =>
          rw [List.take_succ_cons, List.take_zero]
          have : numTail (d :: r) = 0 := by omega
          rw [this]
          simp only [numTail]
          rw [if_pos h2]
        | succ m'' =>
          rw [List.take_succ_cons] at ih
          rw [List.take_succ_cons, List.take_succ_cons, numTail_three, if_neg h1, if_pos h2, ih]
      · rw [if_neg h2] at h ⊢
        match m with
        | 0 => rfl
        | 1 =>
          rw [List.take_succ_cons, List.take_zero]
          simp only [numTail]
          rw [if_neg h2]
        | m + 2 => rw [show m + 2 = m + 1 + 1 by omega, List.take_succ_cons, List.take_succ_cons, numTail_three, if_neg h1, if_neg h2]
theorem numStart_take {l : List UInt8} {m : Nat} (h : numStart l ≤ m) : numStart (l.take m) = numStart l := by
  match l, m with
  | [], m => simp
  | c :: r, 0 =>
    have : numStart (c :: r) = 0 := by omega
    rw [this]; rfl
  | [c], m + 1 => simp
  | c :: d :: r, 1 =>
    rw [List.take_succ_cons, List.take_zero]
    simp only [numStart] at h ⊢
    by_cases hc : isDig c = true
    · rw [if_pos hc, if_pos hc]
    · rw [if_neg hc] at h
      rw [if_neg hc, if_neg hc, if_neg (by simp)]
      by_cases h2 : (c == 46 && isDig d) = true
      · rw [if_pos h2] at h; omega
      · rw [if_neg h2]
  | c :: d :: r, m + 2 => rw [show m + 2 = m + 1 + 1 by omega, List.take_succ_cons, List.take_succ_cons]; simp only [numStart]
theorem numLen_take {l : List UInt8} {m : Nat} (h : numLen l ≤ m) : numLen (l.take m) = numLen l := by
  unfold numLen at h ⊢
  by_cases h0 : numStart l = 0
  · have h1 := numStart_take (l := l) (m := m) (by omega)
    rw [if_pos h0, if_pos (by rw [h1]; exact h0)]
  · rw [if_neg h0] at h
    have h1 := numStart_take (l := l) (m := m) (by omega)
    rw [if_neg h0, if_neg (by rw [h1]; exact h0), h1, List.drop_take, numTail_take _ _ (by omega)]

theorem bodyLen_take (q : UInt8) : ∀ (k : Nat) (l : List UInt8), l.length ≤ k → ∀ (m i : Nat), bodyLen q l = some i → i + 1 ≤ m → bodyLen q (l.take m) = some i := by
  intro k
  induction k with
  | zero => intro l hl m i h; rw [List.length_eq_zero_iff.1 (Nat.le_zero.1 hl)] at h; simp [bodyLen] at h
  | succ k ih =>
    intro l hl m i h hm
    cases l with
    | nil => simp [bodyLen] at h
    | cons c r =>
      simp only [List.length_cons] at hl
      obtain ⟨m', rfl⟩ : ∃ m', m = m' + 1 := ⟨m - 1, by omega⟩
      rw [List.take_succ_cons, bodyLen_eq] 
      rw [bodyLen_eq] at h
      by_cases h1 : (c == q) = true
      · rw [if_pos h1] at h ⊢; exact h
      · rw [if_neg h1] at h ⊢
        by_cases h2 : (c == 10) = true
        · rw [if_pos h2] at h; cases h
        · rw [if_neg h2] at h ⊢
          by_cases h3 : (c == 92) = true
          · rw [if_pos h3] at h ⊢
            cases r with
            | nil => cases h
            | cons d r' =>
              simp only at h
              by_cases h4 : (d == 10) = true
              · rw [if_pos h4] at h; cases h
              · rw [if_neg h4] at h
                cases hb : bodyLen q r' with
                | none => rw [hb] at h; cases h
                | some j =>
                  rw [hb] at h
                  simp only [Option.map_some, Option.some.injEq] at h
                  simp only [List.length_cons] at hl
                  obtain ⟨m'', rfl⟩ : ∃ m'', m' = m'' + 1 := ⟨m' - 1, by omega⟩
                  rw [List.take_succ_cons]
                  simp only
                  rw [if_neg h4, ih r' (by omega) m'' j hb (by omega)]
                  simp only [Option.map_some, Option.some.injEq]
                  exact h
          · rw [if_neg h3] at h ⊢
            cases hb : bodyLen q r with
            | none => rw [hb] at h; cases h
            | some j =>
              rw [hb] at h
              simp only [Option.map_some, Option.some.injEq] at h
              rw [ih r (by omega) m' j hb (by omega)]
              simp only [Option.map_some, Option.some.injEq]
              exact h
theorem bodyLen_untake (q : UInt8) : ∀ (k : Nat) (l : List UInt8), l.length ≤ k → ∀ (m i : Nat), bodyLen q (l.take m) = some i → bodyLen q l = some i := by
  intro k
  induction k with
  | zero => intro l hl m i h; rw [List.length_eq_zero_iff.1 (Nat.le_zero.1 hl)] at h; simp [bodyLen] at h
  | succ k ih =>
    intro l hl m i h
    cases l with
    | nil => simp [bodyLen] at h
    | cons c r =>
      simp only [List.length_cons] at hl
      cases m with
      | zero => simp [bodyLen] at h
      | succ m' =>
        rw [List.take_succ_cons, bodyLen_eq] at h
        rw [bodyLen_eq]
        by_cases h1 : (c == q) = true
        · rw [if_pos h1] at h ⊢; exact h
        · rw [if_neg h1] at h ⊢
          by_cases h2 : (c == 10) = true
          · rw [if_pos h2] at h; cases h
          · rw [if_neg h2] at h ⊢
            by_cases h3 : (c == 92) = true
            · rw [if_pos h3] at h ⊢
              cases r with
              | nil => simp at h
              | cons d r' =>
                cases m' with
                | zero => simp at h
                | succ m'' =>
                  rw [List.take_succ_cons] at h
                  simp only at h ⊢
                  simp only [List.length_cons] at hl
                  by_cases h4 : (d == 10) = true
                  · rw [if_pos h4] at h; cases h
                  · rw [if_neg h4] at h ⊢
                    cases hb : bodyLen q (r'.take m'') with
                    | none => rw [hb] at h; cases h
                    | some j =>
                      rw [hb] at h
                      rw [ih r' (by omega) m'' j hb]
                      exact h
            · rw [if_neg h3] at h ⊢
              cases hb : bodyLen q (r.take m') with
              | none => rw [hb] at h; cases h
              | some j =>
                rw [hb] at h
                rw [ih r (by omega) m' j hb]
                exact h
theorem litLen_take {q : UInt8} {f : Nat} {l : List UInt8} {m : Nat} (h : litLen q f l ≤ m) : litLen q f (l.take m) = litLen q f l := by
  cases l with
  | nil => simp
  | cons c r =>
    cases m with
    | zero =>
      have : litLen q f (c :: r) = 0 := by omega
      rw [this]; rfl
    | succ m =>
      rw [litLen] at h
      rw [List.take_succ_cons, litLen, litLen]
      by_cases hc : (c == q) = true
      · rw [if_pos hc] at h ⊢
        rw [if_pos hc]
        cases hb : bodyLen q r with
        | none =>
          cases hb2 : bodyLen q (r.take m) with
          | none => rfl
          | some j => rw [bodyLen_untake q _ r (Nat.le_refl _) m j hb2] at hb; cases hb
        | some i =>
          rw [hb] at h
          simp only at h ⊢
          by_cases hf : i < f
          · rw [if_pos hf]
            cases hb2 : bodyLen q (r.take m) with
            | none => rfl
            | some j =>
              rw [bodyLen_untake q _ r (Nat.le_refl _) m j hb2] at hb
              cases hb
              simp only
              rw [if_pos hf]
          · rw [if_neg hf] at h ⊢
            rw [bodyLen_take q _ r (Nat.le_refl _) m i hb (by omega)]
            simp only
            rw [if_neg hf]
      · rw [if_neg hc, if_neg hc]
theorem litLen_zero {q : UInt8} {f : Nat} {l : List UInt8} (m : Nat) (h : litLen q f l = 0) : litLen q f (l.take m) = 0 := by
  rw [litLen_take (by omega)]; exact h
theorem isPrefixOf_take {p l : List UInt8} {m : Nat} (h : p.length ≤ m) : p.isPrefixOf (l.take m) = p.isPrefixOf l := by
  rw [Bool.eq_iff_iff, List.isPrefixOf_iff_prefix, List.isPrefixOf_iff_prefix]
  constructor
  · rintro ⟨t, ht⟩
    exact ⟨t ++ l.drop m, by rw [← List.append_assoc, ht, List.take_append_drop]⟩
  · rintro ⟨t, rfl⟩
    refine ⟨t.take (m - p.length), ?_⟩
    rw [List.take_append, List.take_of_length_le h]
theorem isPrefixOf_take_false {p l : List UInt8} (m : Nat) (h : p.isPrefixOf l = false) : p.isPrefixOf (l.take m) = false := by
  cases h2 : p.isPrefixOf (l.take m) with
  | false => rfl
  | true =>
    obtain ⟨t, ht⟩ := List.isPrefixOf_iff_prefix.1 h2
    have : p.isPrefixOf l = true := List.isPrefixOf_iff_prefix.2 ⟨t ++ l.drop m, by rw [← List.append_assoc, ht, List.take_append_drop]⟩
    rw [this] at h; cases h

theorem quotedLen_take {q : UInt8} {f : Nat} {l : List UInt8} {m : Nat} : ∀ (ps : List (List UInt8)), quotedLen q f l ps ≤ m → quotedLen q f (l.take m) ps = quotedLen q f l ps
  | [], _ => rfl
  | p :: ps, h => by
    rw [quotedLen] at h
    rw [quotedLen, quotedLen]
    by_cases h1 : (p.isPrefixOf l && litLen q f (l.drop p.length) != 0) = true
    · rw [if_pos h1] at h
      have h2 := h1
      rw [Bool.and_eq_true] at h2
      have hl : litLen q f ((l.take m).drop p.length) = litLen q f (l.drop p.length) := by
        rw [List.drop_take]; exact litLen_take (by omega)
      rw [if_pos h1, hl, if_pos]
      rw [isPrefixOf_take (by omega)]
      exact h1
    · rw [if_neg h1] at h ⊢
      have hn : ¬ (p.isPrefixOf (l.take m) && litLen q f ((l.take m).drop p.length) != 0) = true := by
        intro h2
        rw [Bool.and_eq_true] at h2
        cases hp : p.isPrefixOf l with
        | false => rw [isPrefixOf_take_false m hp] at h2; cases h2.1
        | true =>
          rw [hp, Bool.true_and] at h1
          have hz : litLen q f (l.drop p.length) = 0 := by simpa using h1
          rw [List.drop_take, litLen_zero _ hz] at h2
          cases h2.2
      rw [if_neg hn]
      exact quotedLen_take ps h
theorem punctDown_take {l : List UInt8} {m : Nat} : ∀ n, n ≤ m → punctDown (l.take m) n = punctDown l n
  | 0, _ => rfl
  | n + 1, h => by
    rw [punctDown, punctDown, List.take_take, Nat.min_eq_left h, punctDown_take n (by omega)]
theorem punctDown_cut {l : List UInt8} : ∀ (n k : Nat), punctDown l n ≤ k → k ≤ n → punctDown l k = punctDown l n
  | 0, k, _, hk => by rw [Nat.le_zero.1 hk]
  | n + 1, k, h, hk => by
    by_cases he : k = n + 1
    · rw [he]
    · rw [punctDown] at h ⊢
      by_cases hp : isPunctB (l.take (n + 1)) = true
      · rw [if_pos hp] at h; omega
      · rw [if_neg hp] at h ⊢
        exact punctDown_cut n k h (by omega)
theorem punctLen_take {l : List UInt8} {m : Nat} (h : punctLen l ≤ m) : punctLen (l.take m) = punctLen l := by
  unfold punctLen at h ⊢
  rw [List.length_take, punctDown_take _ (by omega)]
  by_cases hm : min l.length 4 ≤ m
  · rw [show min (min m l.length) 4 = min l.length 4 by omega]
  · rw [show min (min m l.length) 4 = m by omega]
    exact punctDown_cut _ _ h (by omega)
theorem nlLen_take {l : List UInt8} {m : Nat} (h : nlLen l ≤ m) : nlLen (l.take m) = nlLen l := by
  cases l with
  | nil => simp
  | cons c r =>
    cases m with
    | zero =>
      have : nlLen (c :: r) = 0 := by omega
      rw [this]; rfl
    | succ m => rfl
theorem measure_take {k : Nat} {l : List UInt8} {m : Nat} (h : measureOf k l ≤ m) : measureOf k (l.take m) = measureOf k l := by
  unfold measureOf at h ⊢
  by_cases h1 : k = 1
  · rw [if_pos h1] at h ⊢; rw [if_pos h1]; exact wordLen_take h
  · rw [if_neg h1] at h ⊢; rw [if_neg h1]
    by_cases h2 : k = 2
    · rw [if_pos h2] at h ⊢; rw [if_pos h2]; exact numLen_take h
    · rw [if_neg h2] at h ⊢; rw [if_neg h2]
      by_cases h3 : k = 3
      · rw [if_pos h3] at h ⊢; rw [if_pos h3]; exact quotedLen_take _ h
      · rw [if_neg h3] at h ⊢; rw [if_neg h3]
        by_cases h4 : k = 4
        · rw [if_pos h4] at h ⊢; rw [if_pos h4]; exact quotedLen_take _ h
        · rw [if_neg h4] at h ⊢; rw [if_neg h4]
          by_cases h5 : k = 5
          · rw [if_pos h5] at h ⊢; rw [if_pos h5]; exact punctLen_take h
          · rw [if_neg h5] at h ⊢; rw [if_neg h5]
            by_cases h9 : k = 9
            · rw [if_pos h9] at h ⊢; rw [if_pos h9]; exact nlLen_take h
            · rw [if_neg h9, if_neg h9]

/-! ### The longest token -/

theorem better_ge (l : List UInt8) (a : Nat × Nat) (k : Nat) : a.2 ≤ (better l a k).2 ∧ measureOf k l ≤ (better l a k).2 := by
  unfold better
  split
  · exact ⟨by simp only; omega, Nat.le_refl _⟩
  · exact ⟨Nat.le_refl _, by omega⟩
theorem fold_ge (l : List UInt8) : ∀ (ks : List Nat) (a : Nat × Nat), a.2 ≤ (ks.foldl (better l) a).2 ∧ ∀ k ∈ ks, measureOf k l ≤ (ks.foldl (better l) a).2
  | [], a => ⟨Nat.le_refl _, fun _ h => by cases h⟩
  | k :: ks, a => by
    obtain ⟨h1, h2⟩ := fold_ge l ks (better l a k)
    obtain ⟨h3, h4⟩ := better_ge l a k
    refine ⟨Nat.le_trans h3 h1, fun j hj => ?_⟩
    rcases List.mem_cons.1 hj with rfl | hj
    · exact Nat.le_trans h4 h1
    · exact h2 j hj
theorem fold_congr {l l' : List UInt8} : ∀ (ks : List Nat) (a : Nat × Nat), (∀ k ∈ ks, measureOf k l' = measureOf k l) → ks.foldl (better l') a = ks.foldl (better l) a
  | [], _, _ => rfl
  | k :: ks, a, h => by
    have h1 : better l' a k = better l a k := by unfold better; rw [h k List.mem_cons_self]
    rw [List.foldl_cons, List.foldl_cons, h1]
    exact fold_congr ks _ (fun j hj => h j (List.mem_cons_of_mem _ hj))
def kinds6 : List Nat := [1, 2, 3, 4, 5, 9]
theorem longest_congr {l l' : List UInt8} (h : ∀ k ∈ kinds6, measureOf k l' = measureOf k l) (hh : l'.headD 0 = l.headD 0) : longestOf l' = longestOf l := by
  unfold longestOf
  rw [fold_congr [1, 2, 3, 4, 5, 9] (0, 0) h, hh]
theorem longest_bound {l : List UInt8} {m : Nat} (h : (longestOf l).2 ≤ m) : ∀ k ∈ kinds6, measureOf k l ≤ m := by
  intro k hk
  have h1 := (fold_ge l kinds6 (0, 0)).2 k hk
  unfold longestOf at h
  simp only at h
  split at h
  · rename_i h2
    have h3 : (kinds6.foldl (better l) (0, 0)).2 = 0 := by
      rw [Bool.and_eq_true] at h2
      exact of_decide_eq_true h2.1
    omega
  · have : (kinds6.foldl (better l) (0, 0)).2 ≤ m := h
    omega
theorem headD_take {l : List UInt8} {m : Nat} (hm : 1 ≤ m) : (l.take m).headD 0 = l.headD 0 := by
  obtain ⟨m', rfl⟩ : ∃ m', m = m' + 1 := ⟨m - 1, by omega⟩
  cases l <;> rfl
theorem longest_take {l : List UInt8} {m : Nat} (hm : 1 ≤ m) (h : (longestOf l).2 ≤ m) : longestOf (l.take m) = longestOf l :=
  longest_congr (fun k hk => measure_take (longest_bound h k hk)) (headD_take hm)

theorem closeC_take : ∀ (l : List UInt8) (m i : Nat), closeC l = some i → i + 2 ≤ m → closeC (l.take m) = some i
  | [], m, i, h, _ => by simp [closeC] at h
  | c :: r, m, i, h, hm => by
    obtain ⟨m', rfl⟩ : ∃ m', m = m' + 1 := ⟨m - 1, by omega⟩
    rw [closeC] at h
    rw [List.take_succ_cons, closeC]
    by_cases h1 : (c == 42 && r.head? == some 47) = true
    · rw [if_pos h1] at h
      rw [if_pos]
      · exact h
      · cases h
        obtain ⟨m'', rfl⟩ : ∃ m'', m' = m'' + 1 := ⟨m' - 1, by omega⟩
        cases r with
        | nil => simp at h1
        | cons d r => rw [List.take_succ_cons]; exact h1
    · rw [if_neg h1] at h
      cases hr : closeC r with
      | none => rw [hr] at h; cases h
      | some j =>
        rw [hr] at h
        simp only [Option.map_some, Option.some.injEq] at h
        have ih := closeC_take r m' j hr (by omega)
        rw [if_neg, ih]
        · simp only [Option.map_some, Option.some.injEq]; exact h
        · intro h2
          cases m' with
          | zero => simp at h2
          | succ m'' =>
            cases r with
            | nil => simp at h2
            | cons d r => rw [List.take_succ_cons] at h2; exact h1 h2
theorem isComment_take {l : List UInt8} {m : Nat} (h : isComment l = true) (hm : 2 ≤ m) : isComment (l.take m) = true := by
  unfold isComment at h ⊢
  rw [isPrefixOf_take hm, isPrefixOf_take hm]; exact h
theorem isComment_take_no {l : List UInt8} (m : Nat) (h : isComment l = false) : isComment (l.take m) = false := by
  unfold isComment at h ⊢
  rw [Bool.or_eq_false_iff] at h ⊢
  exact ⟨isPrefixOf_take_false m h.1, isPrefixOf_take_false m h.2⟩
theorem commentLen_take {l : List UInt8} {m : Nat} (h0 : commentLen l ≠ 0) (hm : commentLen l ≤ m) : commentLen (l.take m) = commentLen l ∧ 2 ≤ m := by
  unfold commentLen at h0 hm ⊢
  by_cases h1 : [47, 47].isPrefixOf l = true
  · rw [if_pos h1] at hm ⊢
    rw [isPrefixOf_take (by simp only [List.length_cons, List.length_nil]; omega), if_pos h1, List.drop_take, runLen_take]
    omega
  · rw [if_neg h1] at h0 hm ⊢
    have h1' : [47, 47].isPrefixOf l = false := Bool.eq_false_iff.2 h1
    rw [isPrefixOf_take_false m h1', if_neg (by decide)]
    cases hc : closeC (l.drop 2) with
    | none => rw [hc] at h0; exact absurd rfl h0
    | some n =>
      rw [hc] at hm
      simp only at hm
      rw [List.drop_take, closeC_take _ _ n hc (by omega)]
      exact ⟨rfl, by omega⟩

/-- What a token is, if its text is cut off behind it (a header's name aside). -/
theorem next_take {inc : Bool} {l : List UInt8} {k n m : Nat} (h : nextOf inc l = (k, n, 0)) (hk : k ≠ 7) (hn : 1 ≤ n) (hm : n ≤ m) : nextOf false (l.take m) = (k, n, 0) := by
  unfold nextOf at h
  split at h
  · simp only [Prod.mk.injEq] at h; exact absurd h.1.symm hk
  · unfold nextOf
    rw [if_neg (by simp)]
    split at h
    · rename_i h2
      split at h
      · simp only [Prod.mk.injEq] at h; omega
      · rename_i h3
        simp only [Prod.mk.injEq] at h
        obtain ⟨h4, h5⟩ := commentLen_take h3 (show commentLen l ≤ m by omega)
        rw [if_pos (isComment_take h2 h5), h4, if_neg h3]
        simp only [Prod.mk.injEq]
        exact ⟨h.1, h.2.1, trivial⟩
    · rename_i h2
      have h2' : isComment l = false := by simpa using h2
      split at h
      · simp only [Prod.mk.injEq] at h; omega
      · rename_i h3
        simp only [Prod.mk.injEq] at h
        rw [isComment_take_no m h2', if_neg (by decide), longest_take (by omega) (by omega), if_neg h3]
        simp only [Prod.mk.injEq]
        exact ⟨h.1, h.2.1, trivial⟩

end Go.Proofs.Ytaodjipnffgihaa

namespace Go.Proofs.Ytaodjipnffgihaa

/-- What follows is nothing, or begins with a blank or a line's end. -/
def Stops (r : List UInt8) : Prop := ∀ c s, r = c :: s → c = 32 ∨ c = 10

theorem runLen_ext {p : UInt8 → Bool} (h32 : p 32 = false) (h10 : p 10 = false) {r : List UInt8} (hr : Stops r) : ∀ x : List UInt8, runLen p (x ++ r) = runLen p x
  | [] => by
    cases r with
    | nil => rfl
    | cons c s =>
      have hp : p c = false := by rcases hr c s rfl with rfl | rfl <;> assumption
      show runLen p (c :: s) = 0
      simp [runLen, hp]
  | c :: x => by
    rw [List.cons_append, runLen, runLen, runLen_ext h32 h10 hr x]
theorem wordLen_ext {r : List UInt8} (hr : Stops r) (x : List UInt8) (hx : x ≠ []) : wordLen (x ++ r) = wordLen x := by
  cases x with
  | nil => exact absurd rfl hx
  | cons c x =>
    rw [List.cons_append, wordLen, wordLen, runLen_ext (by decide) (by decide) hr]

theorem numTail_stop {r : List UInt8} (hr : Stops r) : numTail r = 0 := by
  match r, hr with
  | [], _ => rfl
  | [c], hr => rcases hr c [] rfl with rfl | rfl <;> rfl
  | c :: d :: s, hr =>
    rw [numTail_three]
    rcases hr c _ rfl with rfl | rfl <;> rfl
theorem numTail_ext {r : List UInt8} (hr : Stops r) : ∀ (m : Nat) (x : List UInt8), x.length ≤ m → numTail (x ++ r) = numTail x := by
  intro m
  induction m with
  | zero =>
    intro x hx
    have : x = [] := List.length_eq_zero_iff.1 (by omega)
    subst this
    exact numTail_stop hr
  | succ m ih =>
    intro x hx
    match x, hx with
    | [], _ => exact numTail_stop hr
    | [c], _ =>
      cases r with
      | nil => rfl
      | cons d s =>
        show numTail (c :: d :: s) = _
        rw [numTail_three, numTail_stop hr]
        have hd : isSgn d = false := by rcases hr d s rfl with rfl | rfl <;> rfl
        rw [hd, Bool.and_false, if_neg (by decide)]
        rfl
    | c :: d :: x, hx =>
      simp only [List.length_cons] at hx
      rw [List.cons_append, List.cons_append, numTail_three, numTail_three, ih x (by omega)]
      have := ih (d :: x) (by simp; omega)
      rw [List.cons_append] at this
      rw [this]
theorem numStart_ext {r : List UInt8} (hr : Stops r) (x : List UInt8) (hx : x ≠ []) : numStart (x ++ r) = numStart x := by
  match x, hx with
  | [c], _ =>
    cases r with
    | nil => rfl
    | cons d s =>
      show numStart (c :: d :: s) = numStart [c]
      have hd : isDig d = false := by rcases hr d s rfl with rfl | rfl <;> rfl
      simp only [numStart, hd]
  | c :: d :: x, _ => rfl
theorem numLen_ext {r : List UInt8} (hr : Stops r) (x : List UInt8) (hx : x ≠ []) : numLen (x ++ r) = numLen x := by
  unfold numLen
  have h := numStart_le x
  rw [numStart_ext hr x hx, List.drop_append_of_le_length h, numTail_ext hr _ _ (Nat.le_refl _)]

theorem puncts_stop : ∀ p ∈ puncts, ∀ c ∈ p, c ≠ 32 ∧ c ≠ 10 := by decide +kernel
theorem punctDown_stop {c : UInt8} {s : List UInt8} (hc : c = 32 ∨ c = 10) (x : List UInt8) : ∀ n, punctDown (x ++ c :: s) n ≤ x.length
  | 0 => Nat.zero_le _
  | n + 1 => by
    rw [punctDown]
    split
    · rename_i hp
      refine Nat.le_of_not_lt (fun h => ?_)
      unfold isPunctB at hp
      have hm := List.contains_iff_mem.1 hp
      have hcm : c ∈ (x ++ c :: s).take (n + 1) := by
        rw [List.take_append, List.mem_append]
        right
        obtain ⟨k, hk⟩ : ∃ k, n + 1 - x.length = k + 1 := ⟨n - x.length, by omega⟩
        rw [hk, List.take_succ_cons]
        exact List.mem_cons_self
      have := puncts_stop _ hm c hcm
      rcases hc with h | h
      · exact this.1 h
      · exact this.2 h
    · exact punctDown_stop hc x n
theorem punctLen_stop {r : List UInt8} (hr : Stops r) (x : List UInt8) : punctLen (x ++ r) ≤ x.length := by
  cases r with
  | nil => rw [List.append_nil]; exact punctLen_le x
  | cons c s => exact punctDown_stop (hr c s rfl) x _
theorem nlLen_stop {r : List UInt8} (x : List UInt8) (hx : x ≠ []) : nlLen (x ++ r) ≤ x.length := by
  cases x with
  | nil => exact absurd rfl hx
  | cons c x => rw [List.cons_append, nlLen]; split <;> simp

/-- Where the body of a literal ends, and it is not in what follows. -/
theorem bodyLen_app (q : UInt8) : ∀ (m : Nat) (l : List UInt8), l.length ≤ m → ∀ (r : List UInt8) (n : Nat), bodyLen q l = some n → bodyLen q (l ++ r) = some n := by
  intro m
  induction m with
  | zero =>
    intro l hl r n h
    have : l = [] := List.length_eq_zero_iff.1 (by omega)
    subst this
    cases h
  | succ m ih =>
    intro l hl r n h
    match l, hl, h with
    | [], _, h => cases h
    | c :: l, hl, h =>
      simp only [List.length_cons] at hl
      rw [List.cons_append, bodyLen_eq]
      rw [bodyLen_eq] at h
      split at h
      · rename_i h1; rw [if_pos h1]; exact h
      · rename_i h1
        rw [if_neg h1]
        split at h
        · cases h
        · rename_i h2
          rw [if_neg h2]
          split at h
          · rename_i h3
            rw [if_pos h3]
            match l, hl, h with
            | [], _, h => cases h
            | d :: l', hl, h =>
              simp only [List.length_cons] at hl
              simp only [List.cons_append] at h ⊢
              split at h
              · cases h
              · rename_i h4
                rw [if_neg h4]
                cases hb : bodyLen q l' with
                | none => rw [hb] at h; cases h
                | some k => rw [hb] at h; rw [ih l' (by omega) r k hb]; exact h
          · rename_i h3
            rw [if_neg h3]
            cases hb : bodyLen q l with
            | none => rw [hb] at h; cases h
            | some k => rw [hb] at h; rw [ih l (by omega) r k hb]; exact h

end Go.Proofs.Ytaodjipnffgihaa

namespace Go.Proofs.Ytaodjipnffgihaa

def noQ (c : UInt8) : Bool := c != 39 && c != 34
theorem first_quote : ∀ {p p' : List UInt8} {q q' : UInt8} {y y' : List UInt8}, p.all noQ = true → p'.all noQ = true → noQ q = false → noQ q' = false → p ++ q :: y = p' ++ q' :: y' → p = p' ∧ q = q' ∧ y = y'
  | [], [], _, _, _, _, _, _, _, _, h => by
    simp only [List.nil_append, List.cons.injEq] at h
    exact ⟨rfl, h.1, h.2⟩
  | [], c :: p', _, _, _, _, _, h2, h3, _, h => by
    simp only [List.nil_append, List.cons_append, List.cons.injEq] at h
    rw [List.all_cons, ← h.1, h3] at h2
    cases h2
  | c :: p, [], _, _, _, _, h1, _, _, h4, h => by
    simp only [List.nil_append, List.cons_append, List.cons.injEq] at h
    rw [List.all_cons, h.1, h4] at h1
    cases h1
  | c :: p, c' :: p', _, _, _, _, h1, h2, h3, h4, h => by
    simp only [List.cons_append, List.cons.injEq] at h
    rw [List.all_cons, Bool.and_eq_true] at h1 h2
    obtain ⟨e1, e2, e3⟩ := first_quote h1.2 h2.2 h3 h4 h.2
    exact ⟨by rw [h.1, e1], e2, e3⟩

theorem runLen_all {p : UInt8 → Bool} : ∀ {l : List UInt8}, runLen p l = l.length → ∀ c ∈ l, p c = true
  | [], _ => fun c hc => by cases hc
  | d :: l, h => fun c hc => by
    rw [runLen] at h
    by_cases hd : p d = true
    · rw [if_pos hd, List.length_cons] at h
      rcases List.mem_cons.1 hc with rfl | hc
      · exact hd
      · exact runLen_all (by omega) c hc
    · rw [if_neg hd, List.length_cons] at h; omega
def numB (c : UInt8) : Bool := isNum c || isSgn c
theorem exp_num (c : UInt8) (h : isExp c = true) : numB c = true := by
  unfold isExp at h
  simp only [Bool.or_eq_true, beq_iff_eq] at h
  rcases h with ((rfl | rfl) | rfl) | rfl <;> decide
theorem numTail_all : ∀ (m : Nat) {l : List UInt8}, l.length ≤ m → numTail l = l.length → ∀ c ∈ l, numB c = true := by
  intro m
  induction m with
  | zero =>
    intro l hl _ c hc
    have : l = [] := List.length_eq_zero_iff.1 (by omega)
    subst this
    cases hc
  | succ m ih =>
    intro l hl h c hc
    match l, hl, h, hc with
    | [d], _, h, hc =>
      obtain rfl : c = d := by simpa using hc
      rw [numTail] at h
      by_cases hd : isNum c = true
      · unfold numB; rw [hd]; rfl
      · rw [if_neg hd] at h; simp at h
    | d :: e :: l, hl, h, hc =>
      simp only [List.length_cons] at hl h
      rw [numTail_three] at h
      split at h
      · rename_i h1
        rw [Bool.and_eq_true] at h1
        rcases List.mem_cons.1 hc with rfl | hc
        · exact exp_num _ h1.1
        · rcases List.mem_cons.1 hc with rfl | hc
          · unfold numB; rw [h1.2, Bool.or_true]
          · exact ih (by omega) (by omega) c hc
      · split at h
        · rename_i h1 h2
          rcases List.mem_cons.1 hc with rfl | hc
          · unfold numB; rw [h2]; rfl
          · exact ih (l := e :: l) (by simp; omega) (by simp; omega) c hc
        · omega
theorem numStart_cons (d : UInt8) (r : List UInt8) : numStart (d :: r) = if isDig d then 1 else if d == 46 && (match r with | e :: _ => isDig e | [] => false) then 2 else 0 := rfl
theorem numStart_num {l : List UInt8} : ∀ c ∈ l.take (numStart l), numB c = true := by
  intro c hc
  match l, hc with
  | [], hc => simp [numStart] at hc
  | [d], hc =>
    rw [numStart_cons] at hc
    by_cases h1 : isDig d = true
    · rw [if_pos h1] at hc
      obtain rfl : c = d := by simpa using hc
      unfold numB isNum; rw [h1]; rfl
    · rw [if_neg h1, if_neg (by simp)] at hc; cases hc
  | d :: e :: r, hc =>
    rw [numStart_cons] at hc
    by_cases h1 : isDig d = true
    · rw [if_pos h1] at hc
      obtain rfl : c = d := by simpa using hc
      unfold numB isNum; rw [h1]; rfl
    · rw [if_neg h1] at hc
      simp only at hc
      by_cases h2 : (d == 46 && isDig e) = true
      · rw [if_pos h2] at hc
        rw [Bool.and_eq_true] at h2
        rcases (by simpa using hc : c = d ∨ c = e) with rfl | rfl
        · rw [eq_of_beq h2.1]; decide
        · have h3 : isDig c = true := h2.2
          unfold numB isNum; rw [h3]; rfl
      · rw [if_neg h2] at hc; cases hc
theorem numLen_all {l : List UInt8} (h : numLen l = l.length) (h0 : l ≠ []) : ∀ c ∈ l, numB c = true := by
  intro c hc
  have hs := numStart_le l
  unfold numLen at h
  have hl : l.length ≠ 0 := fun e => h0 (List.length_eq_zero_iff.1 e)
  split at h
  · omega
  · rw [← List.take_append_drop (numStart l) l, List.mem_append] at hc
    rcases hc with hc | hc
    · exact numStart_num c hc
    · exact numTail_all _ (Nat.le_refl _) (by rw [List.length_drop]; omega) c hc

theorem fold_mem (l : List UInt8) : ∀ (ks : List Nat) (a : Nat × Nat), (ks.foldl (better l) a).2 = a.2 ∨ ∃ k ∈ ks, measureOf k l = (ks.foldl (better l) a).2
  | [], _ => .inl rfl
  | k :: ks, a => by
    rw [List.foldl_cons]
    rcases fold_mem l ks (better l a k) with h | ⟨k', h1, h2⟩
    · rw [h]
      unfold better
      split
      · exact .inr ⟨k, List.mem_cons_self, rfl⟩
      · exact .inl rfl
    · exact .inr ⟨k', List.mem_cons_of_mem _ h1, h2⟩

theorem quoted_some {q : UInt8} {f : Nat} {l : List UInt8} : ∀ {ps : List (List UInt8)}, quotedLen q f l ps ≠ 0 → ∃ p ∈ ps, ∃ y n, l = p ++ q :: y ∧ bodyLen q y = some n ∧ quotedLen q f l ps = p.length + (n + 2)
  | [], h => absurd rfl h
  | p :: ps, h => by
    rw [quotedLen] at h ⊢
    split at h
    · rename_i h1
      rw [if_pos h1]
      rw [Bool.and_eq_true] at h1
      obtain ⟨t, ht⟩ := List.isPrefixOf_iff_prefix.1 h1.1
      subst ht
      have h2 := h1.2
      rw [List.drop_left] at h2 ⊢
      refine ⟨p, List.mem_cons_self, ?_⟩
      cases t with
      | nil => simp [litLen] at h2
      | cons c y =>
        rw [litLen] at h2 ⊢
        by_cases hc : (c == q) = true
        · rw [if_pos hc] at h2 ⊢
          have := eq_of_beq hc
          subst this
          cases hb : bodyLen c y with
          | none => rw [hb] at h2; simp at h2
          | some n =>
            rw [hb] at h2
            simp only at h2 ⊢
            by_cases hf : n < f
            · rw [if_pos hf] at h2; simp at h2
            · rw [if_neg hf]; exact ⟨y, n, rfl, hb, rfl⟩
        · rw [if_neg hc] at h2; simp at h2
    · rename_i h1
      rw [if_neg h1]
      obtain ⟨p', h2, h3⟩ := quoted_some h
      exact ⟨p', List.mem_cons_of_mem _ h2, h3⟩

theorem pre_noQ : (∀ p ∈ chPre, p.all noQ = true) ∧ (∀ p ∈ stPre, p.all noQ = true) ∧ (∀ p ∈ chPre, ∀ c ∈ p, c ≠ 32 ∧ c ≠ 10) ∧ (∀ p ∈ stPre, ∀ c ∈ p, c ≠ 32 ∧ c ≠ 10) := by decide +kernel
theorem puncts_noQ : ∀ p ∈ puncts, p.all noQ = true := by decide +kernel

end Go.Proofs.Ytaodjipnffgihaa

namespace Go.Proofs.Ytaodjipnffgihaa

/-- A token that is a prefix, a quote and more: the literal ends in it. -/
theorem quote_closed {x p y : List UInt8} {q : UInt8} {k : Nat} (h : longestOf x = (k, x.length)) (hx : x = p ++ q :: y) (hp : p.all noQ = true) (hq : q = 39 ∨ q = 34) : ∃ n, bodyLen q y = some n := by
  have hqn : noQ q = false := by rcases hq with rfl | rfl <;> rfl
  have hmem : q ∈ x := by rw [hx]; simp
  have hlen : x.length = p.length + (y.length + 1) := by rw [hx]; simp
  have hxne : x ≠ [] := by rw [hx]; simp
  unfold longestOf at h
  simp only at h
  split at h
  · rename_i h1
    exfalso
    simp only [Prod.mk.injEq] at h
    have hp0 : p = [] := List.length_eq_zero_iff.1 (by omega)
    subst hp0
    rw [hx] at h1
    have : isQuote q = true := by rcases hq with rfl | rfl <;> rfl
    simp [this] at h1
  · have h2 : (([1, 2, 3, 4, 5, 9] : List Nat).foldl (better x) (0, 0)).2 = x.length := congrArg Prod.snd h
    rcases fold_mem x [1, 2, 3, 4, 5, 9] (0, 0) with h3 | ⟨m, hm, h3⟩
    · rw [h2] at h3; simp only at h3; omega
    · rw [h2] at h3
      simp only [List.mem_cons, List.not_mem_nil, or_false] at hm
      rcases hm with rfl | rfl | rfl | rfl | rfl | rfl
      · exfalso
        have h4 : wordLen x = x.length := h3
        cases x with
        | nil => exact hxne rfl
        | cons c r =>
          rw [wordLen] at h4
          by_cases hc : isLet c = true
          · rw [if_pos hc, List.length_cons] at h4
            have hr := runLen_all (p := isAln) (l := r) (by omega)
            rcases List.mem_cons.1 hmem with rfl | hm
            · rcases hq with rfl | rfl <;> exact absurd hc (by decide)
            · have := hr q hm
              rcases hq with rfl | rfl <;> exact absurd this (by decide)
          · rw [if_neg hc, List.length_cons] at h4; omega
      · exfalso
        have h4 : numLen x = x.length := h3
        have := numLen_all h4 hxne q hmem
        rcases hq with rfl | rfl <;> exact absurd this (by decide)
      · have h4 : quotedLen 39 1 x chPre = x.length := h3
        obtain ⟨p', hp', y', n, e1, e2, _⟩ := quoted_some (q := 39) (f := 1) (l := x) (ps := chPre) (by omega)
        obtain ⟨_, e3, e4⟩ := first_quote hp (pre_noQ.1 p' hp') hqn (by decide) (hx.symm.trans e1)
        rw [e3, e4]; exact ⟨n, e2⟩
      · have h4 : quotedLen 34 0 x stPre = x.length := h3
        obtain ⟨p', hp', y', n, e1, e2, _⟩ := quoted_some (q := 34) (f := 0) (l := x) (ps := stPre) (by omega)
        obtain ⟨_, e3, e4⟩ := first_quote hp (pre_noQ.2.1 p' hp') hqn (by decide) (hx.symm.trans e1)
        rw [e3, e4]; exact ⟨n, e2⟩
      · exfalso
        have h4 : punctLen x = x.length := h3
        have h5 : ∀ n, punctDown x n = 0 ∨ isPunctB (x.take (punctDown x n)) = true := by
          intro n
          induction n with
          | zero => exact .inl rfl
          | succ n ih =>
            rw [punctDown]
            by_cases hp : isPunctB (x.take (n + 1)) = true
            · rw [if_pos hp]; exact .inr hp
            · rw [if_neg hp]; exact ih
        rcases h5 (min x.length 4) with h6 | h6
        · have : punctLen x = 0 := h6
          omega
        · have e : punctDown x (min x.length 4) = x.length := h4
          rw [e, List.take_length] at h6
          unfold isPunctB at h6
          have := List.all_eq_true.1 (puncts_noQ _ (List.contains_iff_mem.1 h6)) q hmem
          rw [hqn] at this; cases this
      · exfalso
        have h4 : nlLen x = x.length := h3
        cases x with
        | nil => exact hxne rfl
        | cons c r =>
          rw [nlLen] at h4
          by_cases hc : (c == 10) = true
          · rw [if_pos hc, List.length_cons] at h4
            have hr : r = [] := List.length_eq_zero_iff.1 (by omega)
            subst hr
            obtain rfl : q = c := by simpa using hmem
            have := eq_of_beq hc
            rcases hq with rfl | rfl <;> exact absurd this (by decide)
          · rw [if_neg hc, List.length_cons] at h4; omega

theorem quoted_stop {x r : List UInt8} {q : UInt8} {k f : Nat} {ps : List (List UInt8)} (hr : Stops r) (h : longestOf x = (k, x.length)) (hq : q = 39 ∨ q = 34) (h1 : ∀ p ∈ ps, p.all noQ = true) (h2 : ∀ p ∈ ps, ∀ c ∈ p, c ≠ 32 ∧ c ≠ 10) :
    quotedLen q f (x ++ r) ps ≤ x.length := by
  by_cases h0 : quotedLen q f (x ++ r) ps = 0
  · omega
  · obtain ⟨p, hp, z, n, e1, e2, e3⟩ := quoted_some h0
    rw [e3]
    by_cases hlt : p.length < x.length
    · have hx : x = p ++ q :: (x.drop (p.length + 1)) := by
        have ht : p = x.take p.length := by
          have := congrArg (List.take p.length) e1
          rw [List.take_append_of_le_length (by omega), List.take_left] at this
          exact this.symm
        have hd := congrArg (List.drop p.length) e1
        rw [List.drop_append_of_le_length (by omega), List.drop_left, List.drop_eq_getElem_cons hlt, List.cons_append, List.cons.injEq] at hd
        conv => lhs; rw [← List.take_append_drop p.length x, ← ht, List.drop_eq_getElem_cons hlt, hd.1]
      generalize x.drop (p.length + 1) = y at hx
      obtain ⟨n', hn'⟩ := quote_closed h hx (h1 p hp) hq
      have hz : z = y ++ r := by
        rw [hx, List.append_assoc, List.append_cancel_left_eq, List.cons_append, List.cons.injEq] at e1
        exact e1.2.symm
      rw [hz, bodyLen_app q _ y (Nat.le_refl _) r n' hn'] at e2
      obtain rfl : n' = n := Option.some.inj e2
      have := bodyLen_lt q _ y (Nat.le_refl _) n' hn'
      have : x.length = p.length + (y.length + 1) := by rw [hx]; simp
      omega
    · exfalso
      have hd := congrArg (List.drop x.length) e1
      rw [List.drop_left, List.drop_append_of_le_length (by omega)] at hd
      cases hpd : p.drop x.length with
      | nil =>
        rw [hpd, List.nil_append] at hd
        rcases hr _ _ hd with h | h
        · rcases hq with rfl | rfl <;> exact absurd h (by decide)
        · rcases hq with rfl | rfl <;> exact absurd h (by decide)
      | cons c s =>
        rw [hpd, List.cons_append] at hd
        have hc : c ∈ p := List.mem_of_mem_drop (i := x.length) (by rw [hpd]; exact List.mem_cons_self)
        rcases hr _ _ hd with h | h
        · exact (h2 p hp c hc).1 h
        · exact (h2 p hp c hc).2 h

theorem measure_stop {x r : List UInt8} {k : Nat} (hr : Stops r) (hx : x ≠ []) (h : longestOf x = (k, x.length)) : ∀ m ∈ kinds6, measureOf m (x ++ r) ≤ x.length := by
  intro m hm
  simp only [kinds6, List.mem_cons, List.not_mem_nil, or_false] at hm
  rcases hm with rfl | rfl | rfl | rfl | rfl | rfl
  · show wordLen (x ++ r) ≤ _
    rw [wordLen_ext hr x hx]; exact wordLen_le x
  · show numLen (x ++ r) ≤ _
    rw [numLen_ext hr x hx]; exact numLen_le' x
  · exact quoted_stop (q := 39) (f := 1) hr h (.inl rfl) pre_noQ.1 pre_noQ.2.2.1
  · exact quoted_stop (q := 34) (f := 0) hr h (.inr rfl) pre_noQ.2.1 pre_noQ.2.2.2
  · exact punctLen_stop hr x
  · exact nlLen_stop x hx

/-- The longest token of a token's text and what follows is that token. -/
theorem longest_ext {x r : List UInt8} {k : Nat} (hr : Stops r) (hx : x ≠ []) (h : longestOf x = (k, x.length)) : longestOf (x ++ r) = (k, x.length) := by
  rw [← h]
  refine longest_congr (fun m hm => ?_) ?_
  · have := measure_take (measure_stop hr hx h m hm)
    rw [List.take_left] at this
    exact this.symm
  · cases x with
    | nil => exact absurd rfl hx
    | cons c s => rfl

end Go.Proofs.Ytaodjipnffgihaa

namespace Go.Proofs.Ytaodjipnffgihaa

/-- What follows is nothing, or begins with white space or a line's end. -/
def StopW (r : List UInt8) : Prop := ∀ c s, r = c :: s → c = 32 ∨ c = 9 ∨ c = 11 ∨ c = 12 ∨ c = 10
theorem stopW_cons {c : UInt8} {s : List UInt8} (h : c = 32 ∨ c = 9 ∨ c = 11 ∨ c = 12 ∨ c = 10) : StopW (c :: s) := fun _ _ e => by
  rw [List.cons.injEq] at e; rw [← e.1]; exact h

theorem runLen_w {p : UInt8 → Bool} (h32 : p 32 = false) (h9 : p 9 = false) (h11 : p 11 = false) (h12 : p 12 = false) (h10 : p 10 = false) {r : List UInt8} (hr : StopW r) : ∀ x : List UInt8, runLen p (x ++ r) = runLen p x
  | [] => by
    cases r with
    | nil => rfl
    | cons c s =>
      have hp : p c = false := by rcases hr c s rfl with rfl | rfl | rfl | rfl | rfl <;> assumption
      show runLen p (c :: s) = 0
      simp [runLen, hp]
  | c :: x => by
    rw [List.cons_append, runLen, runLen, runLen_w h32 h9 h11 h12 h10 hr x]
theorem wordLen_w {r : List UInt8} (hr : StopW r) (x : List UInt8) (hx : x ≠ []) : wordLen (x ++ r) = wordLen x := by
  cases x with
  | nil => exact absurd rfl hx
  | cons c x =>
    rw [List.cons_append, wordLen, wordLen, runLen_w (by decide) (by decide) (by decide) (by decide) (by decide) hr]
theorem numTail_w0 {r : List UInt8} (hr : StopW r) : numTail r = 0 := by
  match r, hr with
  | [], _ => rfl
  | [c], hr => rcases hr c [] rfl with rfl | rfl | rfl | rfl | rfl <;> rfl
  | c :: d :: s, hr =>
    rw [numTail_three]
    rcases hr c _ rfl with rfl | rfl | rfl | rfl | rfl <;> rfl
theorem numTail_w {r : List UInt8} (hr : StopW r) : ∀ (m : Nat) (x : List UInt8), x.length ≤ m → numTail (x ++ r) = numTail x := by
  intro m
  induction m with
  | zero =>
    intro x hx
    have : x = [] := List.length_eq_zero_iff.1 (by omega)
    subst this
    exact numTail_w0 hr
  | succ m ih =>
    intro x hx
    match x, hx with
    | [], _ => exact numTail_w0 hr
    | [c], _ =>
      cases r with
      | nil => rfl
      | cons d s =>
        show numTail (c :: d :: s) = _
        rw [numTail_three, numTail_w0 hr]
        have hd : isSgn d = false := by rcases hr d s rfl with rfl | rfl | rfl | rfl | rfl <;> rfl
        rw [hd, Bool.and_false, if_neg (by decide)]
        rfl
    | c :: d :: x, hx =>
      simp only [List.length_cons] at hx
      rw [List.cons_append, List.cons_append, numTail_three, numTail_three, ih x (by omega)]
      have := ih (d :: x) (by simp; omega)
      rw [List.cons_append] at this
      rw [this]
theorem numStart_w {r : List UInt8} (hr : StopW r) (x : List UInt8) (hx : x ≠ []) : numStart (x ++ r) = numStart x := by
  match x, hx with
  | [c], _ =>
    cases r with
    | nil => rfl
    | cons d s =>
      show numStart (c :: d :: s) = numStart [c]
      have hd : isDig d = false := by rcases hr d s rfl with rfl | rfl | rfl | rfl | rfl <;> rfl
      simp only [numStart, hd]
  | c :: d :: x, _ => rfl
theorem numLen_w {r : List UInt8} (hr : StopW r) (x : List UInt8) (hx : x ≠ []) : numLen (x ++ r) = numLen x := by
  unfold numLen
  have h := numStart_le x
  rw [numStart_w hr x hx, List.drop_append_of_le_length h, numTail_w hr _ _ (Nat.le_refl _)]
theorem puncts_w : ∀ p ∈ puncts, ∀ c ∈ p, c ≠ 32 ∧ c ≠ 9 ∧ c ≠ 11 ∧ c ≠ 12 ∧ c ≠ 10 := by decide +kernel
theorem punctDown_w {c : UInt8} {s : List UInt8} (hc : c = 32 ∨ c = 9 ∨ c = 11 ∨ c = 12 ∨ c = 10) (x : List UInt8) : ∀ n, punctDown (x ++ c :: s) n ≤ x.length
  | 0 => Nat.zero_le _
  | n + 1 => by
    rw [punctDown]
    split
    · rename_i hp
      refine Nat.le_of_not_lt (fun h => ?_)
      unfold isPunctB at hp
      have hm := List.contains_iff_mem.1 hp
      have hcm : c ∈ (x ++ c :: s).take (n + 1) := by
        rw [List.take_append, List.mem_append]
        right
        obtain ⟨k, hk⟩ : ∃ k, n + 1 - x.length = k + 1 := ⟨n - x.length, by omega⟩
        rw [hk, List.take_succ_cons]
        exact List.mem_cons_self
      obtain ⟨h1, h2, h3, h4, h5⟩ := puncts_w _ hm c hcm
      rcases hc with h | h | h | h | h
      · exact h1 h
      · exact h2 h
      · exact h3 h
      · exact h4 h
      · exact h5 h
    · exact punctDown_w hc x n
theorem punctLen_w {r : List UInt8} (hr : StopW r) (x : List UInt8) : punctLen (x ++ r) ≤ x.length := by
  cases r with
  | nil => rw [List.append_nil]; exact punctLen_le x
  | cons c s => exact punctDown_w (hr c s rfl) x _
theorem nlLen_w {r : List UInt8} (x : List UInt8) (hx : x ≠ []) : nlLen (x ++ r) ≤ x.length := by
  cases x with
  | nil => exact absurd rfl hx
  | cons c x => rw [List.cons_append, nlLen]; split <;> simp

/-- Each quote behind no quotes is closed. -/
def Closed (u : List UInt8) : Prop := ∀ (p y : List UInt8) (q : UInt8), u = p ++ q :: y → p.all noQ = true → (q = 39 ∨ q = 34) → ∃ n, bodyLen q y = some n
theorem closed_nil : Closed [] := fun p y q h => by
  have := congrArg List.length h
  simp at this
theorem closed_app {x u : List UInt8} (hx : Closed x) (hu : Closed u) : Closed (x ++ u) := by
  intro p y q h hp hq
  rcases List.append_eq_append_iff.1 h with ⟨a, rfl, rfl⟩ | ⟨c, rfl, h2⟩
  · rw [List.all_append, Bool.and_eq_true] at hp
    exact hu a y q rfl hp.2 hq
  · cases c with
    | nil => exact hu [] y q h2.symm rfl hq
    | cons d c =>
      rw [List.cons_append, List.cons.injEq] at h2
      obtain ⟨rfl, rfl⟩ := h2
      obtain ⟨n, hn⟩ := hx p c q rfl hp hq
      exact ⟨n, bodyLen_app q _ c (Nat.le_refl _) u n hn⟩
theorem closed_tok {x : List UInt8} {k : Nat} (h : nextOf false x = (k, x.length, 0)) (hk : k ≠ 8) : Closed x := by
  intro p y q hx hp hq
  unfold nextOf at h
  rw [if_neg (by simp)] at h
  split at h
  · split at h
    · simp only [Prod.mk.injEq] at h; exact absurd h.2.2 (by decide)
    · have := congrArg Prod.fst h; exact absurd this.symm hk
  · split at h
    · simp only [Prod.mk.injEq] at h; exact absurd h.2.2 (by decide)
    · simp only [Prod.mk.injEq] at h
      exact quote_closed (k := k) (by rw [← h.1, ← h.2.1]) hx hp hq

theorem quoted_w {u r : List UInt8} {q : UInt8} {f : Nat} {ps : List (List UInt8)} (hr : StopW r) (h : Closed u) (hq : q = 39 ∨ q = 34) (h1 : ∀ p ∈ ps, p.all noQ = true) (h2 : ∀ p ∈ ps, ∀ c ∈ p, c ≠ 32 ∧ c ≠ 9 ∧ c ≠ 11 ∧ c ≠ 12 ∧ c ≠ 10) :
    quotedLen q f (u ++ r) ps ≤ u.length := by
  by_cases h0 : quotedLen q f (u ++ r) ps = 0
  · omega
  · obtain ⟨p, hp, z, n, e1, e2, e3⟩ := quoted_some h0
    rw [e3]
    have hqw : ¬ (q = 32 ∨ q = 9 ∨ q = 11 ∨ q = 12 ∨ q = 10) := by rcases hq with rfl | rfl <;> decide
    rcases List.append_eq_append_iff.1 e1 with ⟨a, rfl, rfl⟩ | ⟨c, rfl, h3⟩
    · exfalso
      cases a with
      | nil => exact hqw (hr _ _ rfl)
      | cons d a =>
        obtain ⟨g1, g2, g3, g4, g5⟩ := h2 _ hp d (List.mem_append_right _ List.mem_cons_self)
        rcases hr d (a ++ q :: z) rfl with g | g | g | g | g
        · exact g1 g
        · exact g2 g
        · exact g3 g
        · exact g4 g
        · exact g5 g
    · cases c with
      | nil => exact absurd (hr _ _ h3.symm) hqw
      | cons d c =>
        rw [List.cons_append, List.cons.injEq] at h3
        obtain ⟨rfl, rfl⟩ := h3
        obtain ⟨n', hn'⟩ := h p c q rfl (h1 p hp) hq
        rw [bodyLen_app q _ c (Nat.le_refl _) r n' hn'] at e2
        obtain rfl : n' = n := Option.some.inj e2
        have := bodyLen_lt q _ c (Nat.le_refl _) n' hn'
        rw [List.length_append, List.length_cons]
        omega
theorem pre_w : (∀ p ∈ chPre, ∀ c ∈ p, c ≠ 32 ∧ c ≠ 9 ∧ c ≠ 11 ∧ c ≠ 12 ∧ c ≠ 10) ∧ (∀ p ∈ stPre, ∀ c ∈ p, c ≠ 32 ∧ c ≠ 9 ∧ c ≠ 11 ∧ c ≠ 12 ∧ c ≠ 10) := by decide +kernel
theorem measure_w {u r : List UInt8} (hr : StopW r) (hu : u ≠ []) (h : Closed u) : ∀ m ∈ kinds6, measureOf m (u ++ r) ≤ u.length := by
  intro m hm
  simp only [kinds6, List.mem_cons, List.not_mem_nil, or_false] at hm
  rcases hm with rfl | rfl | rfl | rfl | rfl | rfl
  · show wordLen (u ++ r) ≤ _
    rw [wordLen_w hr u hu]; exact wordLen_le u
  · show numLen (u ++ r) ≤ _
    rw [numLen_w hr u hu]; exact numLen_le' u
  · exact quoted_w (q := 39) (f := 1) hr h (.inl rfl) pre_noQ.1 pre_w.1
  · exact quoted_w (q := 34) (f := 0) hr h (.inr rfl) pre_noQ.2.1 pre_w.2
  · exact punctLen_w hr u
  · exact nlLen_w u hu
theorem longest_w {u r : List UInt8} (hr : StopW r) (hu : u ≠ []) (h : Closed u) : longestOf (u ++ r) = longestOf u := by
  refine longest_congr (fun m hm => ?_) ?_
  · have := measure_take (measure_w hr hu h m hm)
    rw [List.take_left] at this
    exact this.symm
  · cases u with
    | nil => exact absurd rfl hu
    | cons c s => rfl
theorem isCom_cons (c d : UInt8) (r : List UInt8) : isComment (c :: d :: r) = (c == 47 && (d == 42 || d == 47)) := by
  unfold isComment
  simp only [List.isPrefixOf]
  by_cases h : c = 47
  · subst h
    by_cases h2 : d = 42
    · subst h2; simp
    · by_cases h3 : d = 47
      · subst h3; simp
      · have e1 : (42 == d) = false := beq_eq_false_iff_ne.2 fun e => h2 e.symm
        have e2 : (47 == d) = false := beq_eq_false_iff_ne.2 fun e => h3 e.symm
        simp [h2, h3, e1, e2]
  · have e1 : (47 == c) = false := beq_eq_false_iff_ne.2 fun e => h e.symm
    simp [h, e1]
theorem isCom_w {x r : List UInt8} (hr : StopW r) (hx : x ≠ []) : isComment (x ++ r) = isComment x := by
  match x, hx with
  | [c], _ =>
    cases r with
    | nil => rfl
    | cons d s =>
      show isComment (c :: d :: s) = isComment [c]
      rw [isCom_cons]
      have h1 : isComment [c] = false := by unfold isComment; simp [List.isPrefixOf]
      rw [h1]
      rcases hr d s rfl with rfl | rfl | rfl | rfl | rfl <;> simp
  | c :: d :: x, _ =>
    show isComment (c :: d :: (x ++ r)) = _
    rw [isCom_cons, isCom_cons]
/-- The first token of some that stand side by side, followed by white space or a line's end. -/
theorem next_w {u r : List UInt8} {k n : Nat} (hr : StopW r) (hu : u ≠ []) (hc : Closed u) (h : nextOf false u = (k, n, 0)) (hk : k ≠ 8) : nextOf false (u ++ r) = (k, n, 0) := by
  unfold nextOf at h ⊢
  rw [if_neg (by simp)] at h ⊢
  rw [isCom_w hr hu, longest_w hr hu hc]
  split at h
  · exfalso
    split at h
    · simp only [Prod.mk.injEq] at h; exact absurd h.2.2 (by decide)
    · have := congrArg Prod.fst h; exact hk this.symm
  · rename_i h1
    rw [if_neg h1]; exact h

end Go.Proofs.Ytaodjipnffgihaa

namespace Go.Proofs.Ytaodjipnffgihaa

theorem closeN_app (q : UInt8) : ∀ {y s s' : List UInt8} {n : Nat}, closeN q (y ++ s) = some n → n < y.length → closeN q (y ++ s') = some n
  | [], _, _, _, _, h2 => by simp at h2
  | c :: y, s, s', n, h, h2 => by
    rw [List.cons_append, closeN] at h ⊢
    by_cases h10 : (c == 10) = true
    · rw [if_pos h10] at h; cases h
    · rw [if_neg h10] at h ⊢
      by_cases hq : (c == q) = true
      · rw [if_pos hq] at h ⊢; exact h
      · rw [if_neg hq] at h ⊢
        cases hc : closeN q (y ++ s) with
        | none => rw [hc] at h; cases h
        | some m =>
          rw [hc] at h
          obtain rfl : m + 1 = n := Option.some.inj h
          rw [List.length_cons] at h2
          rw [closeN_app q hc (by omega)]; rfl
theorem header_cons (c : UInt8) (r : List UInt8) : headerLen (c :: r) = if c == 34 then (match closeN 34 r with | some n => n + 2 | none => 0) else if c == 60 then (match closeN 62 r with | some n => n + 2 | none => 0) else 0 := rfl
theorem header_ext {x s : List UInt8} (s' : List UInt8) (hx : x ≠ []) (h : headerLen (x ++ s) = x.length) : headerLen (x ++ s') = x.length := by
  cases x with
  | nil => exact absurd rfl hx
  | cons c y =>
    rw [List.cons_append, header_cons, List.length_cons] at h
    rw [List.cons_append, header_cons, List.length_cons]
    by_cases h1 : (c == 34) = true
    · rw [if_pos h1] at h ⊢
      cases hc : closeN 34 (y ++ s) with
      | none => rw [hc] at h; simp at h
      | some n =>
        rw [hc] at h
        simp only at h
        rw [closeN_app 34 hc (by omega)]; exact h
    · rw [if_neg h1] at h ⊢
      by_cases h2 : (c == 60) = true
      · rw [if_pos h2] at h ⊢
        cases hc : closeN 62 (y ++ s) with
        | none => rw [hc] at h; simp at h
        | some n =>
          rw [hc] at h
          simp only at h
          rw [closeN_app 62 hc (by omega)]; exact h
      · rw [if_neg h2] at h; omega

theorem closeC_cons (c : UInt8) (r : List UInt8) : closeC (c :: r) = if c == 42 && r.head? == some 47 then some 0 else (closeC r).map (· + 1) := rfl
theorem closeC_app : ∀ {l : List UInt8} {n : Nat} (r : List UInt8), closeC l = some n → closeC (l ++ r) = some n
  | [], _, _, h => by cases h
  | c :: l, n, r, h => by
    rw [closeC_cons] at h
    rw [List.cons_append, closeC_cons]
    by_cases h1 : (c == 42 && l.head? == some 47) = true
    · rw [if_pos h1] at h
      have h2 : (c == 42 && (l ++ r).head? == some 47) = true := by
        cases l with
        | nil => simp at h1
        | cons d l => exact h1
      rw [if_pos h2]; exact h
    · rw [if_neg h1] at h
      cases hc : closeC l with
      | none => rw [hc] at h; cases h
      | some m =>
        rw [hc] at h
        have h2 : ¬ (c == 42 && (l ++ r).head? == some 47) = true := by
          cases l with
          | nil => cases hc
          | cons d l => exact h1
        rw [if_neg h2, closeC_app r hc]; exact h

theorem isComment_cons (c d : UInt8) (r : List UInt8) : isComment (c :: d :: r) = (c == 47 && (d == 42 || d == 47)) := by
  unfold isComment
  simp only [List.isPrefixOf]
  by_cases h : c = 47
  · subst h
    by_cases h2 : d = 42
    · subst h2; simp
    · by_cases h3 : d = 47
      · subst h3; simp
      · have e1 : (42 == d) = false := beq_eq_false_iff_ne.2 fun e => h2 e.symm
        have e2 : (47 == d) = false := beq_eq_false_iff_ne.2 fun e => h3 e.symm
        simp [h2, h3, e1, e2]
  · have e1 : (47 == c) = false := beq_eq_false_iff_ne.2 fun e => h e.symm
    simp [h, e1]
theorem isComment_ext {x r : List UInt8} (hr : Stops r) (hx : x ≠ []) : isComment (x ++ r) = isComment x := by
  match x, hx with
  | [c], _ =>
    cases r with
    | nil => rfl
    | cons d s =>
      show isComment (c :: d :: s) = isComment [c]
      rw [isComment_cons]
      have h1 : isComment [c] = false := by unfold isComment; simp [List.isPrefixOf]
      rw [h1]
      rcases hr d s rfl with rfl | rfl <;> simp
  | c :: d :: x, _ =>
    show isComment (c :: d :: (x ++ r)) = _
    rw [isComment_cons, isComment_cons]
theorem runLen_ten {p : UInt8 → Bool} (h10 : p 10 = false) {r : List UInt8} (hr : ∀ c s, r = c :: s → c = 10) : ∀ x : List UInt8, runLen p (x ++ r) = runLen p x
  | [] => by
    cases r with
    | nil => rfl
    | cons c s =>
      have hp : p c = false := by rw [hr c s rfl]; exact h10
      show runLen p (c :: s) = 0
      simp [runLen, hp]
  | c :: x => by
    rw [List.cons_append, runLen, runLen, runLen_ten h10 hr x]
theorem commentLen_ext {x r : List UInt8} (h : isComment x = true) (hl : commentLen x = x.length) (hr : [47, 47].isPrefixOf x = true → ∀ c s, r = c :: s → c = 10) : commentLen (x ++ r) = x.length := by
  match x, h with
  | [], h => cases h
  | [c], h => simp [isComment, List.isPrefixOf] at h
  | c :: d :: x, h =>
    have hp : [47, 47].isPrefixOf (c :: d :: x ++ r) = [47, 47].isPrefixOf (c :: d :: x) := rfl
    have hd : (c :: d :: x ++ r).drop 2 = x ++ r := rfl
    unfold commentLen at hl ⊢
    rw [hp, hd]
    by_cases h1 : [47, 47].isPrefixOf (c :: d :: x) = true
    · rw [if_pos h1] at hl ⊢
      rw [runLen_ten (by decide) (hr h1)]
      exact hl
    · rw [if_neg h1] at hl ⊢
      have hd2 : (c :: d :: x).drop 2 = x := rfl
      rw [hd2] at hl
      cases hc : closeC x with
      | none => rw [hc] at hl; simp at hl
      | some n => rw [hc] at hl; rw [closeC_app r hc]; exact hl

theorem fold_kinds (l : List UInt8) : ∀ (ks : List Nat) (a : Nat × Nat), (∀ k ∈ ks, k ≠ 7) → a.1 ≠ 7 → (ks.foldl (better l) a).1 ≠ 7
  | [], _, _, h => h
  | k :: ks, a, h, ha => by
    rw [List.foldl_cons]
    refine fold_kinds l ks _ (fun k' hk' => h k' (List.mem_cons_of_mem _ hk')) ?_
    unfold better
    split
    · exact h k List.mem_cons_self
    · exact ha
theorem longest_not7 (l : List UInt8) : (longestOf l).1 ≠ 7 := by
  unfold longestOf
  simp only
  split
  · decide
  · exact fold_kinds l _ _ (by decide) (by decide)

/-- A token stays what it is when what follows begins with a blank or a line's end. -/
theorem next_ext {inc : Bool} {x s r : List UInt8} {k : Nat} (hr : Stops r) (hx : x ≠ []) (h : nextOf inc (x ++ s) = (k, x.length, 0))
    (h1 : k = 8 → [47, 47].isPrefixOf x = true → ∀ c t, r = c :: t → c = 10) (h2 : inc = true → k ≠ 7 → headerLen (x ++ r) = 0) : nextOf inc (x ++ r) = (k, x.length, 0) := by
  have hl : 1 ≤ x.length := by
    cases x with
    | nil => exact absurd rfl hx
    | cons c y => simp
  by_cases hk : k = 7
  · subst hk
    unfold nextOf at h ⊢
    by_cases h3 : (inc && headerLen (x ++ s) != 0) = true
    · rw [if_pos h3] at h
      simp only [Prod.mk.injEq] at h
      have h4 := header_ext r hx h.2.1
      rw [Bool.and_eq_true] at h3
      rw [if_pos (by rw [h3.1, h4]; simp; omega), h4]
    · rw [if_neg h3] at h
      split at h
      · split at h <;> simp at h
      · split at h
        · simp at h
        · simp only [Prod.mk.injEq] at h
          exfalso
          have h5 := h.1
          rename_i _ hz
          have := longest_not7 (x ++ s)
          exact this h5
  · have hn := next_take (m := x.length) h hk hl (Nat.le_refl _)
    rw [List.take_left] at hn
    unfold nextOf at hn ⊢
    rw [if_neg (by simp)] at hn
    have h3 : ¬ (inc && headerLen (x ++ r) != 0) = true := by
      intro h4
      rw [Bool.and_eq_true] at h4
      rw [h2 h4.1 hk] at h4
      simp at h4
    rw [if_neg h3, isComment_ext hr hx]
    by_cases hc : isComment x = true
    · rw [if_pos hc] at hn ⊢
      by_cases h0 : commentLen x = 0
      · rw [if_pos h0] at hn; simp at hn
      · rw [if_neg h0] at hn
        simp only [Prod.mk.injEq] at hn
        have h4 := commentLen_ext (r := r) hc hn.2.1 (h1 hn.1.symm)
        rw [h4, if_neg (by omega)]
        rw [← hn.1]
    · rw [if_neg hc] at hn ⊢
      by_cases h0 : (longestOf x).2 = 0
      · rw [if_pos h0] at hn; simp at hn
      · rw [if_neg h0] at hn
        simp only [Prod.mk.injEq] at hn
        have h4 : longestOf x = (k, x.length) := Prod.ext hn.1 hn.2.1
        rw [longest_ext hr hx h4, if_neg (by simp only; omega)]

end Go.Proofs.Ytaodjipnffgihaa

namespace Go.Proofs.Ytaodjipnffgihaa

theorem runStop (p : UInt8 → Bool) : ∀ l : List UInt8, runLen p (l.drop (runLen p l)) = 0
  | [] => rfl
  | c :: r => by
    by_cases h : p c = true
    · rw [runLen, if_pos h, List.drop_succ_cons]; exact runStop p r
    · rw [runLen, if_neg h, List.drop_zero, runLen, if_neg h]
theorem atStop (l : List UInt8) (e : Nat) : runLen isWS (l.drop (atOf l e)) = 0 := by
  unfold atOf; rw [← List.drop_drop]; exact runStop _ _
theorem txtDrop {L : List UInt8} {t : Tk} (h : t.a ≤ t.e) : L.drop t.a = txt L t ++ L.drop t.e := by
  have h1 : (L.drop t.a).drop (t.e - t.a) = L.drop t.e := by rw [List.drop_drop]; congr 1; omega
  have h2 : txt L t = (L.drop t.a).take (t.e - t.a) := by unfold txt; rw [List.drop_take]
  rw [h2, ← h1, List.take_append_drop]
theorem foldPos (l : List UInt8) : ∀ (ks : List Nat) (a : Nat × Nat), (ks.foldl (better l) a) = a ∨ ∃ k ∈ ks, (ks.foldl (better l) a).1 = k ∧ measureOf k l = (ks.foldl (better l) a).2 ∧ 0 < (ks.foldl (better l) a).2
  | [], _ => .inl rfl
  | k :: ks, a => by
    rw [List.foldl_cons]
    rcases foldPos l ks (better l a k) with h | ⟨k', h1, h2⟩
    · rw [h]
      unfold better
      split
      · exact .inr ⟨k, List.mem_cons_self, rfl, rfl, by simp only; omega⟩
      · exact .inl rfl
    · exact .inr ⟨k', List.mem_cons_of_mem _ h1, h2⟩
theorem longestNine {l : List UInt8} (h : (longestOf l).1 = 9) : ∃ r, l = 10 :: r := by
  unfold longestOf at h
  simp only at h
  split at h
  · exact absurd h (by decide)
  · rcases foldPos l [1, 2, 3, 4, 5, 9] (0, 0) with h1 | ⟨k, _, h2, h3, h4⟩
    · have := congrArg Prod.fst h1
      rw [h] at this; exact absurd this (by decide)
    · rw [h] at h2
      subst h2
      rw [← h3] at h4
      have h5 : 0 < nlLen l := h4
      cases l with
      | nil => exact absurd h5 (by decide)
      | cons c r =>
        rw [nlLen] at h5
        by_cases hc : (c == 10) = true
        · exact ⟨r, by rw [eq_of_beq hc]⟩
        · rw [if_neg hc] at h5; exact absurd h5 (by decide)
theorem nextNine {inc : Bool} {l : List UInt8} {n : Nat} (h : nextOf inc l = (9, n, 0)) : ∃ r, l = 10 :: r := by
  unfold nextOf at h
  split at h
  · simp only [Prod.mk.injEq] at h; exact absurd h.1 (by decide)
  · split at h
    · split at h <;> simp at h
    · split at h
      · simp at h
      · simp only [Prod.mk.injEq] at h; exact longestNine h.1
theorem nextNot7 {l : List UInt8} {k n : Nat} (h : nextOf false l = (k, n, 0)) : k ≠ 7 := by
  unfold nextOf at h
  rw [if_neg (by simp)] at h
  split at h
  · split at h
    · simp only [Prod.mk.injEq] at h; exact absurd h.2.2 (by decide)
    · simp only [Prod.mk.injEq] at h; rw [← h.1]; decide
  · split at h
    · simp only [Prod.mk.injEq] at h; exact absurd h.2.2 (by decide)
    · simp only [Prod.mk.injEq] at h; rw [← h.1]; exact longest_not7 l
theorem run_ws {W R : List UInt8} (hW : ∀ c ∈ W, isWS c = true) (hR : runLen isWS R = 0) : runLen isWS (W ++ R) = W.length := by
  induction W with
  | nil => exact hR
  | cons c W ih =>
    rw [List.cons_append, runLen, if_pos (hW c List.mem_cons_self), ih (fun d hd => hW d (List.mem_cons_of_mem _ hd)), List.length_cons]

/-- The token behind white space. -/
theorem tok_next {X : List UInt8} {e st k : Nat} {W x R : List UInt8} (he : e ≤ X.length) (hX : X.drop e = W ++ (x ++ R)) (hW : ∀ c ∈ W, isWS c = true) (hx : x ≠ []) (hw : runLen isWS (x ++ R) = 0) (hn : nextOf (st == 2) (x ++ R) = (k, x.length, 0)) :
    ∃ t : Tk, t.k = k ∧ t.sp = decide (W ≠ []) ∧ txt X t = x ∧ t.e ≤ X.length ∧ X.drop t.e = R ∧ toks X e st = (t :: (toks X t.e (lineWith st k x)).1, (toks X t.e (lineWith st k x)).2) := by
  have ha : atOf X e = e + W.length := by unfold atOf; rw [hX, run_ws hW hw]
  have hXd : X.drop (atOf X e) = x ++ R := by rw [ha, ← List.drop_drop, hX, List.drop_left]
  have hnx : nextAt X e st = (k, x.length, 0) := by unfold nextAt; rw [hXd]; exact hn
  have hx1 : 1 ≤ x.length := by
    cases x with
    | nil => exact absurd rfl hx
    | cons c x => simp
  have hlen : X.length = atOf X e + (x.length + R.length) := by
    have h6 := congrArg List.length hX
    rw [List.length_drop, List.length_append, List.length_append] at h6
    omega
  have htx : txt X (tokAt X e st) = x := by
    have h7 : txt X (tokAt X e st) = (X.drop (atOf X e)).take ((nextAt X e st).2.1) := by
      unfold txt
      rw [List.drop_take]
      show (X.drop (atOf X e)).take (atOf X e + (nextAt X e st).2.1 - atOf X e) = _
      rw [Nat.add_sub_cancel_left]
    rw [h7, hXd, hnx, List.take_left]
  have hte : (tokAt X e st).e = atOf X e + x.length := by
    show atOf X e + (nextAt X e st).2.1 = _
    rw [hnx]
  have hst : stAt X e st = lineWith st k x := by
    unfold stAt; rw [htx, hnx]
  refine ⟨tokAt X e st, by show (nextAt X e st).1 = k; rw [hnx], ?_, htx, by rw [hte]; omega, ?_, ?_⟩
  · show decide (e < atOf X e) = _
    rw [ha]
    cases W with
    | nil => simp
    | cons c W => simp
  · rw [hte, ← List.drop_drop, hXd, List.drop_left]
  · rw [toks_cons (by omega) (by rw [hnx]), hst]

/-- Bare tokens: kind, text, white space or a comment ahead. -/
def outN (k : Nat) : Bool := k == 8 || k == 9
def btr (L : List UInt8) : Bool → List Tk → List (Nat × List UInt8 × Bool)
  | _, [] => []
  | f, t :: r => if outN t.k then btr L true r else (t.k, txt L t, t.sp || f) :: btr L false r
/-- One line's end, and nothing behind it. -/
def nlEnd : List Tk → Bool
  | [] => false
  | t :: r => if t.k == 9 then r.isEmpty else nlEnd r
/-- What may stand for white space. -/
def sps : List (List UInt8) := [[32], [9], [32, 47, 42, 32, 120, 32, 42, 47], [32, 32], [32, 47, 42, 42, 47, 32, 47, 42, 32, 10, 32, 42, 47], [11, 12]]
theorem com_x (R : List UInt8) : nextOf false ([47, 42, 32, 120, 32, 42, 47] ++ R) = (8, 7, 0) := by
  simp [nextOf, isComment, commentLen, List.isPrefixOf, closeC]
theorem com_e (R : List UInt8) : nextOf false ([47, 42, 42, 47] ++ R) = (8, 4, 0) := by
  simp [nextOf, isComment, commentLen, List.isPrefixOf, closeC]
theorem com_n (R : List UInt8) : nextOf false ([47, 42, 32, 10, 32, 42, 47] ++ R) = (8, 7, 0) := by
  simp [nextOf, isComment, commentLen, List.isPrefixOf, closeC]
theorem ws_app {W g : List UInt8} (hW : ∀ c ∈ W, isWS c = true) (hg : ∀ c ∈ g, isWS c = true) : ∀ c ∈ W ++ g, isWS c = true := fun c hc => by
  rcases List.mem_append.1 hc with h | h
  · exact hW c h
  · exact hg c h

/-- One comment ahead. -/
theorem com_step {X : List UInt8} {e st : Nat} {f : Bool} {W x R : List UInt8} (hst : (st == 2) = false) (he : e ≤ X.length) (hX : X.drop e = W ++ (x ++ R)) (hW : ∀ c ∈ W, isWS c = true) (hx : x ≠ []) (hw : runLen isWS (x ++ R) = 0) (hn : nextOf false (x ++ R) = (8, x.length, 0)) :
    ∃ e', e' ≤ X.length ∧ X.drop e' = R ∧ (toks X e st).2 = (toks X e' st).2 ∧ btr X f (toks X e st).1 = btr X true (toks X e' st).1 ∧ nlEnd (toks X e st).1 = nlEnd (toks X e' st).1 := by
  obtain ⟨t, h1, h2, h3, h4, h5, h6⟩ := tok_next (k := 8) (st := st) he hX hW hx hw (by rw [hst]; exact hn)
  have hl : lineWith st 8 x = st := rfl
  rw [hl] at h6
  refine ⟨t.e, h4, h5, by rw [h6], ?_, ?_⟩
  · rw [h6, btr, h1, if_pos (by rfl)]
  · rw [h6, nlEnd, h1, if_neg (by decide)]

theorem sep_step {X : List UInt8} {e st : Nat} (f : Bool) {W g R : List UInt8} (hg : g ∈ sps) (hst : (st == 2) = false) (he : e ≤ X.length) (hX : X.drop e = W ++ (g ++ R)) (hW : ∀ c ∈ W, isWS c = true) :
    ∃ e' W' f', e' ≤ X.length ∧ X.drop e' = W' ++ R ∧ (∀ c ∈ W', isWS c = true) ∧ (decide (W' ≠ []) || f') = true ∧ (toks X e st).2 = (toks X e' st).2 ∧ btr X f (toks X e st).1 = btr X f' (toks X e' st).1 ∧ nlEnd (toks X e st).1 = nlEnd (toks X e' st).1 := by
  have white : ∀ g : List UInt8, g ≠ [] → (∀ c ∈ g, isWS c = true) → X.drop e = W ++ (g ++ R) → ∃ e' W' f', e' ≤ X.length ∧ X.drop e' = W' ++ R ∧ (∀ c ∈ W', isWS c = true) ∧ (decide (W' ≠ []) || f') = true ∧ (toks X e st).2 = (toks X e' st).2 ∧ btr X f (toks X e st).1 = btr X f' (toks X e' st).1 ∧ nlEnd (toks X e st).1 = nlEnd (toks X e' st).1 := by
    intro g hne hgw hX
    refine ⟨e, W ++ g, f, he, by rw [hX, List.append_assoc], ws_app hW hgw, ?_, rfl, rfl, rfl⟩
    have : W ++ g ≠ [] := fun h => hne (List.append_eq_nil_iff.1 h).2
    simp [this]
  have w32 : ∀ c ∈ ([32] : List UInt8), isWS c = true := by decide
  simp only [sps, List.mem_cons, List.not_mem_nil, or_false] at hg
  rcases hg with rfl | rfl | rfl | rfl | rfl | rfl
  · exact white _ (by decide) (by decide) hX
  · exact white _ (by decide) (by decide) hX
  · obtain ⟨e', h1, h2, h3, h4, h5⟩ := com_step (f := f) (W := W ++ [32]) (x := [47, 42, 32, 120, 32, 42, 47]) (R := R) hst he (by rw [hX, List.append_assoc]; rfl) (ws_app hW w32) (by decide) rfl (com_x R)
    exact ⟨e', [], true, h1, h2, (fun c h => by cases h), rfl, h3, h4, h5⟩
  · exact white _ (by decide) (by decide) hX
  · obtain ⟨e1, h1, h2, h3, h4, h5⟩ := com_step (f := f) (W := W ++ [32]) (x := [47, 42, 42, 47]) (R := [32, 47, 42, 32, 10, 32, 42, 47] ++ R) hst he (by rw [hX, List.append_assoc]; rfl) (ws_app hW w32) (by decide) rfl (com_e _)
    obtain ⟨e2, g1, g2, g3, g4, g5⟩ := com_step (f := true) (W := [32]) (x := [47, 42, 32, 10, 32, 42, 47]) (R := R) hst h1 (by rw [h2]; rfl) w32 (by decide) rfl (com_n R)
    exact ⟨e2, [], true, g1, g2, (fun c h => by cases h), rfl, h3.trans g3, h4.trans g4, h5.trans g5⟩
  · exact white _ (by decide) (by decide) hX

/-- The new text: for each token what stands for white space or a comment, and the text. -/
def newR (L : List UInt8) (g : Nat → List UInt8) : Nat → List Tk → List UInt8
  | _, [] => []
  | i, t :: r => (if t.k = 8 ∨ t.sp = true then g i else []) ++ ((if t.k = 8 then [] else txt L t) ++ newR L g (i + 1) r)
/-- The texts of the tokens that stand side by side. -/
def runR (L : List UInt8) : List Tk → List UInt8
  | [] => []
  | t :: r => if t.k = 8 ∨ t.k = 9 ∨ t.sp = true then [] else txt L t ++ runR L r
theorem sps_head : ∀ g ∈ sps, ∃ c s, g = c :: s ∧ (c = 32 ∨ c = 9 ∨ c = 11 ∨ c = 12 ∨ c = 10) := by
  intro g hg
  simp only [sps, List.mem_cons, List.not_mem_nil, or_false] at hg
  rcases hg with rfl | rfl | rfl | rfl | rfl | rfl
  all_goals exact ⟨_, _, rfl, by decide⟩
theorem line3 {k : Nat} {x : List UInt8} (h : k ≠ 9) : lineWith 3 k x = 3 := by
  unfold lineWith
  rw [if_neg h]
  split <;> rfl

/-- What a token at a place is. -/
theorem tok_facts {L : List UInt8} {e : Nat} (h1 : atOf L e < L.length) (h2 : (nextAt L e 3).2.2 = 0) :
    (tokAt L e 3).a = atOf L e ∧ (tokAt L e 3).sp = decide (e < atOf L e) ∧ (tokAt L e 3).e ≤ L.length ∧ (tokAt L e 3).a < (tokAt L e 3).e ∧ L.drop (tokAt L e 3).a = txt L (tokAt L e 3) ++ L.drop (tokAt L e 3).e ∧ (txt L (tokAt L e 3)).length = (tokAt L e 3).e - (tokAt L e 3).a ∧
    nextOf false (L.drop (tokAt L e 3).a) = ((tokAt L e 3).k, (txt L (tokAt L e 3)).length, 0) ∧ txt L (tokAt L e 3) ≠ [] ∧ runLen isWS (L.drop (tokAt L e 3).a) = 0 := by
  have h3 := nextAt_len h1 h2
  have hte : (tokAt L e 3).e = atOf L e + (nextAt L e 3).2.1 := rfl
  have hta : (tokAt L e 3).a = atOf L e := rfl
  have hxl : (txt L (tokAt L e 3)).length = (nextAt L e 3).2.1 := by
    unfold txt; rw [List.length_drop, List.length_take, hte, hta]; omega
  refine ⟨hta, rfl, by rw [hte]; exact h3.2, by rw [hte, hta]; omega, txtDrop (by rw [hte, hta]; omega), by rw [hxl, hte, hta, Nat.add_sub_cancel_left], ?_, ?_, by rw [hta]; exact atStop L e⟩
  · rw [hxl]
    show nextAt L e 3 = ((nextAt L e 3).1, (nextAt L e 3).2.1, 0)
    rw [← h2]
  · intro h
    rw [h] at hxl
    simp only [List.length_nil] at hxl
    omega

theorem run_new {L : List UInt8} {g : Nat → List UInt8} (hg : ∀ i, g i ∈ sps) : ∀ (m e : Nat), L.length - e ≤ m → e ≤ L.length → (toks L e 3).2 = 0 → nlEnd (toks L e 3).1 = true → ∀ i,
    ∃ r v, newR L g i (toks L e 3).1 = runR L (toks L e 3).1 ++ r ∧ StopW r ∧ L.drop e = runR L (toks L e 3).1 ++ v ∧ Closed (runR L (toks L e 3).1) := by
  intro m
  induction m with
  | zero =>
    intro e hm he _ hn
    have := atOf_ge L e
    rw [toks_end he (by omega)] at hn
    cases hn
  | succ m ih =>
    intro e hm he h0 hn i
    have hge := atOf_ge L e
    by_cases h1 : L.length ≤ atOf L e
    · rw [toks_end he h1] at hn; cases hn
    · by_cases h2 : (nextAt L e 3).2.2 = 0
      · obtain ⟨a1, a2, a3, a4, a5, a6, a7, a8, a9⟩ := tok_facts (L := L) (e := e) (by omega) h2
        rw [toks_cons (by omega) h2] at h0 hn ⊢
        have hst : stAt L e 3 = lineWith 3 (tokAt L e 3).k (txt L (tokAt L e 3)) := rfl
        rw [hst] at h0 hn ⊢
        generalize tokAt L e 3 = t at *
        by_cases hb : t.k = 8 ∨ t.sp = true
        · have hb3 : t.k = 8 ∨ t.k = 9 ∨ t.sp = true := hb.elim .inl (fun h => .inr (.inr h))
          obtain ⟨c, s, hcs, hc⟩ := sps_head (g i) (hg i)
          refine ⟨newR L g i (t :: (toks L t.e (lineWith 3 t.k (txt L t))).1), L.drop e, ?_, ?_, ?_, ?_⟩
          · rw [runR, if_pos hb3]; rfl
          · rw [newR, if_pos hb, hcs]; exact stopW_cons hc
          · rw [runR, if_pos hb3]; rfl
          · rw [runR, if_pos hb3]; exact closed_nil
        · by_cases h9 : t.k = 9
          · rw [h9] at a7
            obtain ⟨z, hz⟩ := nextNine a7
            have hx : ∃ y, txt L t = 10 :: y := by
              cases hx : txt L t with
              | nil => exact absurd hx a8
              | cons c y =>
                rw [a5, hx, List.cons_append, List.cons.injEq] at hz
                exact ⟨y, by rw [hz.1]⟩
            obtain ⟨y, hy⟩ := hx
            refine ⟨newR L g i (t :: (toks L t.e (lineWith 3 t.k (txt L t))).1), L.drop e, ?_, ?_, ?_, ?_⟩
            · rw [runR, if_pos (.inr (.inl h9))]; rfl
            · rw [newR, if_neg hb, if_neg (by omega), hy]; exact stopW_cons (by decide)
            · rw [runR, if_pos (.inr (.inl h9))]; rfl
            · rw [runR, if_pos (.inr (.inl h9))]; exact closed_nil
          · rw [line3 h9] at h0 hn ⊢
            rw [nlEnd, if_neg (by simpa using h9)] at hn
            obtain ⟨r, v, e1, e2, e3, e4⟩ := ih t.e (by omega) a3 h0 hn (i + 1)
            have hsp : t.sp = false := by
              cases h : t.sp with
              | false => rfl
              | true => exact absurd (Or.inr h) hb
            have h8 : t.k ≠ 8 := fun h => hb (.inl h)
            have hae : t.a = e := by
              rw [a2] at hsp
              have := of_decide_eq_false hsp
              omega
            refine ⟨r, v, ?_, e2, ?_, ?_⟩
            · rw [newR, if_neg hb, if_neg h8, runR, if_neg (by rw [hsp]; simp; omega), e1, List.nil_append, List.append_assoc]
            · rw [runR, if_neg (by rw [hsp]; simp; omega), List.append_assoc, ← e3, ← a5, hae]
            · rw [runR, if_neg (by rw [hsp]; simp; omega)]
              refine closed_app (closed_tok (k := t.k) ?_ h8) e4
              have := next_take (m := (txt L t).length) a7 (nextNot7 a7) (by omega) (Nat.le_refl _)
              rw [a5, List.take_left] at this
              exact this
      · rw [toks_err (by omega) h2] at h0; exact absurd h0 h2

end Go.Proofs.Ytaodjipnffgihaa
