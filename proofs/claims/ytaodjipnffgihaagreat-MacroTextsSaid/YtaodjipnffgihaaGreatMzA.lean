/- Several texts laid together. -/


namespace Go.Proofs.YtaodjipnffgihaaGreat

/-- The byte that the trigraph with this third byte stands for. -/
def third (c : UInt8) : Option UInt8 :=
  if c = 61 then some 35 else if c = 47 then some 92 else if c = 39 then some 94 else if c = 40 then some 91 else if c = 41 then some 93
  else if c = 33 then some 124 else if c = 60 then some 123 else if c = 62 then some 125 else if c = 45 then some 126 else none

def isThird (c : UInt8) : Bool := (third c).isSome
def thirdOf (c : UInt8) : UInt8 := (third c).getD 0

/-- The trigraph with which a list begins. -/
def tri : List UInt8 → Option UInt8
  | a :: b :: c :: _ => if a = 63 ∧ b = 63 then third c else none
  | _ => none

def isTri (l : List UInt8) : Bool := (tri l).isSome
def triOf (l : List UInt8) : UInt8 := (tri l).getD 0

/-- The character with which a list that is not empty begins, as if there were no splices: its byte, its length. -/
def charB (l : List UInt8) : UInt8 := if isTri l then triOf l else l.headD 0
def charN (l : List UInt8) : Nat := if isTri l then 3 else 1

/-- Does a list begin with a splice? -/
def isSplice (l : List UInt8) : Bool := charB l == 92 && (l.drop (charN l)).head? == some 10

def partB (l : List UInt8) : UInt8 := if isSplice l then 0 else charB l
def partN (l : List UInt8) : Nat := if isSplice l then charN l + 1 else charN l

theorem charN_pos (l : List UInt8) : 0 < charN l := by unfold charN; split <;> omega
theorem partN_pos (l : List UInt8) : 0 < partN l := by unfold partN; have := charN_pos l; split <;> omega

theorem isTri_len {l : List UInt8} (h : isTri l = true) : 3 ≤ l.length := by
  match l, h with
  | [], h => simp [isTri, tri] at h
  | [_], h => simp [isTri, tri] at h
  | [_, _], h => simp [isTri, tri] at h
  | _ :: _ :: _ :: _, _ => simp

theorem charN_le {l : List UInt8} (h : l ≠ []) : charN l ≤ l.length := by
  unfold charN
  split
  · rename_i h'; exact isTri_len h'
  · cases l with
    | nil => exact absurd rfl h
    | cons a r => simp

theorem partN_le {l : List UInt8} (h : l ≠ []) : partN l ≤ l.length := by
  unfold partN
  split
  · rename_i h'
    simp only [isSplice, Bool.and_eq_true, beq_iff_eq] at h'
    have h2 := h'.2
    rcases Nat.lt_or_ge (charN l) l.length with h3 | h3
    · exact h3
    · rw [List.drop_eq_nil_of_le h3] at h2; cases h2
  · exact charN_le h

/-- A part of a text: a character, or a splice (of which the byte is 0). -/
structure Part where
  b : UInt8
  at' : Nat
  n : Nat
  sp : Bool
  deriving DecidableEq

/-- The part with which a list begins that stands at a place. -/
def partAt (l : List UInt8) (k : Nat) : Part := ⟨partB (l.drop k), k, partN (l.drop k), isSplice (l.drop k)⟩

/-- The parts of a list, from a place on. -/
def partsFrom (l : List UInt8) (k : Nat) : List Part :=
  if _h : k < l.length then partAt l k :: partsFrom l (k + partN (l.drop k)) else []
termination_by l.length - k
decreasing_by have := partN_pos (l.drop k); omega

def parts (l : List UInt8) : List Part := partsFrom l 0

end Go.Proofs.YtaodjipnffgihaaGreat

namespace Go.Proofs.YtaodjipnffgihaaGreat

def isWS (c : UInt8) : Bool := c == 32 || c == 9 || c == 11 || c == 12
def isLet (c : UInt8) : Bool := (97 ≤ c && c ≤ 122) || (65 ≤ c && c ≤ 90) || c == 95
def isDig (c : UInt8) : Bool := 48 ≤ c && c ≤ 57
def isExp (c : UInt8) : Bool := c == 101 || c == 69 || c == 112 || c == 80
def isSgn (c : UInt8) : Bool := c == 43 || c == 45
def isAln (c : UInt8) : Bool := isLet c || isDig c
def isNum (c : UInt8) : Bool := isDig c || isLet c || c == 46

/-- How many bytes at a list's beginning are of a kind. -/
def runLen (p : UInt8 → Bool) : List UInt8 → Nat
  | [] => 0
  | c :: r => if p c then runLen p r + 1 else 0

def wordLen : List UInt8 → Nat
  | [] => 0
  | c :: r => if isLet c then runLen isAln r + 1 else 0

def numTail : List UInt8 → Nat
  | [] => 0
  | [c] => if isNum c then 1 else 0
  | c :: d :: r => if isExp c && isSgn d then numTail r + 2 else if isNum c then numTail (d :: r) + 1 else 0

/-- With how many bytes a number begins: a digit, or a point and a digit. -/
def numStart : List UInt8 → Nat
  | [] => 0
  | c :: r => if isDig c then 1 else if c == 46 && (match r with | d :: _ => isDig d | [] => false) then 2 else 0

def numLen (l : List UInt8) : Nat := if numStart l = 0 then 0 else numStart l + numTail (l.drop (numStart l))

/-- How many bytes of pieces there are ahead of the closing quote. -/
def bodyLen (q : UInt8) : List UInt8 → Option Nat
  | [] => none
  | c :: r => if c == q then some 0 else if c == 10 then none else if c == 92 then
      (match r with | [] => none | d :: r' => if d == 10 then none else (bodyLen q r').map (· + 2))
    else (bodyLen q r).map (· + 1)

/-- A literal without a prefix, with at least so many pieces' bytes. -/
def litLen (q : UInt8) (f : Nat) : List UInt8 → Nat
  | [] => 0
  | c :: r => if c == q then (match bodyLen q r with | some n => if n < f then 0 else n + 2 | none => 0) else 0

def quotedLen (q : UInt8) (f : Nat) (l : List UInt8) : List (List UInt8) → Nat
  | [] => 0
  | p :: ps => if p.isPrefixOf l && litLen q f (l.drop p.length) != 0 then p.length + litLen q f (l.drop p.length) else quotedLen q f l ps

def chPre : List (List UInt8) := [[], [117], [85], [76]]
def stPre : List (List UInt8) := [[], [117, 56], [117], [85], [76]]

def puncts : List (List UInt8) := [[91], [93], [40], [41], [123], [125], [46], [45, 62], [43, 43], [45, 45], [38], [42], [43], [45], [126], [33], [47], [37], [60, 60], [62, 62], [60], [62], [60, 61], [62, 61], [61, 61], [33, 61], [94], [124], [38, 38], [124, 124], [63], [58], [59], [46, 46, 46], [61], [42, 61], [47, 61], [37, 61], [43, 61], [45, 61], [60, 60, 61], [62, 62, 61], [38, 61], [94, 61], [124, 61], [44], [35], [35, 35], [60, 58], [58, 62], [60, 37], [37, 62], [37, 58], [37, 58, 37, 58]]
def isPunctB (l : List UInt8) : Bool := puncts.contains l
def punctDown (l : List UInt8) : Nat → Nat
  | 0 => 0
  | n + 1 => if isPunctB (l.take (n + 1)) then n + 1 else punctDown l n
def punctLen (l : List UInt8) : Nat := punctDown l (min l.length 4)

def nlLen : List UInt8 → Nat
  | [] => 0
  | c :: _ => if c == 10 then 1 else 0

/-- The length of the longest token of a kind. -/
def measureOf (k : Nat) (l : List UInt8) : Nat :=
  if k = 1 then wordLen l else if k = 2 then numLen l else if k = 3 then quotedLen 39 1 l chPre else if k = 4 then quotedLen 34 0 l stPre
  else if k = 5 then punctLen l else if k = 9 then nlLen l else 0

def better (l : List UInt8) (a : Nat × Nat) (k : Nat) : Nat × Nat := if a.2 < measureOf k l then (k, measureOf k l) else a
def isQuote (c : UInt8) : Bool := c == 39 || c == 34

/-- The longest token: its kind and its length; 0, 0: none begins there. -/
def longestOf (l : List UInt8) : Nat × Nat :=
  let a := [1, 2, 3, 4, 5, 9].foldl (better l) (0, 0)
  if a.2 = 0 && !isQuote (l.headD 0) then (6, 1) else a

def closeN (q : UInt8) : List UInt8 → Option Nat
  | [] => none
  | c :: r => if c == 10 then none else if c == q then some 0 else (closeN q r).map (· + 1)
def headerLen : List UInt8 → Nat
  | [] => 0
  | c :: r => if c == 34 then (match closeN 34 r with | some n => n + 2 | none => 0) else if c == 60 then (match closeN 62 r with | some n => n + 2 | none => 0) else 0

def closeC : List UInt8 → Option Nat
  | [] => none
  | c :: r => if c == 42 && r.head? == some 47 then some 0 else (closeC r).map (· + 1)
def notNl (c : UInt8) : Bool := !(c == 10)
/-- The length of the comment that begins a list; 0: it does not end. -/
def commentLen (l : List UInt8) : Nat :=
  if [47, 47].isPrefixOf l then 2 + runLen notNl (l.drop 2) else match closeC (l.drop 2) with | some n => n + 4 | none => 0
def isComment (l : List UInt8) : Bool := [47, 42].isPrefixOf l || [47, 47].isPrefixOf l

/-- The kind and the length of the token with which a list begins, and the error if it is rejected there. -/
def nextOf (inc : Bool) (l : List UInt8) : Nat × Nat × Nat :=
  if inc && headerLen l != 0 then (7, headerLen l, 0)
  else if isComment l then (if commentLen l = 0 then (0, 0, 20) else (8, commentLen l, 0))
  else if (longestOf l).2 = 0 then (0, 0, 21) else ((longestOf l).1, (longestOf l).2, 0)

/-- What the tokens of a line are: 0 there are none, 1 the sign of a directive, 2 that and include, 3 anything else. -/
def lineWith (st : Nat) (k : Nat) (t : List UInt8) : Nat :=
  if k = 8 then st else if k = 9 then 0 else if st = 0 && (t == [35] || t == [37, 58]) then 1
  else if st = 1 && t == [105, 110, 99, 108, 117, 100, 101] then 2 else 3

/-- A token of a logical text: its kind, where it begins and ends, whether white space is ahead of it. -/
structure Tk where
  k : Nat
  a : Nat
  e : Nat
  sp : Bool
  deriving DecidableEq

def txt (l : List UInt8) (t : Tk) : List UInt8 := (l.take t.e).drop t.a

/-- The tokens from a place on, and the error with which the text is rejected (0: none). -/
def toksF : Nat → List UInt8 → Nat → Nat → List Tk × Nat
  | 0, _, _, _ => ([], 0)
  | f + 1, l, e, st =>
    let a := e + runLen isWS (l.drop e)
    if l.length ≤ a then ([], 0) else
    let x := nextOf (st == 2) (l.drop a)
    if x.2.2 ≠ 0 then ([], x.2.2) else
    let t : Tk := ⟨x.1, a, a + x.2.1, decide (e < a)⟩
    let y := toksF f l (a + x.2.1) (lineWith st x.1 (txt l t))
    (t :: y.1, y.2)

end Go.Proofs.YtaodjipnffgihaaGreat

namespace Go.Proofs.YtaodjipnffgihaaGreat

theorem runLen_le' (p : UInt8 → Bool) : ∀ l : List UInt8, runLen p l ≤ l.length
  | [] => Nat.le_refl _
  | c :: r => by
    unfold runLen
    have := runLen_le' p r
    split <;> simp <;> omega
theorem wordLen_le (l : List UInt8) : wordLen l ≤ l.length := by
  cases l with
  | nil => exact Nat.le_refl _
  | cons c r =>
    rw [wordLen]
    have := runLen_le' isAln r
    split <;> simp <;> omega
theorem numTail_le' : ∀ l : List UInt8, numTail l ≤ l.length
  | [] => Nat.le_refl _
  | [c] => by simp only [numTail]; split <;> simp
  | c :: d :: r => by
    have h1 := numTail_le' r
    have h2 := numTail_le' (d :: r)
    simp only [numTail]
    simp only [List.length_cons] at *
    split
    · omega
    · split <;> omega
theorem numStart_le (l : List UInt8) : numStart l ≤ l.length := by
  match l with
  | [] => simp [numStart]
  | [c] => simp only [numStart]; split <;> simp
  | c :: d :: r => simp only [numStart]; split <;> (try split) <;> simp
theorem numLen_le' (l : List UInt8) : numLen l ≤ l.length := by
  unfold numLen
  split
  · omega
  · have h := numTail_le' (l.drop (numStart l))
    have := numStart_le l
    rw [List.length_drop] at h
    omega
theorem bodyLen_eq (q c : UInt8) (r : List UInt8) : bodyLen q (c :: r) = if c == q then some 0 else if c == 10 then none else if c == 92 then
      (match r with | [] => none | d :: r' => if d == 10 then none else (bodyLen q r').map (· + 2))
    else (bodyLen q r).map (· + 1) := by
  cases r <;> simp [bodyLen]
theorem bodyLen_lt (q : UInt8) : ∀ (m : Nat) (l : List UInt8), l.length ≤ m → ∀ n, bodyLen q l = some n → n + 1 ≤ l.length := by
  intro m
  induction m with
  | zero => intro l hl n h; rw [List.length_eq_zero_iff.1 (Nat.le_zero.1 hl)] at h; simp [bodyLen] at h
  | succ m ih =>
    intro l hl n h
    cases l with
    | nil => simp [bodyLen] at h
    | cons c r =>
      rw [bodyLen_eq] at h
      simp only [List.length_cons] at hl ⊢
      split at h
      · cases h; omega
      · split at h
        · cases h
        · split at h
          · cases r with
            | nil => cases h
            | cons d r' =>
              simp only at h
              split at h
              · cases h
              · cases hb : bodyLen q r' with
                | none => rw [hb] at h; cases h
                | some k =>
                  rw [hb] at h
                  simp only [List.length_cons] at hl ⊢
                  have := ih r' (by omega) k hb
                  simp only [Option.map_some, Option.some.injEq] at h
                  omega
          · cases hb : bodyLen q r with
            | none => rw [hb] at h; cases h
            | some k =>
              rw [hb] at h
              have := ih r (by omega) k hb
              simp only [Option.map_some, Option.some.injEq] at h
              omega
theorem litLen_le (q : UInt8) (f : Nat) (l : List UInt8) : litLen q f l ≤ l.length := by
  cases l with
  | nil => exact Nat.le_refl _
  | cons c r =>
    rw [litLen]
    split
    · cases hb : bodyLen q r with
      | none => simp
      | some n =>
        have := bodyLen_lt q _ r (Nat.le_refl _) n hb
        simp only [List.length_cons]
        split <;> omega
    · simp
theorem quotedLen_le (q : UInt8) (f : Nat) (l : List UInt8) : ∀ ps : List (List UInt8), quotedLen q f l ps ≤ l.length
  | [] => Nat.zero_le _
  | p :: ps => by
    rw [quotedLen]
    split
    · rename_i h
      rw [Bool.and_eq_true] at h
      have h2 := (List.isPrefixOf_iff_prefix.1 h.1).length_le
      have h3 := litLen_le q f (l.drop p.length)
      rw [List.length_drop] at h3
      omega
    · exact quotedLen_le q f l ps
theorem punctDown_le (l : List UInt8) : ∀ n, punctDown l n ≤ n
  | 0 => Nat.le_refl _
  | n + 1 => by
    rw [punctDown]
    have := punctDown_le l n
    split <;> omega
theorem punctLen_le (l : List UInt8) : punctLen l ≤ l.length := by
  have := punctDown_le l (min l.length 4)
  unfold punctLen
  omega
theorem nlLen_le (l : List UInt8) : nlLen l ≤ l.length := by
  cases l with
  | nil => exact Nat.le_refl _
  | cons c r => rw [nlLen]; split <;> simp
theorem measure_le (k : Nat) (l : List UInt8) : measureOf k l ≤ l.length := by
  unfold measureOf
  split
  · exact wordLen_le l
  · split
    · exact numLen_le' l
    · split
      · exact quotedLen_le _ _ l _
      · split
        · exact quotedLen_le _ _ l _
        · split
          · exact punctLen_le l
          · split
            · exact nlLen_le l
            · exact Nat.zero_le _
theorem fold_le (l : List UInt8) : ∀ (ks : List Nat) (a : Nat × Nat), a.2 ≤ l.length → (ks.foldl (better l) a).2 ≤ l.length
  | [], _, h => h
  | k :: ks, a, h => fold_le l ks _ (by
    unfold better
    split
    · exact measure_le k l
    · exact h)
theorem longest_le {l : List UInt8} (h : l ≠ []) : (longestOf l).2 ≤ l.length := by
  unfold longestOf
  have h1 : 0 < l.length := List.length_pos_iff.2 h
  have h2 := fold_le l [1, 2, 3, 4, 5, 9] (0, 0) (Nat.zero_le _)
  simp only
  split
  · exact h1
  · exact h2
theorem closeN_lt (q : UInt8) : ∀ (l : List UInt8) {n : Nat}, closeN q l = some n → n + 1 ≤ l.length
  | [], _, h => by simp [closeN] at h
  | c :: r, n, h => by
    rw [closeN] at h
    split at h
    · cases h
    · split at h
      · cases h; simp
      · cases hr : closeN q r with
        | none => rw [hr] at h; simp at h
        | some m =>
          rw [hr] at h
          have := closeN_lt q r hr
          simp at h
          simp; omega
theorem headerLen_le (l : List UInt8) : headerLen l ≤ l.length := by
  cases l with
  | nil => exact Nat.le_refl _
  | cons c r =>
    rw [headerLen]
    have h := fun q n (h : closeN q r = some n) => closeN_lt q r h
    simp only [List.length_cons]
    split
    · cases hc : closeN 34 r with
      | none => simp
      | some n => have := h 34 n hc; simp only; omega
    · split
      · cases hc : closeN 62 r with
        | none => simp
        | some n => have := h 62 n hc; simp only; omega
      · omega
theorem closeC_lt : ∀ (l : List UInt8) {n : Nat}, closeC l = some n → n + 2 ≤ l.length
  | [], n, h => by simp [closeC] at h
  | c :: r, n, h => by
    rw [closeC] at h
    split at h
    · rename_i hc
      cases h
      cases r with
      | nil => simp at hc
      | cons d r => simp
    · cases hr : closeC r with
      | none => rw [hr] at h; simp at h
      | some m =>
        rw [hr] at h
        have := closeC_lt r hr
        simp at h
        simp; omega
theorem commentLen_le {l : List UInt8} (h : isComment l = true) : commentLen l ≤ l.length := by
  have h2 : 2 ≤ l.length := by
    rw [isComment, Bool.or_eq_true] at h
    rcases h with h | h <;> exact (List.isPrefixOf_iff_prefix.1 h).length_le
  unfold commentLen
  split
  · have := runLen_le' notNl (l.drop 2)
    rw [List.length_drop] at this
    omega
  · cases hc : closeC (l.drop 2) with
    | none => simp
    | some n =>
      have := closeC_lt _ hc
      rw [List.length_drop] at this
      simp only; omega

/-- A token has at least one byte, and no more than there are. -/
theorem next_len {inc : Bool} {l : List UInt8} (h : l ≠ []) (he : (nextOf inc l).2.2 = 0) : 1 ≤ (nextOf inc l).2.1 ∧ (nextOf inc l).2.1 ≤ l.length := by
  unfold nextOf at he ⊢
  split
  · rename_i h1
    rw [Bool.and_eq_true] at h1
    have := headerLen_le l
    have h2 := h1.2
    simp only [bne_iff_ne, ne_eq] at h2
    exact ⟨by simp only; omega, this⟩
  · rename_i h1
    rw [if_neg h1] at he
    split
    · rename_i h2
      rw [if_pos h2] at he
      split
      · rename_i h3
        rw [if_pos h3] at he
        simp at he
      · exact ⟨by simp only; omega, commentLen_le h2⟩
    · rename_i h2
      rw [if_neg h2] at he
      split
      · rename_i h3
        rw [if_pos h3] at he
        simp at he
      · exact ⟨by simp only; omega, longest_le h⟩

/-! ### The tokens, step by step -/

/-- Where the next token begins behind a place. -/
def atOf (l : List UInt8) (e : Nat) : Nat := e + runLen isWS (l.drop e)
theorem atOf_le {l : List UInt8} {e : Nat} (h : e ≤ l.length) : atOf l e ≤ l.length := by
  unfold atOf
  have := runLen_le' isWS (l.drop e)
  rw [List.length_drop] at this
  omega
theorem atOf_ge (l : List UInt8) (e : Nat) : e ≤ atOf l e := Nat.le_add_right _ _

def nextAt (l : List UInt8) (e st : Nat) : Nat × Nat × Nat := nextOf (st == 2) (l.drop (atOf l e))
/-- The token behind a place, where there is one. -/
def tokAt (l : List UInt8) (e st : Nat) : Tk := ⟨(nextAt l e st).1, atOf l e, atOf l e + (nextAt l e st).2.1, decide (e < atOf l e)⟩
def stAt (l : List UInt8) (e st : Nat) : Nat := lineWith st (nextAt l e st).1 (txt l (tokAt l e st))

theorem toksF_step (f : Nat) (l : List UInt8) (e st : Nat) : toksF (f + 1) l e st = if l.length ≤ atOf l e then ([], 0) else if (nextAt l e st).2.2 ≠ 0 then ([], (nextAt l e st).2.2) else
    (tokAt l e st :: (toksF f l (atOf l e + (nextAt l e st).2.1) (stAt l e st)).1, (toksF f l (atOf l e + (nextAt l e st).2.1) (stAt l e st)).2) := rfl

theorem nextAt_len {l : List UInt8} {e st : Nat} (h : atOf l e < l.length) (he : (nextAt l e st).2.2 = 0) : 1 ≤ (nextAt l e st).2.1 ∧ atOf l e + (nextAt l e st).2.1 ≤ l.length := by
  have hne : l.drop (atOf l e) ≠ [] := fun h2 => by have := List.drop_eq_nil_iff.1 h2; omega
  have := next_len hne he
  rw [List.length_drop] at this
  unfold nextAt
  omega

theorem toksF_fuel (l : List UInt8) : ∀ (f g e st : Nat), l.length + 1 ≤ f + e → l.length + 1 ≤ g + e → e ≤ l.length → toksF f l e st = toksF g l e st := by
  intro f
  induction f with
  | zero => intro g e st h1 _ h3; omega
  | succ f ih =>
    intro g e st h1 h2 h3
    cases g with
    | zero => omega
    | succ g =>
      rw [toksF_step, toksF_step]
      by_cases h4 : l.length ≤ atOf l e
      · rw [if_pos h4, if_pos h4]
      · rw [if_neg h4, if_neg h4]
        by_cases h5 : (nextAt l e st).2.2 ≠ 0
        · rw [if_pos h5, if_pos h5]
        · rw [if_neg h5, if_neg h5]
          have h6 := nextAt_len (by omega) (Classical.byContradiction h5)
          have h7 := atOf_ge l e
          rw [ih g _ _ (by omega) (by omega) h6.2]

/-- The tokens behind a place. -/
def toks (l : List UInt8) (e st : Nat) : List Tk × Nat := toksF (l.length + 1 - e) l e st
theorem toks_end {l : List UInt8} {e st : Nat} (he : e ≤ l.length) (h : l.length ≤ atOf l e) : toks l e st = ([], 0) := by
  unfold toks
  rw [show l.length + 1 - e = (l.length - e) + 1 by omega, toksF_step, if_pos h]
theorem toks_err {l : List UInt8} {e st : Nat} (h : atOf l e < l.length) (h2 : (nextAt l e st).2.2 ≠ 0) : toks l e st = ([], (nextAt l e st).2.2) := by
  have := atOf_ge l e
  unfold toks
  rw [show l.length + 1 - e = (l.length - e) + 1 by omega, toksF_step, if_neg (by omega), if_pos h2]
theorem toks_cons {l : List UInt8} {e st : Nat} (h : atOf l e < l.length) (h2 : (nextAt l e st).2.2 = 0) :
    toks l e st = (tokAt l e st :: (toks l (tokAt l e st).e (stAt l e st)).1, (toks l (tokAt l e st).e (stAt l e st)).2) := by
  have h3 := atOf_ge l e
  have h4 := nextAt_len h h2
  unfold toks
  rw [show l.length + 1 - e = (l.length - e) + 1 by omega, toksF_step, if_neg (by omega), if_neg (by rw [h2]; decide)]
  have h5 : (tokAt l e st).e = atOf l e + (nextAt l e st).2.1 := rfl
  rw [h5, toksF_fuel l (l.length - e) (l.length + 1 - (atOf l e + (nextAt l e st).2.1)) _ _ (by omega) (by omega) h4.2]

theorem lineWith_le {st k : Nat} {t : List UInt8} (h : st ≤ 3) : lineWith st k t ≤ 3 := by
  unfold lineWith
  split
  · exact h
  · split
    · omega
    · split
      · omega
      · split <;> omega
theorem fold_kind (l : List UInt8) : ∀ (ks : List Nat) (a : Nat × Nat), (∀ k ∈ ks, k ≤ 9) → a.1 ≤ 9 → (ks.foldl (better l) a).1 ≤ 9
  | [], _, _, h => h
  | k :: ks, a, hk, h => fold_kind l ks _ (fun j hj => hk j (List.mem_cons_of_mem _ hj)) (by
    unfold better
    split
    · exact hk k List.mem_cons_self
    · exact h)
theorem nextOf_kind (inc : Bool) (l : List UInt8) : (nextOf inc l).1 ≤ 9 := by
  have h2 := fold_kind l [1, 2, 3, 4, 5, 9] (0, 0) (by decide) (Nat.zero_le _)
  have h3 : (longestOf l).1 ≤ 9 := by
    unfold longestOf
    simp only
    split
    · decide
    · exact h2
  unfold nextOf
  split
  · exact (by decide : 7 ≤ 9)
  · split
    · split
      · exact (by decide : 0 ≤ 9)
      · exact (by decide : 8 ≤ 9)
    · split
      · exact (by decide : 0 ≤ 9)
      · exact h3

/-- All tokens lie within the text. -/
theorem toks_within {l : List UInt8} : ∀ (m e st : Nat), l.length - e ≤ m → e ≤ l.length → ∀ t ∈ (toks l e st).1, e ≤ t.a ∧ t.a < t.e ∧ t.e ≤ l.length ∧ t.k ≤ 9 := by
  intro m
  induction m with
  | zero =>
    intro e st hm he t ht
    have := atOf_ge l e
    rw [toks_end he (by omega)] at ht
    simp at ht
  | succ m ih =>
    intro e st hm he t ht
    have hg := atOf_ge l e
    by_cases h1 : l.length ≤ atOf l e
    · rw [toks_end he h1] at ht; simp at ht
    · by_cases h2 : (nextAt l e st).2.2 = 0
      · rw [toks_cons (by omega) h2] at ht
        have h3 := nextAt_len (by omega) h2
        have h5 : (tokAt l e st).e = atOf l e + (nextAt l e st).2.1 := rfl
        rcases List.mem_cons.1 ht with rfl | ht
        · exact ⟨hg, by rw [h5]; show atOf l e < _; omega, by rw [h5]; exact h3.2, nextOf_kind _ _⟩
        · have := ih _ _ (by rw [h5]; omega) (by rw [h5]; exact h3.2) t ht
          rw [h5] at this
          exact ⟨by omega, this.2⟩
      · rw [toks_err (by omega) h2] at ht; simp at ht
end Go.Proofs.YtaodjipnffgihaaGreat

namespace Go.Proofs.YtaodjipnffgihaaGreat

def partsFuel : Nat → List UInt8 → Nat → List Part
  | 0, _, _ => []
  | f + 1, l, k => if k < l.length then partAt l k :: partsFuel f l (k + partN (l.drop k)) else []

end Go.Proofs.YtaodjipnffgihaaGreat

namespace Go.Proofs.YtaodjipnffgihaaGreat

theorem runLen_take (p : UInt8 → Bool) : ∀ (l : List UInt8) (m : Nat), runLen p (l.take m) = min (runLen p l) m
  | [], m => by simp [runLen]
  | c :: r, 0 => by simp [runLen]
  | c :: r, m + 1 => by
    rw [List.take_succ_cons, runLen, runLen, runLen_take p r m]
    split <;> omega
theorem wordLen_take {l : List UInt8} {m : Nat} (h : wordLen l ≤ m) : wordLen (l.take m) = wordLen l := by
  cases l with
  | nil => simp
  | cons c r =>
    cases m with
    | zero =>
      have : wordLen (c :: r) = 0 := by omega
      rw [this]; rfl
    | succ m =>
      rw [wordLen] at h
      rw [List.take_succ_cons, wordLen, wordLen, runLen_take]
      split
      · rename_i hc
        rw [if_pos hc] at h
        omega
      · rfl
theorem numTail_three (c d : UInt8) (r : List UInt8) : numTail (c :: d :: r) = if isExp c && isSgn d then numTail r + 2 else if isNum c then numTail (d :: r) + 1 else 0 := by
  simp only [numTail]
theorem numTail_take : ∀ (l : List UInt8) (m : Nat), numTail l ≤ m → numTail (l.take m) = numTail l
  | [], m, _ => by simp
  | [c], m, h => by
    cases m with
    | zero =>
      have : numTail [c] = 0 := by omega
      rw [this]; rfl
    | succ m => simp
  | c :: d :: r, m, h => by
    rw [numTail_three] at h ⊢
    by_cases h1 : (isExp c && isSgn d) = true
    · rw [if_pos h1] at h ⊢
      obtain ⟨m', rfl⟩ : ∃ m', m = m' + 2 := ⟨m - 2, by omega⟩
      rw [show m' + 2 = m' + 1 + 1 by omega, List.take_succ_cons, List.take_succ_cons, numTail_three, if_pos h1, numTail_take r m' (by omega)]
    · rw [if_neg h1] at h ⊢
      by_cases h2 : isNum c = true
      · rw [if_pos h2] at h ⊢
        obtain ⟨m', rfl⟩ : ∃ m', m = m' + 1 := ⟨m - 1, by omega⟩
        have ih := numTail_take (d :: r) m' (by omega)
        cases m' with
        | zero =>
          rw [List.take_succ_cons, List.take_zero]
          have : numTail (d :: r) = 0 := by omega
          rw [this]
          simp only [numTail]
          rw [if_pos h2]
        | succ m'' =>
          rw [List.take_succ_cons] at ih
          rw [List.take_succ_cons, List.take_succ_cons, numTail_three, if_neg h1, if_pos h2, ih]
      · rw [if_neg h2] at h ⊢
        match m with
        | 0 => rfl
        | 1 =>
          rw [List.take_succ_cons, List.take_zero]
          simp only [numTail]
          rw [if_neg h2]
        | m + 2 => rw [show m + 2 = m + 1 + 1 by omega, List.take_succ_cons, List.take_succ_cons, numTail_three, if_neg h1, if_neg h2]
theorem numStart_take {l : List UInt8} {m : Nat} (h : numStart l ≤ m) : numStart (l.take m) = numStart l := by
  match l, m with
  | [], m => simp
  | c :: r, 0 =>
    have : numStart (c :: r) = 0 := by omega
    rw [this]; rfl
  | [c], m + 1 => simp
  | c :: d :: r, 1 =>
    rw [List.take_succ_cons, List.take_zero]
    simp only [numStart] at h ⊢
    by_cases hc : isDig c = true
    · rw [if_pos hc, if_pos hc]
    · rw [if_neg hc] at h
      rw [if_neg hc, if_neg hc, if_neg (by simp)]
      by_cases h2 : (c == 46 && isDig d) = true
      · rw [if_pos h2] at h; omega
      · rw [if_neg h2]
  | c :: d :: r, m + 2 => rw [show m + 2 = m + 1 + 1 by omega, List.take_succ_cons, List.take_succ_cons]; simp only [numStart]
theorem numLen_take {l : List UInt8} {m : Nat} (h : numLen l ≤ m) : numLen (l.take m) = numLen l := by
  unfold numLen at h ⊢
  by_cases h0 : numStart l = 0
  · have h1 := numStart_take (l := l) (m := m) (by omega)
    rw [if_pos h0, if_pos (by rw [h1]; exact h0)]
  · rw [if_neg h0] at h
    have h1 := numStart_take (l := l) (m := m) (by omega)
    rw [if_neg h0, if_neg (by rw [h1]; exact h0), h1, List.drop_take, numTail_take _ _ (by omega)]

theorem bodyLen_take (q : UInt8) : ∀ (k : Nat) (l : List UInt8), l.length ≤ k → ∀ (m i : Nat), bodyLen q l = some i → i + 1 ≤ m → bodyLen q (l.take m) = some i := by
  intro k
  induction k with
  | zero => intro l hl m i h; rw [List.length_eq_zero_iff.1 (Nat.le_zero.1 hl)] at h; simp [bodyLen] at h
  | succ k ih =>
    intro l hl m i h hm
    cases l with
    | nil => simp [bodyLen] at h
    | cons c r =>
      simp only [List.length_cons] at hl
      obtain ⟨m', rfl⟩ : ∃ m', m = m' + 1 := ⟨m - 1, by omega⟩
      rw [List.take_succ_cons, bodyLen_eq] 
      rw [bodyLen_eq] at h
      by_cases h1 : (c == q) = true
      · rw [if_pos h1] at h ⊢; exact h
      · rw [if_neg h1] at h ⊢
        by_cases h2 : (c == 10) = true
        · rw [if_pos h2] at h; cases h
        · rw [if_neg h2] at h ⊢
          by_cases h3 : (c == 92) = true
          · rw [if_pos h3] at h ⊢
            cases r with
            | nil => cases h
            | cons d r' =>
              simp only at h
              by_cases h4 : (d == 10) = true
              · rw [if_pos h4] at h; cases h
              · rw [if_neg h4] at h
                cases hb : bodyLen q r' with
                | none => rw [hb] at h; cases h
                | some j =>
                  rw [hb] at h
                  simp only [Option.map_some, Option.some.injEq] at h
                  simp only [List.length_cons] at hl
                  obtain ⟨m'', rfl⟩ : ∃ m'', m' = m'' + 1 := ⟨m' - 1, by omega⟩
                  rw [List.take_succ_cons]
                  simp only
                  rw [if_neg h4, ih r' (by omega) m'' j hb (by omega)]
                  simp only [Option.map_some, Option.some.injEq]
                  exact h
          · rw [if_neg h3] at h ⊢
            cases hb : bodyLen q r with
            | none => rw [hb] at h; cases h
            | some j =>
              rw [hb] at h
              simp only [Option.map_some, Option.some.injEq] at h
              rw [ih r (by omega) m' j hb (by omega)]
              simp only [Option.map_some, Option.some.injEq]
              exact h
theorem bodyLen_untake (q : UInt8) : ∀ (k : Nat) (l : List UInt8), l.length ≤ k → ∀ (m i : Nat), bodyLen q (l.take m) = some i → bodyLen q l = some i := by
  intro k
  induction k with
  | zero => intro l hl m i h; rw [List.length_eq_zero_iff.1 (Nat.le_zero.1 hl)] at h; simp [bodyLen] at h
  | succ k ih =>
    intro l hl m i h
    cases l with
    | nil => simp [bodyLen] at h
    | cons c r =>
      simp only [List.length_cons] at hl
      cases m with
      | zero => simp [bodyLen] at h
      | succ m' =>
        rw [List.take_succ_cons, bodyLen_eq] at h
        rw [bodyLen_eq]
        by_cases h1 : (c == q) = true
        · rw [if_pos h1] at h ⊢; exact h
        · rw [if_neg h1] at h ⊢
          by_cases h2 : (c == 10) = true
          · rw [if_pos h2] at h; cases h
          · rw [if_neg h2] at h ⊢
            by_cases h3 : (c == 92) = true
            · rw [if_pos h3] at h ⊢
              cases r with
              | nil => simp at h
              | cons d r' =>
                cases m' with
                | zero => simp at h
                | succ m'' =>
                  rw [List.take_succ_cons] at h
                  simp only at h ⊢
                  simp only [List.length_cons] at hl
                  by_cases h4 : (d == 10) = true
                  · rw [if_pos h4] at h; cases h
                  · rw [if_neg h4] at h ⊢
                    cases hb : bodyLen q (r'.take m'') with
                    | none => rw [hb] at h; cases h
                    | some j =>
                      rw [hb] at h
                      rw [ih r' (by omega) m'' j hb]
                      exact h
            · rw [if_neg h3] at h ⊢
              cases hb : bodyLen q (r.take m') with
              | none => rw [hb] at h; cases h
              | some j =>
                rw [hb] at h
                rw [ih r (by omega) m' j hb]
                exact h
theorem litLen_take {q : UInt8} {f : Nat} {l : List UInt8} {m : Nat} (h : litLen q f l ≤ m) : litLen q f (l.take m) = litLen q f l := by
  cases l with
  | nil => simp
  | cons c r =>
    cases m with
    | zero =>
      have : litLen q f (c :: r) = 0 := by omega
      rw [this]; rfl
    | succ m =>
      rw [litLen] at h
      rw [List.take_succ_cons, litLen, litLen]
      by_cases hc : (c == q) = true
      · rw [if_pos hc] at h ⊢
        rw [if_pos hc]
        cases hb : bodyLen q r with
        | none =>
          cases hb2 : bodyLen q (r.take m) with
          | none => rfl
          | some j => rw [bodyLen_untake q _ r (Nat.le_refl _) m j hb2] at hb; cases hb
        | some i =>
          rw [hb] at h
          simp only at h ⊢
          by_cases hf : i < f
          · rw [if_pos hf]
            cases hb2 : bodyLen q (r.take m) with
            | none => rfl
            | some j =>
              rw [bodyLen_untake q _ r (Nat.le_refl _) m j hb2] at hb
              cases hb
              simp only
              rw [if_pos hf]
          · rw [if_neg hf] at h ⊢
            rw [bodyLen_take q _ r (Nat.le_refl _) m i hb (by omega)]
            simp only
            rw [if_neg hf]
      · rw [if_neg hc, if_neg hc]
theorem litLen_zero {q : UInt8} {f : Nat} {l : List UInt8} (m : Nat) (h : litLen q f l = 0) : litLen q f (l.take m) = 0 := by
  rw [litLen_take (by omega)]; exact h
theorem isPrefixOf_take {p l : List UInt8} {m : Nat} (h : p.length ≤ m) : p.isPrefixOf (l.take m) = p.isPrefixOf l := by
  rw [Bool.eq_iff_iff, List.isPrefixOf_iff_prefix, List.isPrefixOf_iff_prefix]
  constructor
  · rintro ⟨t, ht⟩
    exact ⟨t ++ l.drop m, by rw [← List.append_assoc, ht, List.take_append_drop]⟩
  · rintro ⟨t, rfl⟩
    refine ⟨t.take (m - p.length), ?_⟩
    rw [List.take_append, List.take_of_length_le h]
theorem isPrefixOf_take_false {p l : List UInt8} (m : Nat) (h : p.isPrefixOf l = false) : p.isPrefixOf (l.take m) = false := by
  cases h2 : p.isPrefixOf (l.take m) with
  | false => rfl
  | true =>
    obtain ⟨t, ht⟩ := List.isPrefixOf_iff_prefix.1 h2
    have : p.isPrefixOf l = true := List.isPrefixOf_iff_prefix.2 ⟨t ++ l.drop m, by rw [← List.append_assoc, ht, List.take_append_drop]⟩
    rw [this] at h; cases h

theorem quotedLen_take {q : UInt8} {f : Nat} {l : List UInt8} {m : Nat} : ∀ (ps : List (List UInt8)), quotedLen q f l ps ≤ m → quotedLen q f (l.take m) ps = quotedLen q f l ps
  | [], _ => rfl
  | p :: ps, h => by
    rw [quotedLen] at h
    rw [quotedLen, quotedLen]
    by_cases h1 : (p.isPrefixOf l && litLen q f (l.drop p.length) != 0) = true
    · rw [if_pos h1] at h
      have h2 := h1
      rw [Bool.and_eq_true] at h2
      have hl : litLen q f ((l.take m).drop p.length) = litLen q f (l.drop p.length) := by
        rw [List.drop_take]; exact litLen_take (by omega)
      rw [if_pos h1, hl, if_pos]
      rw [isPrefixOf_take (by omega)]
      exact h1
    · rw [if_neg h1] at h ⊢
      have hn : ¬ (p.isPrefixOf (l.take m) && litLen q f ((l.take m).drop p.length) != 0) = true := by
        intro h2
        rw [Bool.and_eq_true] at h2
        cases hp : p.isPrefixOf l with
        | false => rw [isPrefixOf_take_false m hp] at h2; cases h2.1
        | true =>
          rw [hp, Bool.true_and] at h1
          have hz : litLen q f (l.drop p.length) = 0 := by simpa using h1
          rw [List.drop_take, litLen_zero _ hz] at h2
          cases h2.2
      rw [if_neg hn]
      exact quotedLen_take ps h
theorem punctDown_take {l : List UInt8} {m : Nat} : ∀ n, n ≤ m → punctDown (l.take m) n = punctDown l n
  | 0, _ => rfl
  | n + 1, h => by
    rw [punctDown, punctDown, List.take_take, Nat.min_eq_left h, punctDown_take n (by omega)]
theorem punctDown_cut {l : List UInt8} : ∀ (n k : Nat), punctDown l n ≤ k → k ≤ n → punctDown l k = punctDown l n
  | 0, k, _, hk => by rw [Nat.le_zero.1 hk]
  | n + 1, k, h, hk => by
    by_cases he : k = n + 1
    · rw [he]
    · rw [punctDown] at h ⊢
      by_cases hp : isPunctB (l.take (n + 1)) = true
      · rw [if_pos hp] at h; omega
      · rw [if_neg hp] at h ⊢
        exact punctDown_cut n k h (by omega)
theorem punctLen_take {l : List UInt8} {m : Nat} (h : punctLen l ≤ m) : punctLen (l.take m) = punctLen l := by
  unfold punctLen at h ⊢
  rw [List.length_take, punctDown_take _ (by omega)]
  by_cases hm : min l.length 4 ≤ m
  · rw [show min (min m l.length) 4 = min l.length 4 by omega]
  · rw [show min (min m l.length) 4 = m by omega]
    exact punctDown_cut _ _ h (by omega)
theorem nlLen_take {l : List UInt8} {m : Nat} (h : nlLen l ≤ m) : nlLen (l.take m) = nlLen l := by
  cases l with
  | nil => simp
  | cons c r =>
    cases m with
    | zero =>
      have : nlLen (c :: r) = 0 := by omega
      rw [this]; rfl
    | succ m => rfl
theorem measure_take {k : Nat} {l : List UInt8} {m : Nat} (h : measureOf k l ≤ m) : measureOf k (l.take m) = measureOf k l := by
  unfold measureOf at h ⊢
  by_cases h1 : k = 1
  · rw [if_pos h1] at h ⊢; rw [if_pos h1]; exact wordLen_take h
  · rw [if_neg h1] at h ⊢; rw [if_neg h1]
    by_cases h2 : k = 2
    · rw [if_pos h2] at h ⊢; rw [if_pos h2]; exact numLen_take h
    · rw [if_neg h2] at h ⊢; rw [if_neg h2]
      by_cases h3 : k = 3
      · rw [if_pos h3] at h ⊢; rw [if_pos h3]; exact quotedLen_take _ h
      · rw [if_neg h3] at h ⊢; rw [if_neg h3]
        by_cases h4 : k = 4
        · rw [if_pos h4] at h ⊢; rw [if_pos h4]; exact quotedLen_take _ h
        · rw [if_neg h4] at h ⊢; rw [if_neg h4]
          by_cases h5 : k = 5
          · rw [if_pos h5] at h ⊢; rw [if_pos h5]; exact punctLen_take h
          · rw [if_neg h5] at h ⊢; rw [if_neg h5]
            by_cases h9 : k = 9
            · rw [if_pos h9] at h ⊢; rw [if_pos h9]; exact nlLen_take h
            · rw [if_neg h9, if_neg h9]

/-! ### The longest token -/

theorem better_ge (l : List UInt8) (a : Nat × Nat) (k : Nat) : a.2 ≤ (better l a k).2 ∧ measureOf k l ≤ (better l a k).2 := by
  unfold better
  split
  · exact ⟨by simp only; omega, Nat.le_refl _⟩
  · exact ⟨Nat.le_refl _, by omega⟩
theorem fold_ge (l : List UInt8) : ∀ (ks : List Nat) (a : Nat × Nat), a.2 ≤ (ks.foldl (better l) a).2 ∧ ∀ k ∈ ks, measureOf k l ≤ (ks.foldl (better l) a).2
  | [], a => ⟨Nat.le_refl _, fun _ h => by cases h⟩
  | k :: ks, a => by
    obtain ⟨h1, h2⟩ := fold_ge l ks (better l a k)
    obtain ⟨h3, h4⟩ := better_ge l a k
    refine ⟨Nat.le_trans h3 h1, fun j hj => ?_⟩
    rcases List.mem_cons.1 hj with rfl | hj
    · exact Nat.le_trans h4 h1
    · exact h2 j hj
theorem fold_congr {l l' : List UInt8} : ∀ (ks : List Nat) (a : Nat × Nat), (∀ k ∈ ks, measureOf k l' = measureOf k l) → ks.foldl (better l') a = ks.foldl (better l) a
  | [], _, _ => rfl
  | k :: ks, a, h => by
    have h1 : better l' a k = better l a k := by unfold better; rw [h k List.mem_cons_self]
    rw [List.foldl_cons, List.foldl_cons, h1]
    exact fold_congr ks _ (fun j hj => h j (List.mem_cons_of_mem _ hj))
def kinds6 : List Nat := [1, 2, 3, 4, 5, 9]
theorem longest_congr {l l' : List UInt8} (h : ∀ k ∈ kinds6, measureOf k l' = measureOf k l) (hh : l'.headD 0 = l.headD 0) : longestOf l' = longestOf l := by
  unfold longestOf
  rw [fold_congr [1, 2, 3, 4, 5, 9] (0, 0) h, hh]
end Go.Proofs.YtaodjipnffgihaaGreat

namespace Go.Proofs.YtaodjipnffgihaaGreat

/-- What follows is nothing, or begins with a blank or a line's end. -/
def Stops (r : List UInt8) : Prop := ∀ c s, r = c :: s → c = 32 ∨ c = 10

theorem numTail_stop {r : List UInt8} (hr : Stops r) : numTail r = 0 := by
  match r, hr with
  | [], _ => rfl
  | [c], hr => rcases hr c [] rfl with rfl | rfl <;> rfl
  | c :: d :: s, hr =>
    rw [numTail_three]
    rcases hr c _ rfl with rfl | rfl <;> rfl
theorem numTail_ext {r : List UInt8} (hr : Stops r) : ∀ (m : Nat) (x : List UInt8), x.length ≤ m → numTail (x ++ r) = numTail x := by
  intro m
  induction m with
  | zero =>
    intro x hx
    have : x = [] := List.length_eq_zero_iff.1 (by omega)
    subst this
    exact numTail_stop hr
  | succ m ih =>
    intro x hx
    match x, hx with
    | [], _ => exact numTail_stop hr
    | [c], _ =>
      cases r with
      | nil => rfl
      | cons d s =>
        show numTail (c :: d :: s) = _
        rw [numTail_three, numTail_stop hr]
        have hd : isSgn d = false := by rcases hr d s rfl with rfl | rfl <;> rfl
        rw [hd, Bool.and_false, if_neg (by decide)]
        rfl
    | c :: d :: x, hx =>
      simp only [List.length_cons] at hx
      rw [List.cons_append, List.cons_append, numTail_three, numTail_three, ih x (by omega)]
      have := ih (d :: x) (by simp; omega)
      rw [List.cons_append] at this
      rw [this]
theorem numStart_ext {r : List UInt8} (hr : Stops r) (x : List UInt8) (hx : x ≠ []) : numStart (x ++ r) = numStart x := by
  match x, hx with
  | [c], _ =>
    cases r with
    | nil => rfl
    | cons d s =>
      show numStart (c :: d :: s) = numStart [c]
      have hd : isDig d = false := by rcases hr d s rfl with rfl | rfl <;> rfl
      simp only [numStart, hd]
  | c :: d :: x, _ => rfl
theorem puncts_stop : ∀ p ∈ puncts, ∀ c ∈ p, c ≠ 32 ∧ c ≠ 10 := by decide +kernel
theorem punctDown_stop {c : UInt8} {s : List UInt8} (hc : c = 32 ∨ c = 10) (x : List UInt8) : ∀ n, punctDown (x ++ c :: s) n ≤ x.length
  | 0 => Nat.zero_le _
  | n + 1 => by
    rw [punctDown]
    split
    · rename_i hp
      refine Nat.le_of_not_lt (fun h => ?_)
      unfold isPunctB at hp
      have hm := List.contains_iff_mem.1 hp
      have hcm : c ∈ (x ++ c :: s).take (n + 1) := by
        rw [List.take_append, List.mem_append]
        right
        obtain ⟨k, hk⟩ : ∃ k, n + 1 - x.length = k + 1 := ⟨n - x.length, by omega⟩
        rw [hk, List.take_succ_cons]
        exact List.mem_cons_self
      have := puncts_stop _ hm c hcm
      rcases hc with h | h
      · exact this.1 h
      · exact this.2 h
    · exact punctDown_stop hc x n
/-- Where the body of a literal ends, and it is not in what follows. -/
theorem bodyLen_app (q : UInt8) : ∀ (m : Nat) (l : List UInt8), l.length ≤ m → ∀ (r : List UInt8) (n : Nat), bodyLen q l = some n → bodyLen q (l ++ r) = some n := by
  intro m
  induction m with
  | zero =>
    intro l hl r n h
    have : l = [] := List.length_eq_zero_iff.1 (by omega)
    subst this
    cases h
  | succ m ih =>
    intro l hl r n h
    match l, hl, h with
    | [], _, h => cases h
    | c :: l, hl, h =>
      simp only [List.length_cons] at hl
      rw [List.cons_append, bodyLen_eq]
      rw [bodyLen_eq] at h
      split at h
      · rename_i h1; rw [if_pos h1]; exact h
      · rename_i h1
        rw [if_neg h1]
        split at h
        · cases h
        · rename_i h2
          rw [if_neg h2]
          split at h
          · rename_i h3
            rw [if_pos h3]
            match l, hl, h with
            | [], _, h => cases h
            | d :: l', hl, h =>
              simp only [List.length_cons] at hl
              simp only [List.cons_append] at h ⊢
              split at h
              · cases h
              · rename_i h4
                rw [if_neg h4]
                cases hb : bodyLen q l' with
                | none => rw [hb] at h; cases h
                | some k => rw [hb] at h; rw [ih l' (by omega) r k hb]; exact h
          · rename_i h3
            rw [if_neg h3]
            cases hb : bodyLen q l with
            | none => rw [hb] at h; cases h
            | some k => rw [hb] at h; rw [ih l (by omega) r k hb]; exact h

end Go.Proofs.YtaodjipnffgihaaGreat

namespace Go.Proofs.YtaodjipnffgihaaGreat

def noQ (c : UInt8) : Bool := c != 39 && c != 34
theorem first_quote : ∀ {p p' : List UInt8} {q q' : UInt8} {y y' : List UInt8}, p.all noQ = true → p'.all noQ = true → noQ q = false → noQ q' = false → p ++ q :: y = p' ++ q' :: y' → p = p' ∧ q = q' ∧ y = y'
  | [], [], _, _, _, _, _, _, _, _, h => by
    simp only [List.nil_append, List.cons.injEq] at h
    exact ⟨rfl, h.1, h.2⟩
  | [], c :: p', _, _, _, _, _, h2, h3, _, h => by
    simp only [List.nil_append, List.cons_append, List.cons.injEq] at h
    rw [List.all_cons, ← h.1, h3] at h2
    cases h2
  | c :: p, [], _, _, _, _, h1, _, _, h4, h => by
    simp only [List.nil_append, List.cons_append, List.cons.injEq] at h
    rw [List.all_cons, h.1, h4] at h1
    cases h1
  | c :: p, c' :: p', _, _, _, _, h1, h2, h3, h4, h => by
    simp only [List.cons_append, List.cons.injEq] at h
    rw [List.all_cons, Bool.and_eq_true] at h1 h2
    obtain ⟨e1, e2, e3⟩ := first_quote h1.2 h2.2 h3 h4 h.2
    exact ⟨by rw [h.1, e1], e2, e3⟩

theorem runLen_all {p : UInt8 → Bool} : ∀ {l : List UInt8}, runLen p l = l.length → ∀ c ∈ l, p c = true
  | [], _ => fun c hc => by cases hc
  | d :: l, h => fun c hc => by
    rw [runLen] at h
    by_cases hd : p d = true
    · rw [if_pos hd, List.length_cons] at h
      rcases List.mem_cons.1 hc with rfl | hc
      · exact hd
      · exact runLen_all (by omega) c hc
    · rw [if_neg hd, List.length_cons] at h; omega
def numB (c : UInt8) : Bool := isNum c || isSgn c
theorem exp_num (c : UInt8) (h : isExp c = true) : numB c = true := by
  unfold isExp at h
  simp only [Bool.or_eq_true, beq_iff_eq] at h
  rcases h with ((rfl | rfl) | rfl) | rfl <;> decide
theorem numTail_all : ∀ (m : Nat) {l : List UInt8}, l.length ≤ m → numTail l = l.length → ∀ c ∈ l, numB c = true := by
  intro m
  induction m with
  | zero =>
    intro l hl _ c hc
    have : l = [] := List.length_eq_zero_iff.1 (by omega)
    subst this
    cases hc
  | succ m ih =>
    intro l hl h c hc
    match l, hl, h, hc with
    | [d], _, h, hc =>
      obtain rfl : c = d := by simpa using hc
      rw [numTail] at h
      by_cases hd : isNum c = true
      · unfold numB; rw [hd]; rfl
      · rw [if_neg hd] at h; simp at h
    | d :: e :: l, hl, h, hc =>
      simp only [List.length_cons] at hl h
      rw [numTail_three] at h
      split at h
      · rename_i h1
        rw [Bool.and_eq_true] at h1
        rcases List.mem_cons.1 hc with rfl | hc
        · exact exp_num _ h1.1
        · rcases List.mem_cons.1 hc with rfl | hc
          · unfold numB; rw [h1.2, Bool.or_true]
          · exact ih (by omega) (by omega) c hc
      · split at h
        · rename_i h1 h2
          rcases List.mem_cons.1 hc with rfl | hc
          · unfold numB; rw [h2]; rfl
          · exact ih (l := e :: l) (by simp; omega) (by simp; omega) c hc
        · omega
theorem numStart_cons (d : UInt8) (r : List UInt8) : numStart (d :: r) = if isDig d then 1 else if d == 46 && (match r with | e :: _ => isDig e | [] => false) then 2 else 0 := rfl
theorem numStart_num {l : List UInt8} : ∀ c ∈ l.take (numStart l), numB c = true := by
  intro c hc
  match l, hc with
  | [], hc => simp [numStart] at hc
  | [d], hc =>
    rw [numStart_cons] at hc
    by_cases h1 : isDig d = true
    · rw [if_pos h1] at hc
      obtain rfl : c = d := by simpa using hc
      unfold numB isNum; rw [h1]; rfl
    · rw [if_neg h1, if_neg (by simp)] at hc; cases hc
  | d :: e :: r, hc =>
    rw [numStart_cons] at hc
    by_cases h1 : isDig d = true
    · rw [if_pos h1] at hc
      obtain rfl : c = d := by simpa using hc
      unfold numB isNum; rw [h1]; rfl
    · rw [if_neg h1] at hc
      simp only at hc
      by_cases h2 : (d == 46 && isDig e) = true
      · rw [if_pos h2] at hc
        rw [Bool.and_eq_true] at h2
        rcases (by simpa using hc : c = d ∨ c = e) with rfl | rfl
        · rw [eq_of_beq h2.1]; decide
        · have h3 : isDig c = true := h2.2
          unfold numB isNum; rw [h3]; rfl
      · rw [if_neg h2] at hc; cases hc
theorem numLen_all {l : List UInt8} (h : numLen l = l.length) (h0 : l ≠ []) : ∀ c ∈ l, numB c = true := by
  intro c hc
  have hs := numStart_le l
  unfold numLen at h
  have hl : l.length ≠ 0 := fun e => h0 (List.length_eq_zero_iff.1 e)
  split at h
  · omega
  · rw [← List.take_append_drop (numStart l) l, List.mem_append] at hc
    rcases hc with hc | hc
    · exact numStart_num c hc
    · exact numTail_all _ (Nat.le_refl _) (by rw [List.length_drop]; omega) c hc

theorem fold_mem (l : List UInt8) : ∀ (ks : List Nat) (a : Nat × Nat), (ks.foldl (better l) a).2 = a.2 ∨ ∃ k ∈ ks, measureOf k l = (ks.foldl (better l) a).2
  | [], _ => .inl rfl
  | k :: ks, a => by
    rw [List.foldl_cons]
    rcases fold_mem l ks (better l a k) with h | ⟨k', h1, h2⟩
    · rw [h]
      unfold better
      split
      · exact .inr ⟨k, List.mem_cons_self, rfl⟩
      · exact .inl rfl
    · exact .inr ⟨k', List.mem_cons_of_mem _ h1, h2⟩

theorem quoted_some {q : UInt8} {f : Nat} {l : List UInt8} : ∀ {ps : List (List UInt8)}, quotedLen q f l ps ≠ 0 → ∃ p ∈ ps, ∃ y n, l = p ++ q :: y ∧ bodyLen q y = some n ∧ quotedLen q f l ps = p.length + (n + 2)
  | [], h => absurd rfl h
  | p :: ps, h => by
    rw [quotedLen] at h ⊢
    split at h
    · rename_i h1
      rw [if_pos h1]
      rw [Bool.and_eq_true] at h1
      obtain ⟨t, ht⟩ := List.isPrefixOf_iff_prefix.1 h1.1
      subst ht
      have h2 := h1.2
      rw [List.drop_left] at h2 ⊢
      refine ⟨p, List.mem_cons_self, ?_⟩
      cases t with
      | nil => simp [litLen] at h2
      | cons c y =>
        rw [litLen] at h2 ⊢
        by_cases hc : (c == q) = true
        · rw [if_pos hc] at h2 ⊢
          have := eq_of_beq hc
          subst this
          cases hb : bodyLen c y with
          | none => rw [hb] at h2; simp at h2
          | some n =>
            rw [hb] at h2
            simp only at h2 ⊢
            by_cases hf : n < f
            · rw [if_pos hf] at h2; simp at h2
            · rw [if_neg hf]; exact ⟨y, n, rfl, hb, rfl⟩
        · rw [if_neg hc] at h2; simp at h2
    · rename_i h1
      rw [if_neg h1]
      obtain ⟨p', h2, h3⟩ := quoted_some h
      exact ⟨p', List.mem_cons_of_mem _ h2, h3⟩

theorem pre_noQ : (∀ p ∈ chPre, p.all noQ = true) ∧ (∀ p ∈ stPre, p.all noQ = true) ∧ (∀ p ∈ chPre, ∀ c ∈ p, c ≠ 32 ∧ c ≠ 10) ∧ (∀ p ∈ stPre, ∀ c ∈ p, c ≠ 32 ∧ c ≠ 10) := by decide +kernel
theorem puncts_noQ : ∀ p ∈ puncts, p.all noQ = true := by decide +kernel

end Go.Proofs.YtaodjipnffgihaaGreat

namespace Go.Proofs.YtaodjipnffgihaaGreat

/-! ### Words -/
def wordB : List UInt8 → Bool
  | [] => false
  | c :: r => isLet c && r.all isAln
theorem runLen_iff {p : UInt8 → Bool} {l : List UInt8} : runLen p l = l.length ↔ l.all p = true := by
  constructor
  · intro h; rw [List.all_eq_true]; exact runLen_all h
  · intro h
    induction l with
    | nil => rfl
    | cons c r ih =>
      rw [List.all_cons, Bool.and_eq_true] at h
      rw [runLen, if_pos h.1, ih h.2, List.length_cons]
theorem word_iff {x : List UInt8} (hx : x ≠ []) : wordLen x = x.length ↔ wordB x = true := by
  cases x with
  | nil => exact absurd rfl hx
  | cons c r =>
    rw [wordLen, wordB, Bool.and_eq_true]
    by_cases hc : isLet c = true
    · rw [if_pos hc, List.length_cons, Nat.add_right_cancel_iff, runLen_iff]
      exact ⟨fun h => ⟨hc, h⟩, fun h => h.2⟩
    · rw [if_neg hc]
      constructor
      · intro h; simp at h
      · intro h; exact absurd h.1 hc

/-! ### Numbers -/
def numT (l : List UInt8) : Bool := numTail l == l.length
theorem numT_two (c d : UInt8) (r : List UInt8) : numT (c :: d :: r) = if isExp c && isSgn d then numT r else isNum c && numT (d :: r) := by
  unfold numT
  rw [numTail_three]
  by_cases h : (isExp c && isSgn d) = true
  · rw [if_pos h, if_pos h, Bool.eq_iff_iff, beq_iff_eq, beq_iff_eq]
    simp only [List.length_cons]; omega
  · rw [if_neg h, if_neg h]
    by_cases hc : isNum c = true
    · rw [if_pos hc, hc, Bool.true_and, Bool.eq_iff_iff, beq_iff_eq, beq_iff_eq]
      simp only [List.length_cons]; omega
    · rw [if_neg hc, Bool.eq_false_iff.2 hc, Bool.false_and]
      simp
theorem numT_one (c : UInt8) : numT [c] = isNum c := by
  unfold numT; rw [numTail]; cases isNum c <;> rfl
theorem numT_nil : numT [] = true := rfl
theorem sgn_num {c : UInt8} (h : isSgn c = true) : isNum c = false := by
  unfold isSgn at h
  simp only [Bool.or_eq_true, beq_iff_eq] at h
  rcases h with rfl | rfl <;> decide
theorem exp_sgn {c : UInt8} (h : isExp c = true) : isSgn c = false := by
  unfold isExp at h
  simp only [Bool.or_eq_true, beq_iff_eq] at h
  rcases h with ((rfl | rfl) | rfl) | rfl <;> decide
theorem numT_snoc {c : UInt8} (hc : isSgn c = false) : ∀ (m : Nat) (x : List UInt8), x.length ≤ m → numT (x ++ [c]) = (numT x && isNum c) := by
  intro m
  induction m with
  | zero =>
    intro x hx
    obtain rfl : x = [] := List.length_eq_zero_iff.1 (by omega)
    rw [List.nil_append, numT_one, numT_nil, Bool.true_and]
  | succ m ih =>
    intro x hx
    match x, hx with
    | [], _ => rw [List.nil_append, numT_one, numT_nil, Bool.true_and]
    | [a], _ =>
      show numT [a, c] = _
      rw [numT_two, hc, Bool.and_false, if_neg (by decide), numT_one, numT_one]
    | a :: b :: r, hx =>
      simp only [List.length_cons] at hx
      have h2 := ih (b :: r) (by simp; omega)
      rw [List.cons_append] at h2
      rw [List.cons_append, List.cons_append, numT_two, numT_two, ih r (by omega), h2]
      split
      · rfl
      · rw [Bool.and_assoc]
theorem numT_pair {e s : UInt8} (he : isExp e = true) (hs : isSgn s = true) : ∀ (m : Nat) (x : List UInt8), x.length ≤ m → numT (x ++ [e, s]) = numT x := by
  have h0 : numT [e, s] = true := by rw [numT_two, he, hs]; rfl
  intro m
  induction m with
  | zero =>
    intro x hx
    obtain rfl : x = [] := List.length_eq_zero_iff.1 (by omega)
    exact h0
  | succ m ih =>
    intro x hx
    match x, hx with
    | [], _ => exact h0
    | [a], _ =>
      show numT [a, e, s] = _
      rw [numT_two, exp_sgn he, Bool.and_false, if_neg (by decide), numT_one, h0, Bool.and_true]
    | a :: b :: r, hx =>
      simp only [List.length_cons] at hx
      have h2 := ih (b :: r) (by simp; omega)
      rw [List.cons_append] at h2
      rw [List.cons_append, List.cons_append, numT_two, numT_two, ih r (by omega), h2]
theorem numT_bad {y s : UInt8} (hy : isExp y = false) (hs : isSgn s = true) : ∀ (m : Nat) (x : List UInt8), x.length ≤ m → numT (x ++ [y, s]) = false := by
  have h1 : numT [s] = false := by rw [numT_one, sgn_num hs]
  have h0 : numT [y, s] = false := by rw [numT_two, hy, Bool.false_and, if_neg (by decide), h1, Bool.and_false]
  intro m
  induction m with
  | zero =>
    intro x hx
    obtain rfl : x = [] := List.length_eq_zero_iff.1 (by omega)
    exact h0
  | succ m ih =>
    intro x hx
    match x, hx with
    | [], _ => exact h0
    | [a], _ =>
      show numT [a, y, s] = _
      rw [numT_two, h1, h0, Bool.and_false, ite_self]
    | a :: b :: r, hx =>
      simp only [List.length_cons] at hx
      have h2 := ih (b :: r) (by simp; omega)
      rw [List.cons_append] at h2
      rw [List.cons_append, List.cons_append, numT_two, ih r (by omega), h2, Bool.and_false, ite_self]

/-- Is a text a number? -/
def numF (x : List UInt8) : Bool := numStart x != 0 && numT (x.drop (numStart x))
theorem num_iff {x : List UInt8} (hx : x ≠ []) : numLen x = x.length ↔ numF x = true := by
  have hp : 0 < x.length := List.length_pos_iff.2 hx
  have hs := numStart_le x
  have hd : (x.drop (numStart x)).length = x.length - numStart x := List.length_drop
  unfold numLen numF numT
  by_cases h : numStart x = 0
  · rw [if_pos h, h]
    constructor
    · intro h; omega
    · intro h; cases h
  · rw [if_neg h, Bool.and_eq_true, beq_iff_eq, hd]
    constructor
    · intro h2; exact ⟨by simpa using h, by omega⟩
    · intro h2; omega
theorem numStart_two (c d : UInt8) (r : List UInt8) : numStart (c :: d :: r) = if isDig c then 1 else if c == 46 && isDig d then 2 else 0 := rfl
theorem numStart_one (c : UInt8) : numStart [c] = if isDig c then 1 else 0 := by
  rw [numStart_cons]; simp
theorem numF_one (c : UInt8) : numF [c] = isDig c := by
  unfold numF
  rw [numStart_one]
  cases isDig c <;> rfl
theorem numF_dot (d : UInt8) : numF [46, d] = isDig d := by
  unfold numF
  rw [numStart_two]
  cases h : isDig d <;> rfl
theorem numF_app {x y : List UInt8} (h : 2 ≤ x.length) : numF (x ++ y) = (numStart x != 0 && numT (x.drop (numStart x) ++ y)) := by
  match x, h with
  | c :: d :: r, _ =>
    have h1 : numStart (c :: d :: r ++ y) = numStart (c :: d :: r) := by
      rw [List.cons_append, List.cons_append, numStart_two, numStart_two]
    unfold numF
    rw [h1, List.drop_append_of_le_length (numStart_le _)]
/-- A byte more that is no sign. -/
theorem numF_snoc {x : List UInt8} {c : UInt8} (hx : x ≠ []) (h : x ≠ [46]) (hc : isSgn c = false) : numF (x ++ [c]) = (isNum c && numF x) := by
  match x, hx, h with
  | [a], _, h =>
    have ha : (a == 46) = false := by
      cases e : (a == 46) with
      | false => rfl
      | true => rw [eq_of_beq e] at h; exact absurd rfl h
    show numF [a, c] = _
    unfold numF
    rw [numStart_two, numStart_one, ha, Bool.false_and, if_neg (show ¬ false = true by decide)]
    cases isDig a
    · rw [if_neg (by decide)]; simp
    · rw [if_pos rfl]; simp [numT_one, numT_nil]
  | a :: b :: r, _, _ =>
    rw [numF_app (by simp), numT_snoc hc _ _ (Nat.le_refl _)]
    unfold numF
    generalize numStart (a :: b :: r) = n
    cases (n != 0) <;> cases isNum c <;> cases numT (List.drop n (a :: b :: r)) <;> rfl
theorem numF_exp {x : List UInt8} {y s : UInt8} (hx : x ≠ []) (hs : isSgn s = true) : numF (x ++ [y, s]) = (isExp y && numF x) := by
  match x, hx with
  | [a], _ =>
    show numF [a, y, s] = _
    unfold numF
    rw [numStart_two, numStart_one]
    cases ha : isDig a
    · have hh : ¬ (false = true) := by decide
      rw [if_neg hh, if_neg hh]
      by_cases h2 : (a == 46 && isDig y) = true
      · rw [if_pos h2]
        have h3 : numT (List.drop 2 [a, y, s]) = false := by show numT [s] = false; rw [numT_one, sgn_num hs]
        rw [h3]; simp
      · rw [if_neg h2]; simp
    · rw [if_pos rfl, if_pos rfl]
      show (true && numT [y, s]) = (isExp y && (true && numT []))
      cases hy : isExp y
      · have := numT_bad hy hs _ [] (Nat.le_refl _)
        rw [List.nil_append] at this
        rw [this]; rfl
      · have := numT_pair hy hs _ [] (Nat.le_refl _)
        rw [List.nil_append] at this
        rw [this]; rfl
  | a :: b :: r, _ =>
    rw [numF_app (by simp)]
    unfold numF
    cases hy : isExp y
    · rw [numT_bad hy hs _ _ (Nat.le_refl _)]; simp
    · rw [numT_pair hy hs _ _ (Nat.le_refl _)]; simp
theorem numF_two {c s : UInt8} (hc : c ≠ 46) (hs : isSgn s = true) : numF [c, s] = false := by
  have hc2 : (c == 46) = false := by simpa using hc
  unfold numF
  rw [numStart_two, hc2, Bool.false_and, if_neg (show ¬ false = true by decide)]
  cases isDig c
  · rfl
  · show (true && numT [s]) = false
    rw [numT_one, sgn_num hs]; rfl

/-! ### Literals -/
/-- Are these bytes pieces? -/
def piecesB (q : UInt8) : List UInt8 → Bool
  | [] => true
  | c :: r => if c == q || c == 10 then false else if c == 92 then (match r with | [] => false | d :: r' => if d == 10 then false else piecesB q r') else piecesB q r
theorem piecesB_eq (q c : UInt8) (r : List UInt8) : piecesB q (c :: r) = if c == q || c == 10 then false else if c == 92 then (match r with | [] => false | d :: r' => if d == 10 then false else piecesB q r') else piecesB q r := by
  cases r <;> simp [piecesB]
theorem body_iff {q : UInt8} (hq : q ≠ 10) (hq2 : q ≠ 92) : ∀ (m : Nat) (t : List UInt8), t.length ≤ m → (bodyLen q (t ++ [q]) = some t.length ↔ piecesB q t = true) := by
  intro m
  induction m with
  | zero =>
    intro t ht
    obtain rfl : t = [] := List.length_eq_zero_iff.1 (by omega)
    simp [bodyLen, piecesB]
  | succ m ih =>
    intro t ht
    match t, ht with
    | [], _ => simp [bodyLen, piecesB]
    | c :: r, ht =>
      simp only [List.length_cons] at ht
      rw [List.cons_append, bodyLen_eq, piecesB_eq]
      by_cases h1 : (c == q) = true
      · rw [if_pos h1, h1]; simp
      · rw [if_neg h1]
        by_cases h2 : (c == 10) = true
        · rw [if_pos h2, h2, Bool.or_true]; simp
        · rw [if_neg h2, Bool.eq_false_iff.2 h1, Bool.eq_false_iff.2 h2, Bool.or_false, if_neg (show ¬ (false = true) by decide)]
          by_cases h3 : (c == 92) = true
          · rw [if_pos h3, if_pos h3]
            match r, ht with
            | [], _ =>
              have : (q == 10) = false := by simpa using hq
              simp [bodyLen, this]
            | d :: r', ht =>
              simp only [List.length_cons] at ht
              simp only [List.cons_append]
              by_cases h4 : (d == 10) = true
              · rw [if_pos h4, if_pos h4]; simp
              · rw [if_neg h4, if_neg h4, ← ih r' (by omega)]
                cases bodyLen q (r' ++ [q]) with
                | none => simp
                | some n => simp
          · rw [if_neg h3, if_neg h3, ← ih r (by omega)]
            cases bodyLen q (r ++ [q]) with
            | none => simp
            | some n => simp
theorem body_last {q : UInt8} : ∀ (m : Nat) (l : List UInt8), l.length ≤ m → ∀ n, bodyLen q l = some n → l[n]? = some q := by
  intro m
  induction m with
  | zero => intro l hl n h; rw [List.length_eq_zero_iff.1 (Nat.le_zero.1 hl)] at h; simp [bodyLen] at h
  | succ m ih =>
    intro l hl n h
    cases l with
    | nil => simp [bodyLen] at h
    | cons c r =>
      simp only [List.length_cons] at hl
      rw [bodyLen_eq] at h
      by_cases h1 : (c == q) = true
      · rw [if_pos h1] at h; cases h; rw [eq_of_beq h1]; rfl
      · rw [if_neg h1] at h
        by_cases h2 : (c == 10) = true
        · rw [if_pos h2] at h; cases h
        · rw [if_neg h2] at h
          by_cases h3 : (c == 92) = true
          · rw [if_pos h3] at h
            cases r with
            | nil => cases h
            | cons d r' =>
              simp only at h
              by_cases h4 : (d == 10) = true
              · rw [if_pos h4] at h; cases h
              · rw [if_neg h4] at h
                cases hb : bodyLen q r' with
                | none => rw [hb] at h; cases h
                | some j =>
                  rw [hb] at h
                  simp only [Option.map_some, Option.some.injEq] at h
                  simp only [List.length_cons] at hl
                  subst h
                  exact ih r' (by omega) j hb
          · rw [if_neg h3] at h
            cases hb : bodyLen q r with
            | none => rw [hb] at h; cases h
            | some j =>
              rw [hb] at h
              simp only [Option.map_some, Option.some.injEq] at h
              subst h
              exact ih r (by omega) j hb

/-- Has a text the form of a literal with that quote and prefix? -/
def shapeB (q : UInt8) (x p : List UInt8) : Bool :=
  decide (p.length + 2 ≤ x.length) && x.take p.length == p && (x[p.length]?.getD 0 == q) && (x[x.length - 1]?.getD 0 == q) && piecesB q ((x.take (x.length - 1)).drop (p.length + 1))
/-- Is a text a literal? -/
def litB (q : UInt8) (f : Nat) (x : List UInt8) : List (List UInt8) → Bool
  | [] => false
  | p :: ps => if shapeB q x p then decide (p.length + 2 + f ≤ x.length) else litB q f x ps

theorem shape_iff {q : UInt8} {x p : List UInt8} : shapeB q x p = true ↔ ∃ t, x = p ++ q :: (t ++ [q]) ∧ piecesB q t = true := by
  unfold shapeB
  simp only [Bool.and_eq_true, decide_eq_true_eq, beq_iff_eq]
  constructor
  · rintro ⟨⟨⟨⟨h1, h2⟩, h3⟩, h4⟩, h5⟩
    refine ⟨(x.take (x.length - 1)).drop (p.length + 1), ?_, h5⟩
    have e1 : x.drop p.length = q :: x.drop (p.length + 1) := by
      rw [List.drop_eq_getElem_cons (by omega)]
      rw [List.getElem?_eq_getElem (by omega)] at h3
      rw [show x[p.length]'(by omega) = q from h3]
    have e2 : x = x.take (x.length - 1) ++ [q] := by
      conv => lhs; rw [← List.take_append_drop (x.length - 1) x]
      rw [List.drop_eq_getElem_cons (by omega), List.drop_eq_nil_of_le (by omega)]
      rw [List.getElem?_eq_getElem (by omega)] at h4
      rw [show x[x.length - 1]'(by omega) = q from h4]
    have e3 : x.drop (p.length + 1) = (x.take (x.length - 1)).drop (p.length + 1) ++ [q] := by
      conv => lhs; rw [e2]
      rw [List.drop_append_of_le_length (by rw [List.length_take]; omega)]
    rw [← e3, ← e1]
    conv => lhs; rw [← List.take_append_drop p.length x, h2]
  · rintro ⟨t, rfl, h5⟩
    have l1 : (p ++ q :: (t ++ [q])).length = p.length + (t.length + 2) := by simp
    have e2 : p ++ q :: (t ++ [q]) = (p ++ q :: t) ++ [q] := by simp
    have e3 : (p ++ q :: t).length = p.length + t.length + 1 := by simp; omega
    refine ⟨⟨⟨⟨by omega, ?_⟩, ?_⟩, ?_⟩, ?_⟩
    · rw [List.take_left]
    · rw [List.getElem?_append_right (Nat.le_refl _), Nat.sub_self]; rfl
    · rw [l1, e2, List.getElem?_append_right (by omega), show p.length + (t.length + 2) - 1 - (p ++ q :: t).length = 0 by omega]; rfl
    · rw [l1, e2, show p.length + (t.length + 2) - 1 = (p ++ q :: t).length by omega, List.take_left]
      rw [List.drop_append, show p.length + 1 - p.length = 1 by omega, List.drop_eq_nil_of_le (by omega)]
      exact h5

theorem lit_iff {q : UInt8} {f : Nat} {y : List UInt8} (hq : q ≠ 10) (hq2 : q ≠ 92) (hf : f ≤ 1) : litLen q f y = y.length ∧ y ≠ [] ↔ ∃ t, y = q :: (t ++ [q]) ∧ piecesB q t = true ∧ f ≤ t.length := by
  constructor
  · rintro ⟨h, hne⟩
    cases y with
    | nil => exact absurd rfl hne
    | cons c r =>
      rw [litLen] at h
      by_cases hc : (c == q) = true
      · rw [if_pos hc] at h
        cases hb : bodyLen q r with
        | none => rw [hb] at h; simp at h
        | some n =>
          rw [hb] at h
          simp only [List.length_cons] at h
          by_cases hn : n < f
          · rw [if_pos hn] at h; omega
          · rw [if_neg hn] at h
            have hl := body_last _ r (Nat.le_refl _) n hb
            have e2 : r = r.take n ++ [q] := by
              conv => lhs; rw [← List.take_append_drop n r]
              rw [List.drop_eq_getElem_cons (by omega), List.drop_eq_nil_of_le (by omega)]
              rw [List.getElem?_eq_getElem (by omega), Option.some.injEq] at hl
              rw [hl]
            have e3 : (r.take n).length = n := by rw [List.length_take]; omega
            refine ⟨r.take n, by rw [← e2, eq_of_beq hc], ?_, by omega⟩
            rw [← body_iff hq hq2 _ _ (Nat.le_refl _), ← e2, e3, hb]
      · rw [if_neg hc] at h; simp at h
  · rintro ⟨t, rfl, h, hn⟩
    refine ⟨?_, by simp⟩
    rw [litLen, if_pos (by simp), (body_iff hq hq2 _ _ (Nat.le_refl _)).2 h]
    simp only
    rw [if_neg (by omega)]
    simp

theorem quoted_iff {q : UInt8} {f : Nat} {x : List UInt8} (hq : q = 39 ∨ q = 34) (hf : f ≤ 1) (hx : x ≠ []) : ∀ {ps : List (List UInt8)}, (∀ p ∈ ps, p.all noQ = true) → (quotedLen q f x ps = x.length ↔ litB q f x ps = true) := by
  have hqn : noQ q = false := by rcases hq with rfl | rfl <;> rfl
  have q10 : q ≠ 10 := by rcases hq with rfl | rfl <;> decide
  have q92 : q ≠ 92 := by rcases hq with rfl | rfl <;> decide
  have hp : 0 < x.length := List.length_pos_iff.2 hx
  intro ps
  induction ps with
  | nil =>
    intro _
    simp only [quotedLen, litB]
    constructor
    · intro h; omega
    · intro h; cases h
  | cons p ps ih =>
    intro hps
    have hpn := hps p List.mem_cons_self
    replace ih := ih (fun p' h => hps p' (List.mem_cons_of_mem _ h))
    rw [quotedLen, litB]
    by_cases hs : shapeB q x p = true
    · rw [if_pos hs]
      obtain ⟨t, rfl, ht⟩ := shape_iff.1 hs
      have hpre : p.isPrefixOf (p ++ q :: (t ++ [q])) = true := List.isPrefixOf_iff_prefix.2 ⟨_, rfl⟩
      rw [hpre, List.drop_left, Bool.true_and]
      have l1 : (p ++ q :: (t ++ [q])).length = p.length + (t.length + 2) := by simp
      by_cases hft : f ≤ t.length
      · have h2 := (lit_iff (y := q :: (t ++ [q])) (f := f) q10 q92 hf).2 ⟨t, rfl, ht, hft⟩
        have h3 : (q :: (t ++ [q])).length = t.length + 2 := by simp
        rw [h2.1, h3, if_pos (by simp), l1]
        exact ⟨fun _ => decide_eq_true (by omega), fun _ => rfl⟩
      · have h2 : litLen q f (q :: (t ++ [q])) = 0 := by
          rw [litLen, if_pos (by simp), (body_iff q10 q92 _ _ (Nat.le_refl _)).2 ht]
          simp only
          rw [if_pos (by omega)]
        rw [h2, if_neg (by simp), l1]
        constructor
        · intro h
          exfalso
          obtain ⟨p', hp', y, n, e1, e2, e3⟩ := quoted_some (q := q) (f := f) (l := p ++ q :: (t ++ [q])) (ps := ps) (by omega)
          obtain ⟨rfl, -, rfl⟩ := first_quote hpn (hps p' (List.mem_cons_of_mem _ hp')) hqn hqn e1
          have hf1 : f = 1 ∧ t.length = 0 := by omega
          obtain ⟨rfl, ht0⟩ := hf1
          obtain rfl : t = [] := List.length_eq_zero_iff.1 ht0
          have : ∀ ps' : List (List UInt8), (∀ p' ∈ ps', p'.all noQ = true) → quotedLen q 1 (p ++ [q, q]) ps' = 0 := by
            intro ps' hall
            refine Classical.byContradiction (fun hne => ?_)
            have hne' := hne
            induction ps' with
            | nil => exact hne rfl
            | cons p2 ps' ih2 =>
              rw [quotedLen] at hne
              by_cases h4 : (p2.isPrefixOf (p ++ [q, q]) && litLen q 1 ((p ++ [q, q]).drop p2.length) != 0) = true
              · rw [Bool.and_eq_true] at h4
                obtain ⟨z, hz⟩ := List.isPrefixOf_iff_prefix.1 h4.1
                have h5 := h4.2
                rw [← hz, List.drop_left] at h5
                cases z with
                | nil => simp [litLen] at h5
                | cons c z =>
                  rw [litLen] at h5
                  by_cases hc : (c == q) = true
                  · have hcq := eq_of_beq hc
                    subst hcq
                    obtain ⟨_, _, e6⟩ := first_quote (hall p2 List.mem_cons_self) hpn hqn hqn hz
                    subst e6
                    simp [bodyLen] at h5
                  · rw [if_neg hc] at h5; simp at h5
              · rw [if_neg h4] at hne
                exact ih2 (fun p' h => hall p' (List.mem_cons_of_mem _ h)) hne hne
          have h6 := this ps (fun p' h => hps p' (List.mem_cons_of_mem _ h))
          rw [List.nil_append] at h
          rw [h6] at h
          simp at h
        · intro h
          simp only [decide_eq_true_eq] at h
          omega
    · rw [if_neg hs]
      by_cases h1 : (p.isPrefixOf x && litLen q f (x.drop p.length) != 0) = true
      · rw [if_pos h1]
        rw [Bool.and_eq_true] at h1
        obtain ⟨y, rfl⟩ := List.isPrefixOf_iff_prefix.1 h1.1
        have h2 := h1.2
        rw [List.drop_left] at h2 ⊢
        have hy : y ≠ [] := by
          intro e; subst e; simp [litLen] at h2
        have hne : litLen q f y ≠ y.length := by
          intro he
          obtain ⟨t, rfl, ht, _⟩ := (lit_iff q10 q92 hf).1 ⟨he, hy⟩
          exact hs (shape_iff.2 ⟨t, rfl, ht⟩)
        constructor
        · intro h; rw [List.length_append] at h; omega
        · intro h
          exfalso
          -- another prefix would have the same shape
          have : ∃ p' ∈ ps, shapeB q (p ++ y) p' = true := by
            clear ih hps h1 h2 hy hne
            revert h
            induction ps with
            | nil => intro h; cases h
            | cons p2 ps ih2 =>
              intro h
              rw [litB] at h
              by_cases h4 : shapeB q (p ++ y) p2 = true
              · exact ⟨p2, List.mem_cons_self, h4⟩
              · rw [if_neg h4] at h
                obtain ⟨p', h5, h6⟩ := ih2 h
                exact ⟨p', List.mem_cons_of_mem _ h5, h6⟩
          obtain ⟨p', h5, h6⟩ := this
          obtain ⟨t, e1, ht⟩ := shape_iff.1 h6
          cases y with
          | nil => exact hy rfl
          | cons c y =>
            rw [litLen] at h2
            by_cases hc : (c == q) = true
            · have hcq := eq_of_beq hc
              subst hcq
              obtain ⟨rfl, -, rfl⟩ := first_quote hpn (hps p' (List.mem_cons_of_mem _ h5)) hqn hqn e1
              exact hs h6
            · rw [if_neg hc] at h2; simp at h2
      · rw [if_neg h1]; exact ih

end Go.Proofs.YtaodjipnffgihaaGreat

namespace Go.Proofs.YtaodjipnffgihaaGreat

/-- A token that is a prefix, a quote and more: the literal ends in it. -/
theorem quote_closed {x p y : List UInt8} {q : UInt8} {k : Nat} (h : longestOf x = (k, x.length)) (hx : x = p ++ q :: y) (hp : p.all noQ = true) (hq : q = 39 ∨ q = 34) : ∃ n, bodyLen q y = some n := by
  have hqn : noQ q = false := by rcases hq with rfl | rfl <;> rfl
  have hmem : q ∈ x := by rw [hx]; simp
  have hlen : x.length = p.length + (y.length + 1) := by rw [hx]; simp
  have hxne : x ≠ [] := by rw [hx]; simp
  unfold longestOf at h
  simp only at h
  split at h
  · rename_i h1
    exfalso
    simp only [Prod.mk.injEq] at h
    have hp0 : p = [] := List.length_eq_zero_iff.1 (by omega)
    subst hp0
    rw [hx] at h1
    have : isQuote q = true := by rcases hq with rfl | rfl <;> rfl
    simp [this] at h1
  · have h2 : (([1, 2, 3, 4, 5, 9] : List Nat).foldl (better x) (0, 0)).2 = x.length := congrArg Prod.snd h
    rcases fold_mem x [1, 2, 3, 4, 5, 9] (0, 0) with h3 | ⟨m, hm, h3⟩
    · rw [h2] at h3; simp only at h3; omega
    · rw [h2] at h3
      simp only [List.mem_cons, List.not_mem_nil, or_false] at hm
      rcases hm with rfl | rfl | rfl | rfl | rfl | rfl
      · exfalso
        have h4 : wordLen x = x.length := h3
        cases x with
        | nil => exact hxne rfl
        | cons c r =>
          rw [wordLen] at h4
          by_cases hc : isLet c = true
          · rw [if_pos hc, List.length_cons] at h4
            have hr := runLen_all (p := isAln) (l := r) (by omega)
            rcases List.mem_cons.1 hmem with rfl | hm
            · rcases hq with rfl | rfl <;> exact absurd hc (by decide)
            · have := hr q hm
              rcases hq with rfl | rfl <;> exact absurd this (by decide)
          · rw [if_neg hc, List.length_cons] at h4; omega
      · exfalso
        have h4 : numLen x = x.length := h3
        have := numLen_all h4 hxne q hmem
        rcases hq with rfl | rfl <;> exact absurd this (by decide)
      · have h4 : quotedLen 39 1 x chPre = x.length := h3
        obtain ⟨p', hp', y', n, e1, e2, _⟩ := quoted_some (q := 39) (f := 1) (l := x) (ps := chPre) (by omega)
        obtain ⟨_, e3, e4⟩ := first_quote hp (pre_noQ.1 p' hp') hqn (by decide) (hx.symm.trans e1)
        rw [e3, e4]; exact ⟨n, e2⟩
      · have h4 : quotedLen 34 0 x stPre = x.length := h3
        obtain ⟨p', hp', y', n, e1, e2, _⟩ := quoted_some (q := 34) (f := 0) (l := x) (ps := stPre) (by omega)
        obtain ⟨_, e3, e4⟩ := first_quote hp (pre_noQ.2.1 p' hp') hqn (by decide) (hx.symm.trans e1)
        rw [e3, e4]; exact ⟨n, e2⟩
      · exfalso
        have h4 : punctLen x = x.length := h3
        have h5 : ∀ n, punctDown x n = 0 ∨ isPunctB (x.take (punctDown x n)) = true := by
          intro n
          induction n with
          | zero => exact .inl rfl
          | succ n ih =>
            rw [punctDown]
            by_cases hp : isPunctB (x.take (n + 1)) = true
            · rw [if_pos hp]; exact .inr hp
            · rw [if_neg hp]; exact ih
        rcases h5 (min x.length 4) with h6 | h6
        · have : punctLen x = 0 := h6
          omega
        · have e : punctDown x (min x.length 4) = x.length := h4
          rw [e, List.take_length] at h6
          unfold isPunctB at h6
          have := List.all_eq_true.1 (puncts_noQ _ (List.contains_iff_mem.1 h6)) q hmem
          rw [hqn] at this; cases this
      · exfalso
        have h4 : nlLen x = x.length := h3
        cases x with
        | nil => exact hxne rfl
        | cons c r =>
          rw [nlLen] at h4
          by_cases hc : (c == 10) = true
          · rw [if_pos hc, List.length_cons] at h4
            have hr : r = [] := List.length_eq_zero_iff.1 (by omega)
            subst hr
            obtain rfl : q = c := by simpa using hmem
            have := eq_of_beq hc
            rcases hq with rfl | rfl <;> exact absurd this (by decide)
          · rw [if_neg hc, List.length_cons] at h4; omega

theorem quoted_stop {x r : List UInt8} {q : UInt8} {k f : Nat} {ps : List (List UInt8)} (hr : Stops r) (h : longestOf x = (k, x.length)) (hq : q = 39 ∨ q = 34) (h1 : ∀ p ∈ ps, p.all noQ = true) (h2 : ∀ p ∈ ps, ∀ c ∈ p, c ≠ 32 ∧ c ≠ 10) :
    quotedLen q f (x ++ r) ps ≤ x.length := by
  by_cases h0 : quotedLen q f (x ++ r) ps = 0
  · omega
  · obtain ⟨p, hp, z, n, e1, e2, e3⟩ := quoted_some h0
    rw [e3]
    by_cases hlt : p.length < x.length
    · have hx : x = p ++ q :: (x.drop (p.length + 1)) := by
        have ht : p = x.take p.length := by
          have := congrArg (List.take p.length) e1
          rw [List.take_append_of_le_length (by omega), List.take_left] at this
          exact this.symm
        have hd := congrArg (List.drop p.length) e1
        rw [List.drop_append_of_le_length (by omega), List.drop_left, List.drop_eq_getElem_cons hlt, List.cons_append, List.cons.injEq] at hd
        conv => lhs; rw [← List.take_append_drop p.length x, ← ht, List.drop_eq_getElem_cons hlt, hd.1]
      generalize x.drop (p.length + 1) = y at hx
      obtain ⟨n', hn'⟩ := quote_closed h hx (h1 p hp) hq
      have hz : z = y ++ r := by
        rw [hx, List.append_assoc, List.append_cancel_left_eq, List.cons_append, List.cons.injEq] at e1
        exact e1.2.symm
      rw [hz, bodyLen_app q _ y (Nat.le_refl _) r n' hn'] at e2
      obtain rfl : n' = n := Option.some.inj e2
      have := bodyLen_lt q _ y (Nat.le_refl _) n' hn'
      have : x.length = p.length + (y.length + 1) := by rw [hx]; simp
      omega
    · exfalso
      have hd := congrArg (List.drop x.length) e1
      rw [List.drop_left, List.drop_append_of_le_length (by omega)] at hd
      cases hpd : p.drop x.length with
      | nil =>
        rw [hpd, List.nil_append] at hd
        rcases hr _ _ hd with h | h
        · rcases hq with rfl | rfl <;> exact absurd h (by decide)
        · rcases hq with rfl | rfl <;> exact absurd h (by decide)
      | cons c s =>
        rw [hpd, List.cons_append] at hd
        have hc : c ∈ p := List.mem_of_mem_drop (i := x.length) (by rw [hpd]; exact List.mem_cons_self)
        rcases hr _ _ hd with h | h
        · exact (h2 p hp c hc).1 h
        · exact (h2 p hp c hc).2 h

end Go.Proofs.YtaodjipnffgihaaGreat

namespace Go.Proofs.YtaodjipnffgihaaGreat

theorem closeC_cons (c : UInt8) (r : List UInt8) : closeC (c :: r) = if c == 42 && r.head? == some 47 then some 0 else (closeC r).map (· + 1) := rfl
theorem isComment_cons (c d : UInt8) (r : List UInt8) : isComment (c :: d :: r) = (c == 47 && (d == 42 || d == 47)) := by
  unfold isComment
  simp only [List.isPrefixOf]
  by_cases h : c = 47
  · subst h
    by_cases h2 : d = 42
    · subst h2; simp
    · by_cases h3 : d = 47
      · subst h3; simp
      · have e1 : (42 == d) = false := beq_eq_false_iff_ne.2 fun e => h2 e.symm
        have e2 : (47 == d) = false := beq_eq_false_iff_ne.2 fun e => h3 e.symm
        simp [h2, h3, e1, e2]
  · have e1 : (47 == c) = false := beq_eq_false_iff_ne.2 fun e => h e.symm
    simp [h, e1]
end Go.Proofs.YtaodjipnffgihaaGreat

namespace Go.Proofs.YtaodjipnffgihaaGreat

/-- What follows is nothing, or begins with white space or a line's end. -/
def StopW (r : List UInt8) : Prop := ∀ c s, r = c :: s → c = 32 ∨ c = 9 ∨ c = 11 ∨ c = 12 ∨ c = 10
theorem stopW_cons {c : UInt8} {s : List UInt8} (h : c = 32 ∨ c = 9 ∨ c = 11 ∨ c = 12 ∨ c = 10) : StopW (c :: s) := fun _ _ e => by
  rw [List.cons.injEq] at e; rw [← e.1]; exact h

theorem runLen_w {p : UInt8 → Bool} (h32 : p 32 = false) (h9 : p 9 = false) (h11 : p 11 = false) (h12 : p 12 = false) (h10 : p 10 = false) {r : List UInt8} (hr : StopW r) : ∀ x : List UInt8, runLen p (x ++ r) = runLen p x
  | [] => by
    cases r with
    | nil => rfl
    | cons c s =>
      have hp : p c = false := by rcases hr c s rfl with rfl | rfl | rfl | rfl | rfl <;> assumption
      show runLen p (c :: s) = 0
      simp [runLen, hp]
  | c :: x => by
    rw [List.cons_append, runLen, runLen, runLen_w h32 h9 h11 h12 h10 hr x]
theorem wordLen_w {r : List UInt8} (hr : StopW r) (x : List UInt8) (hx : x ≠ []) : wordLen (x ++ r) = wordLen x := by
  cases x with
  | nil => exact absurd rfl hx
  | cons c x =>
    rw [List.cons_append, wordLen, wordLen, runLen_w (by decide) (by decide) (by decide) (by decide) (by decide) hr]
theorem numTail_w0 {r : List UInt8} (hr : StopW r) : numTail r = 0 := by
  match r, hr with
  | [], _ => rfl
  | [c], hr => rcases hr c [] rfl with rfl | rfl | rfl | rfl | rfl <;> rfl
  | c :: d :: s, hr =>
    rw [numTail_three]
    rcases hr c _ rfl with rfl | rfl | rfl | rfl | rfl <;> rfl
theorem numTail_w {r : List UInt8} (hr : StopW r) : ∀ (m : Nat) (x : List UInt8), x.length ≤ m → numTail (x ++ r) = numTail x := by
  intro m
  induction m with
  | zero =>
    intro x hx
    have : x = [] := List.length_eq_zero_iff.1 (by omega)
    subst this
    exact numTail_w0 hr
  | succ m ih =>
    intro x hx
    match x, hx with
    | [], _ => exact numTail_w0 hr
    | [c], _ =>
      cases r with
      | nil => rfl
      | cons d s =>
        show numTail (c :: d :: s) = _
        rw [numTail_three, numTail_w0 hr]
        have hd : isSgn d = false := by rcases hr d s rfl with rfl | rfl | rfl | rfl | rfl <;> rfl
        rw [hd, Bool.and_false, if_neg (by decide)]
        rfl
    | c :: d :: x, hx =>
      simp only [List.length_cons] at hx
      rw [List.cons_append, List.cons_append, numTail_three, numTail_three, ih x (by omega)]
      have := ih (d :: x) (by simp; omega)
      rw [List.cons_append] at this
      rw [this]
theorem numStart_w {r : List UInt8} (hr : StopW r) (x : List UInt8) (hx : x ≠ []) : numStart (x ++ r) = numStart x := by
  match x, hx with
  | [c], _ =>
    cases r with
    | nil => rfl
    | cons d s =>
      show numStart (c :: d :: s) = numStart [c]
      have hd : isDig d = false := by rcases hr d s rfl with rfl | rfl | rfl | rfl | rfl <;> rfl
      simp only [numStart, hd]
  | c :: d :: x, _ => rfl
theorem numLen_w {r : List UInt8} (hr : StopW r) (x : List UInt8) (hx : x ≠ []) : numLen (x ++ r) = numLen x := by
  unfold numLen
  have h := numStart_le x
  rw [numStart_w hr x hx, List.drop_append_of_le_length h, numTail_w hr _ _ (Nat.le_refl _)]
theorem puncts_w : ∀ p ∈ puncts, ∀ c ∈ p, c ≠ 32 ∧ c ≠ 9 ∧ c ≠ 11 ∧ c ≠ 12 ∧ c ≠ 10 := by decide +kernel
theorem punctDown_w {c : UInt8} {s : List UInt8} (hc : c = 32 ∨ c = 9 ∨ c = 11 ∨ c = 12 ∨ c = 10) (x : List UInt8) : ∀ n, punctDown (x ++ c :: s) n ≤ x.length
  | 0 => Nat.zero_le _
  | n + 1 => by
    rw [punctDown]
    split
    · rename_i hp
      refine Nat.le_of_not_lt (fun h => ?_)
      unfold isPunctB at hp
      have hm := List.contains_iff_mem.1 hp
      have hcm : c ∈ (x ++ c :: s).take (n + 1) := by
        rw [List.take_append, List.mem_append]
        right
        obtain ⟨k, hk⟩ : ∃ k, n + 1 - x.length = k + 1 := ⟨n - x.length, by omega⟩
        rw [hk, List.take_succ_cons]
        exact List.mem_cons_self
      obtain ⟨h1, h2, h3, h4, h5⟩ := puncts_w _ hm c hcm
      rcases hc with h | h | h | h | h
      · exact h1 h
      · exact h2 h
      · exact h3 h
      · exact h4 h
      · exact h5 h
    · exact punctDown_w hc x n
theorem punctLen_w {r : List UInt8} (hr : StopW r) (x : List UInt8) : punctLen (x ++ r) ≤ x.length := by
  cases r with
  | nil => rw [List.append_nil]; exact punctLen_le x
  | cons c s => exact punctDown_w (hr c s rfl) x _
theorem nlLen_w {r : List UInt8} (x : List UInt8) (hx : x ≠ []) : nlLen (x ++ r) ≤ x.length := by
  cases x with
  | nil => exact absurd rfl hx
  | cons c x => rw [List.cons_append, nlLen]; split <;> simp

/-- Each quote behind no quotes is closed. -/
def Closed (u : List UInt8) : Prop := ∀ (p y : List UInt8) (q : UInt8), u = p ++ q :: y → p.all noQ = true → (q = 39 ∨ q = 34) → ∃ n, bodyLen q y = some n
theorem quoted_w {u r : List UInt8} {q : UInt8} {f : Nat} {ps : List (List UInt8)} (hr : StopW r) (h : Closed u) (hq : q = 39 ∨ q = 34) (h1 : ∀ p ∈ ps, p.all noQ = true) (h2 : ∀ p ∈ ps, ∀ c ∈ p, c ≠ 32 ∧ c ≠ 9 ∧ c ≠ 11 ∧ c ≠ 12 ∧ c ≠ 10) :
    quotedLen q f (u ++ r) ps ≤ u.length := by
  by_cases h0 : quotedLen q f (u ++ r) ps = 0
  · omega
  · obtain ⟨p, hp, z, n, e1, e2, e3⟩ := quoted_some h0
    rw [e3]
    have hqw : ¬ (q = 32 ∨ q = 9 ∨ q = 11 ∨ q = 12 ∨ q = 10) := by rcases hq with rfl | rfl <;> decide
    rcases List.append_eq_append_iff.1 e1 with ⟨a, rfl, rfl⟩ | ⟨c, rfl, h3⟩
    · exfalso
      cases a with
      | nil => exact hqw (hr _ _ rfl)
      | cons d a =>
        obtain ⟨g1, g2, g3, g4, g5⟩ := h2 _ hp d (List.mem_append_right _ List.mem_cons_self)
        rcases hr d (a ++ q :: z) rfl with g | g | g | g | g
        · exact g1 g
        · exact g2 g
        · exact g3 g
        · exact g4 g
        · exact g5 g
    · cases c with
      | nil => exact absurd (hr _ _ h3.symm) hqw
      | cons d c =>
        rw [List.cons_append, List.cons.injEq] at h3
        obtain ⟨rfl, rfl⟩ := h3
        obtain ⟨n', hn'⟩ := h p c q rfl (h1 p hp) hq
        rw [bodyLen_app q _ c (Nat.le_refl _) r n' hn'] at e2
        obtain rfl : n' = n := Option.some.inj e2
        have := bodyLen_lt q _ c (Nat.le_refl _) n' hn'
        rw [List.length_append, List.length_cons]
        omega
theorem pre_w : (∀ p ∈ chPre, ∀ c ∈ p, c ≠ 32 ∧ c ≠ 9 ∧ c ≠ 11 ∧ c ≠ 12 ∧ c ≠ 10) ∧ (∀ p ∈ stPre, ∀ c ∈ p, c ≠ 32 ∧ c ≠ 9 ∧ c ≠ 11 ∧ c ≠ 12 ∧ c ≠ 10) := by decide +kernel
theorem measure_w {u r : List UInt8} (hr : StopW r) (hu : u ≠ []) (h : Closed u) : ∀ m ∈ kinds6, measureOf m (u ++ r) ≤ u.length := by
  intro m hm
  simp only [kinds6, List.mem_cons, List.not_mem_nil, or_false] at hm
  rcases hm with rfl | rfl | rfl | rfl | rfl | rfl
  · show wordLen (u ++ r) ≤ _
    rw [wordLen_w hr u hu]; exact wordLen_le u
  · show numLen (u ++ r) ≤ _
    rw [numLen_w hr u hu]; exact numLen_le' u
  · exact quoted_w (q := 39) (f := 1) hr h (.inl rfl) pre_noQ.1 pre_w.1
  · exact quoted_w (q := 34) (f := 0) hr h (.inr rfl) pre_noQ.2.1 pre_w.2
  · exact punctLen_w hr u
  · exact nlLen_w u hu
theorem longest_w {u r : List UInt8} (hr : StopW r) (hu : u ≠ []) (h : Closed u) : longestOf (u ++ r) = longestOf u := by
  refine longest_congr (fun m hm => ?_) ?_
  · have := measure_take (measure_w hr hu h m hm)
    rw [List.take_left] at this
    exact this.symm
  · cases u with
    | nil => exact absurd rfl hu
    | cons c s => rfl
theorem isCom_cons (c d : UInt8) (r : List UInt8) : isComment (c :: d :: r) = (c == 47 && (d == 42 || d == 47)) := by
  unfold isComment
  simp only [List.isPrefixOf]
  by_cases h : c = 47
  · subst h
    by_cases h2 : d = 42
    · subst h2; simp
    · by_cases h3 : d = 47
      · subst h3; simp
      · have e1 : (42 == d) = false := beq_eq_false_iff_ne.2 fun e => h2 e.symm
        have e2 : (47 == d) = false := beq_eq_false_iff_ne.2 fun e => h3 e.symm
        simp [h2, h3, e1, e2]
  · have e1 : (47 == c) = false := beq_eq_false_iff_ne.2 fun e => h e.symm
    simp [h, e1]
theorem isCom_w {x r : List UInt8} (hr : StopW r) (hx : x ≠ []) : isComment (x ++ r) = isComment x := by
  match x, hx with
  | [c], _ =>
    cases r with
    | nil => rfl
    | cons d s =>
      show isComment (c :: d :: s) = isComment [c]
      rw [isCom_cons]
      have h1 : isComment [c] = false := by unfold isComment; simp [List.isPrefixOf]
      rw [h1]
      rcases hr d s rfl with rfl | rfl | rfl | rfl | rfl <;> simp
  | c :: d :: x, _ =>
    show isComment (c :: d :: (x ++ r)) = _
    rw [isCom_cons, isCom_cons]
/-- The first token of some that stand side by side, followed by white space or a line's end. -/
theorem next_w {u r : List UInt8} {k n : Nat} (hr : StopW r) (hu : u ≠ []) (hc : Closed u) (h : nextOf false u = (k, n, 0)) (hk : k ≠ 8) : nextOf false (u ++ r) = (k, n, 0) := by
  unfold nextOf at h ⊢
  rw [if_neg (by simp)] at h ⊢
  rw [isCom_w hr hu, longest_w hr hu hc]
  split at h
  · exfalso
    split at h
    · simp only [Prod.mk.injEq] at h; exact absurd h.2.2 (by decide)
    · have := congrArg Prod.fst h; exact hk this.symm
  · rename_i h1
    rw [if_neg h1]; exact h

end Go.Proofs.YtaodjipnffgihaaGreat

namespace Go.Proofs.YtaodjipnffgihaaGreat

theorem run_ws {W R : List UInt8} (hW : ∀ c ∈ W, isWS c = true) (hR : runLen isWS R = 0) : runLen isWS (W ++ R) = W.length := by
  induction W with
  | nil => exact hR
  | cons c W ih =>
    rw [List.cons_append, runLen, if_pos (hW c List.mem_cons_self), ih (fun d hd => hW d (List.mem_cons_of_mem _ hd)), List.length_cons]

/-- The token behind white space. -/
theorem tok_next {X : List UInt8} {e st k : Nat} {W x R : List UInt8} (he : e ≤ X.length) (hX : X.drop e = W ++ (x ++ R)) (hW : ∀ c ∈ W, isWS c = true) (hx : x ≠ []) (hw : runLen isWS (x ++ R) = 0) (hn : nextOf (st == 2) (x ++ R) = (k, x.length, 0)) :
    ∃ t : Tk, t.k = k ∧ t.sp = decide (W ≠ []) ∧ txt X t = x ∧ t.e ≤ X.length ∧ X.drop t.e = R ∧ toks X e st = (t :: (toks X t.e (lineWith st k x)).1, (toks X t.e (lineWith st k x)).2) := by
  have ha : atOf X e = e + W.length := by unfold atOf; rw [hX, run_ws hW hw]
  have hXd : X.drop (atOf X e) = x ++ R := by rw [ha, ← List.drop_drop, hX, List.drop_left]
  have hnx : nextAt X e st = (k, x.length, 0) := by unfold nextAt; rw [hXd]; exact hn
  have hx1 : 1 ≤ x.length := by
    cases x with
    | nil => exact absurd rfl hx
    | cons c x => simp
  have hlen : X.length = atOf X e + (x.length + R.length) := by
    have h6 := congrArg List.length hX
    rw [List.length_drop, List.length_append, List.length_append] at h6
    omega
  have htx : txt X (tokAt X e st) = x := by
    have h7 : txt X (tokAt X e st) = (X.drop (atOf X e)).take ((nextAt X e st).2.1) := by
      unfold txt
      rw [List.drop_take]
      show (X.drop (atOf X e)).take (atOf X e + (nextAt X e st).2.1 - atOf X e) = _
      rw [Nat.add_sub_cancel_left]
    rw [h7, hXd, hnx, List.take_left]
  have hte : (tokAt X e st).e = atOf X e + x.length := by
    show atOf X e + (nextAt X e st).2.1 = _
    rw [hnx]
  have hst : stAt X e st = lineWith st k x := by
    unfold stAt; rw [htx, hnx]
  refine ⟨tokAt X e st, by show (nextAt X e st).1 = k; rw [hnx], ?_, htx, by rw [hte]; omega, ?_, ?_⟩
  · show decide (e < atOf X e) = _
    rw [ha]
    cases W with
    | nil => simp
    | cons c W => simp
  · rw [hte, ← List.drop_drop, hXd, List.drop_left]
  · rw [toks_cons (by omega) (by rw [hnx]), hst]

/-- Bare tokens: kind, text, white space or a comment ahead. -/
def outN (k : Nat) : Bool := k == 8 || k == 9
def btr (L : List UInt8) : Bool → List Tk → List (Nat × List UInt8 × Bool)
  | _, [] => []
  | f, t :: r => if outN t.k then btr L true r else (t.k, txt L t, t.sp || f) :: btr L false r
/-- One line's end, and nothing behind it. -/
def nlEnd : List Tk → Bool
  | [] => false
  | t :: r => if t.k == 9 then r.isEmpty else nlEnd r
/-- What may stand for white space. -/
def wsps : List (List UInt8) := [[32], [9], [32, 47, 42, 32, 120, 32, 42, 47], [32, 32], [32, 47, 42, 42, 47, 32, 47, 42, 32, 10, 32, 42, 47], [11, 12]]
/-- The new text: for each token what stands for white space or a comment, and the text. -/
def newR (L : List UInt8) (g : Nat → List UInt8) : Nat → List Tk → List UInt8
  | _, [] => []
  | i, t :: r => (if t.k = 8 ∨ t.sp = true then g i else []) ++ ((if t.k = 8 then [] else txt L t) ++ newR L g (i + 1) r)
/-- The texts of the tokens that stand side by side. -/
def runR (L : List UInt8) : List Tk → List UInt8
  | [] => []
  | t :: r => if t.k = 8 ∨ t.k = 9 ∨ t.sp = true then [] else txt L t ++ runR L r
end Go.Proofs.YtaodjipnffgihaaGreat

namespace Go.Proofs.YtaodjipnffgihaaGreat

theorem closed_noq {u : List UInt8} (h : ∀ c ∈ u, noQ c = true) : Closed u := by
  intro p y q hu _ hq
  exfalso
  have := h q (by rw [hu]; simp)
  rcases hq with rfl | rfl <;> exact absurd this (by decide)
def hd7 : List UInt8 := [35, 100, 101, 102, 105, 110, 101]
theorem start_toks {L r : List UInt8} (hL : L = hd7 ++ r) (hr : StopW r) : ∃ (t1 t2 : Tk) (e2 : Nat), toks L 0 0 = (t1 :: t2 :: (toks L e2 3).1, (toks L e2 3).2) ∧ t1.k = 5 ∧ t1.sp = false ∧ txt L t1 = [35] ∧ t2.k = 1 ∧ t2.sp = false ∧ txt L t2 = [100, 101, 102, 105, 110, 101] ∧ e2 ≤ L.length ∧ L.drop e2 = r := by
  have n1 : nextOf false (hd7 ++ r) = (5, 1, 0) := next_w hr (by decide) (closed_noq (by decide)) (by decide +kernel) (by decide)
  have n2 : nextOf false ([100, 101, 102, 105, 110, 101] ++ r) = (1, 6, 0) := next_w hr (by decide) (closed_noq (by decide)) (by decide +kernel) (by decide)
  have n1' : nextOf (0 == 2) ([35] ++ ([100, 101, 102, 105, 110, 101] ++ r)) = (5, ([35] : List UInt8).length, 0) := n1
  have n2' : nextOf (1 == 2) ([100, 101, 102, 105, 110, 101] ++ r) = (1, ([100, 101, 102, 105, 110, 101] : List UInt8).length, 0) := n2
  have hX : L.drop 0 = [] ++ ([35] ++ ([100, 101, 102, 105, 110, 101] ++ r)) := by rw [hL]; rfl
  have w1 : runLen isWS ([35] ++ ([100, 101, 102, 105, 110, 101] ++ r)) = 0 := by rw [List.cons_append, runLen, if_neg (by decide)]
  have w2 : runLen isWS ([100, 101, 102, 105, 110, 101] ++ r) = 0 := by rw [List.cons_append, runLen, if_neg (by decide)]
  clear n1 n2
  obtain ⟨t1, c1, c2, c3, c4, c5, c6⟩ := tok_next (Nat.zero_le _) hX (fun c h => by cases h) (by decide) w1 n1'
  obtain ⟨t2, d1, d2, d3, d4, d5, d6⟩ := tok_next (W := []) c4 c5 (fun c h => by cases h) (by decide) w2 n2'
  have e1 : lineWith 0 5 [35] = 1 := by decide
  have e2 : lineWith 1 1 [100, 101, 102, 105, 110, 101] = 3 := by decide
  rw [e1] at c6
  rw [e2] at d6
  rw [d6] at c6
  exact ⟨t1, t2, t2.e, c6, c1, c2, c3, d1, d2, d3, d4, d5⟩


end Go.Proofs.YtaodjipnffgihaaGreat
