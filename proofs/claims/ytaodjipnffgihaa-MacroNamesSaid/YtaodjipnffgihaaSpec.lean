/- What layer 1 says of a text, on lists of bytes. -/
namespace Go.Proofs.Ytaodjipnffgihaa

/-- The byte that the trigraph with this third byte stands for. -/
def third (c : UInt8) : Option UInt8 :=
  if c = 61 then some 35 else if c = 47 then some 92 else if c = 39 then some 94 else if c = 40 then some 91 else if c = 41 then some 93
  else if c = 33 then some 124 else if c = 60 then some 123 else if c = 62 then some 125 else if c = 45 then some 126 else none

def isThird (c : UInt8) : Bool := (third c).isSome
def thirdOf (c : UInt8) : UInt8 := (third c).getD 0

/-- The trigraph with which a list begins. -/
def tri : List UInt8 → Option UInt8
  | a :: b :: c :: _ => if a = 63 ∧ b = 63 then third c else none
  | _ => none

def isTri (l : List UInt8) : Bool := (tri l).isSome
def triOf (l : List UInt8) : UInt8 := (tri l).getD 0

/-- The character with which a list that is not empty begins, as if there were no splices: its byte, its length. -/
def charB (l : List UInt8) : UInt8 := if isTri l then triOf l else l.headD 0
def charN (l : List UInt8) : Nat := if isTri l then 3 else 1

/-- Does a list begin with a splice? -/
def isSplice (l : List UInt8) : Bool := charB l == 92 && (l.drop (charN l)).head? == some 10

def partB (l : List UInt8) : UInt8 := if isSplice l then 0 else charB l
def partN (l : List UInt8) : Nat := if isSplice l then charN l + 1 else charN l

theorem charN_pos (l : List UInt8) : 0 < charN l := by unfold charN; split <;> omega
theorem partN_pos (l : List UInt8) : 0 < partN l := by unfold partN; have := charN_pos l; split <;> omega

theorem isTri_len {l : List UInt8} (h : isTri l = true) : 3 ≤ l.length := by
  match l, h with
  | [], h => simp [isTri, tri] at h
  | [_], h => simp [isTri, tri] at h
  | [_, _], h => simp [isTri, tri] at h
  | _ :: _ :: _ :: _, _ => simp

theorem charN_le {l : List UInt8} (h : l ≠ []) : charN l ≤ l.length := by
  unfold charN
  split
  · rename_i h'; exact isTri_len h'
  · cases l with
    | nil => exact absurd rfl h
    | cons a r => simp

theorem partN_le {l : List UInt8} (h : l ≠ []) : partN l ≤ l.length := by
  unfold partN
  split
  · rename_i h'
    simp only [isSplice, Bool.and_eq_true, beq_iff_eq] at h'
    have h2 := h'.2
    rcases Nat.lt_or_ge (charN l) l.length with h3 | h3
    · exact h3
    · rw [List.drop_eq_nil_of_le h3] at h2; cases h2
  · exact charN_le h

/-- A part of a text: a character, or a splice (of which the byte is 0). -/
structure Part where
  b : UInt8
  at' : Nat
  n : Nat
  sp : Bool
  deriving DecidableEq

/-- The part with which a list begins that stands at a place. -/
def partAt (l : List UInt8) (k : Nat) : Part := ⟨partB (l.drop k), k, partN (l.drop k), isSplice (l.drop k)⟩

/-- The parts of a list, from a place on. -/
def partsFrom (l : List UInt8) (k : Nat) : List Part :=
  if _h : k < l.length then partAt l k :: partsFrom l (k + partN (l.drop k)) else []
termination_by l.length - k
decreasing_by have := partN_pos (l.drop k); omega

def parts (l : List UInt8) : List Part := partsFrom l 0

end Go.Proofs.Ytaodjipnffgihaa
