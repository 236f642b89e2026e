/- What layer 2 says of a logical text, on lists of bytes. -/
import Derived.Test.YtaodjipnffgihaaSpec
namespace Go.Proofs.Ytaodjipnffgihaa

def isWS (c : UInt8) : Bool := c == 32 || c == 9 || c == 11 || c == 12
def isLet (c : UInt8) : Bool := (97 ≤ c && c ≤ 122) || (65 ≤ c && c ≤ 90) || c == 95
def isDig (c : UInt8) : Bool := 48 ≤ c && c ≤ 57
def isExp (c : UInt8) : Bool := c == 101 || c == 69 || c == 112 || c == 80
def isSgn (c : UInt8) : Bool := c == 43 || c == 45
def isAln (c : UInt8) : Bool := isLet c || isDig c
def isNum (c : UInt8) : Bool := isDig c || isLet c || c == 46

/-- How many bytes at a list's beginning are of a kind. -/
def runLen (p : UInt8 → Bool) : List UInt8 → Nat
  | [] => 0
  | c :: r => if p c then runLen p r + 1 else 0

def wordLen : List UInt8 → Nat
  | [] => 0
  | c :: r => if isLet c then runLen isAln r + 1 else 0

def numTail : List UInt8 → Nat
  | [] => 0
  | [c] => if isNum c then 1 else 0
  | c :: d :: r => if isExp c && isSgn d then numTail r + 2 else if isNum c then numTail (d :: r) + 1 else 0

/-- With how many bytes a number begins: a digit, or a point and a digit. -/
def numStart : List UInt8 → Nat
  | [] => 0
  | c :: r => if isDig c then 1 else if c == 46 && (match r with | d :: _ => isDig d | [] => false) then 2 else 0

def numLen (l : List UInt8) : Nat := if numStart l = 0 then 0 else numStart l + numTail (l.drop (numStart l))

/-- How many bytes of pieces there are ahead of the closing quote. -/
def bodyLen (q : UInt8) : List UInt8 → Option Nat
  | [] => none
  | c :: r => if c == q then some 0 else if c == 10 then none else if c == 92 then
      (match r with | [] => none | d :: r' => if d == 10 then none else (bodyLen q r').map (· + 2))
    else (bodyLen q r).map (· + 1)

/-- A literal without a prefix, with at least so many pieces' bytes. -/
def litLen (q : UInt8) (f : Nat) : List UInt8 → Nat
  | [] => 0
  | c :: r => if c == q then (match bodyLen q r with | some n => if n < f then 0 else n + 2 | none => 0) else 0

def quotedLen (q : UInt8) (f : Nat) (l : List UInt8) : List (List UInt8) → Nat
  | [] => 0
  | p :: ps => if p.isPrefixOf l && litLen q f (l.drop p.length) != 0 then p.length + litLen q f (l.drop p.length) else quotedLen q f l ps

def chPre : List (List UInt8) := [[], [117], [85], [76]]
def stPre : List (List UInt8) := [[], [117, 56], [117], [85], [76]]

def puncts : List (List UInt8) := [[91], [93], [40], [41], [123], [125], [46], [45, 62], [43, 43], [45, 45], [38], [42], [43], [45], [126], [33], [47], [37], [60, 60], [62, 62], [60], [62], [60, 61], [62, 61], [61, 61], [33, 61], [94], [124], [38, 38], [124, 124], [63], [58], [59], [46, 46, 46], [61], [42, 61], [47, 61], [37, 61], [43, 61], [45, 61], [60, 60, 61], [62, 62, 61], [38, 61], [94, 61], [124, 61], [44], [35], [35, 35], [60, 58], [58, 62], [60, 37], [37, 62], [37, 58], [37, 58, 37, 58]]
def isPunctB (l : List UInt8) : Bool := puncts.contains l
def punctDown (l : List UInt8) : Nat → Nat
  | 0 => 0
  | n + 1 => if isPunctB (l.take (n + 1)) then n + 1 else punctDown l n
def punctLen (l : List UInt8) : Nat := punctDown l (min l.length 4)

def nlLen : List UInt8 → Nat
  | [] => 0
  | c :: _ => if c == 10 then 1 else 0

/-- The length of the longest token of a kind. -/
def measureOf (k : Nat) (l : List UInt8) : Nat :=
  if k = 1 then wordLen l else if k = 2 then numLen l else if k = 3 then quotedLen 39 1 l chPre else if k = 4 then quotedLen 34 0 l stPre
  else if k = 5 then punctLen l else if k = 9 then nlLen l else 0

def better (l : List UInt8) (a : Nat × Nat) (k : Nat) : Nat × Nat := if a.2 < measureOf k l then (k, measureOf k l) else a
def isQuote (c : UInt8) : Bool := c == 39 || c == 34

/-- The longest token: its kind and its length; 0, 0: none begins there. -/
def longestOf (l : List UInt8) : Nat × Nat :=
  let a := [1, 2, 3, 4, 5, 9].foldl (better l) (0, 0)
  if a.2 = 0 && !isQuote (l.headD 0) then (6, 1) else a

def closeN (q : UInt8) : List UInt8 → Option Nat
  | [] => none
  | c :: r => if c == 10 then none else if c == q then some 0 else (closeN q r).map (· + 1)
def headerLen : List UInt8 → Nat
  | [] => 0
  | c :: r => if c == 34 then (match closeN 34 r with | some n => n + 2 | none => 0) else if c == 60 then (match closeN 62 r with | some n => n + 2 | none => 0) else 0

def closeC : List UInt8 → Option Nat
  | [] => none
  | c :: r => if c == 42 && r.head? == some 47 then some 0 else (closeC r).map (· + 1)
def notNl (c : UInt8) : Bool := !(c == 10)
/-- The length of the comment that begins a list; 0: it does not end. -/
def commentLen (l : List UInt8) : Nat :=
  if [47, 47].isPrefixOf l then 2 + runLen notNl (l.drop 2) else match closeC (l.drop 2) with | some n => n + 4 | none => 0
def isComment (l : List UInt8) : Bool := [47, 42].isPrefixOf l || [47, 47].isPrefixOf l

/-- The kind and the length of the token with which a list begins, and the error if it is rejected there. -/
def nextOf (inc : Bool) (l : List UInt8) : Nat × Nat × Nat :=
  if inc && headerLen l != 0 then (7, headerLen l, 0)
  else if isComment l then (if commentLen l = 0 then (0, 0, 20) else (8, commentLen l, 0))
  else if (longestOf l).2 = 0 then (0, 0, 21) else ((longestOf l).1, (longestOf l).2, 0)

/-- What the tokens of a line are: 0 there are none, 1 the sign of a directive, 2 that and include, 3 anything else. -/
def lineWith (st : Nat) (k : Nat) (t : List UInt8) : Nat :=
  if k = 8 then st else if k = 9 then 0 else if st = 0 && (t == [35] || t == [37, 58]) then 1
  else if st = 1 && t == [105, 110, 99, 108, 117, 100, 101] then 2 else 3

/-- A token of a logical text: its kind, where it begins and ends, whether white space is ahead of it. -/
structure Tk where
  k : Nat
  a : Nat
  e : Nat
  sp : Bool
  deriving DecidableEq

def txt (l : List UInt8) (t : Tk) : List UInt8 := (l.take t.e).drop t.a

/-- The tokens from a place on, and the error with which the text is rejected (0: none). -/
def toksF : Nat → List UInt8 → Nat → Nat → List Tk × Nat
  | 0, _, _, _ => ([], 0)
  | f + 1, l, e, st =>
    let a := e + runLen isWS (l.drop e)
    if l.length ≤ a then ([], 0) else
    let x := nextOf (st == 2) (l.drop a)
    if x.2.2 ≠ 0 then ([], x.2.2) else
    let t : Tk := ⟨x.1, a, a + x.2.1, decide (e < a)⟩
    let y := toksF f l (a + x.2.1) (lineWith st x.1 (txt l t))
    (t :: y.1, y.2)

end Go.Proofs.Ytaodjipnffgihaa
