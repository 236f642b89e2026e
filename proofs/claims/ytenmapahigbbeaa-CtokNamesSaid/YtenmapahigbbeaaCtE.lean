/- Stage 4, pure: elements of constants and strings (CtokBytes of the document's answers). -/
import Derived.Test.YtenmapahigbbeaaCtS
namespace Go.Proofs.Ytenmapahigbbeaa

def simpleC (c : UInt8) : Nat :=
  if c = 39 ∨ c = 34 ∨ c = 63 ∨ c = 92 then c.toNat else if c = 97 then 7 else if c = 98 then 8 else if c = 102 then 12 else if c = 110 then 10 else if c = 114 then 13 else if c = 116 then 9 else if c = 118 then 11 else 0
/-- A number that stops growing at 2^40. -/
def capC (b : Nat) (l : List UInt8) : Nat := l.foldl (fun v c => min (v * b + worthC c) 1099511627776) 0
/-- The first element: its number, how many bytes; 0: there is none. -/
def oneC : List UInt8 → Nat × Nat
  | [] => (0, 0)
  | c :: r =>
    if c ≠ 92 then (c.toNat, 1)
    else match r with
      | [] => (0, 0)
      | d :: q =>
        if 0 < simpleC d then (simpleC d, 2)
        else if d = 120 then (if (digitsC 16 q).length = 0 then (0, 0) else (capC 16 (digitsC 16 q), (digitsC 16 q).length + 2))
        else if (digitsC 8 (d :: q)).length = 0 then (0, 0) else (capC 8 ((digitsC 8 (d :: q)).take 3), min 3 (digitsC 8 (d :: q)).length + 1)
def elemsC (top : Nat) : Nat → List UInt8 → Option (List Nat)
  | 0, l => if l = [] then some [] else none
  | f + 1, l => if l = [] then some [] else if (oneC l).2 = 0 ∨ top < (oneC l).1 then none else (elemsC top f (l.drop (oneC l).2)).map ((oneC l).1 :: ·)

def octC (b : UInt8) : List UInt8 := [92, 48 + b / 64, 48 + b / 8 % 8, 48 + b % 8]
def octsC (l : List UInt8) : List UInt8 := (l.map octC).flatten
theorem oct_worth (b : UInt8) : worthC (48 + b / 64) < 8 ∧ worthC (48 + b / 8 % 8) < 8 ∧ worthC (48 + b % 8) < 8 ∧ simpleC (48 + b / 64) = 0 ∧ 48 + b / 64 ≠ 120 ∧ capC 8 [48 + b / 64, 48 + b / 8 % 8, 48 + b % 8] = b.toNat := by
  have h : ∀ n, n < 256 → (fun b : UInt8 => worthC (48 + b / 64) < 8 ∧ worthC (48 + b / 8 % 8) < 8 ∧ worthC (48 + b % 8) < 8 ∧ simpleC (48 + b / 64) = 0 ∧ 48 + b / 64 ≠ 120 ∧ capC 8 [48 + b / 64, 48 + b / 8 % 8, 48 + b % 8] = b.toNat) (UInt8.ofNat n) := by decide +kernel
  have := h b.toNat b.toNat_lt
  rwa [UInt8.ofNat_toNat] at this
theorem one_oct (b : UInt8) (r : List UInt8) : oneC (octC b ++ r) = (b.toNat, 4) := by
  obtain ⟨h0, h1, h2, h3, h4, h5⟩ := oct_worth b
  have hd : digitsC 8 ((48 + b / 64) :: (48 + b / 8 % 8) :: (48 + b % 8) :: r) = (48 + b / 64) :: (48 + b / 8 % 8) :: (48 + b % 8) :: digitsC 8 r := by
    unfold digitsC
    simp only [List.takeWhile_cons, h0, h1, h2, decide_true, if_true]
  show oneC (92 :: (48 + b / 64) :: (48 + b / 8 % 8) :: (48 + b % 8) :: r) = _
  rw [oneC, if_neg (by simp)]
  rw [if_neg (by rw [h3]; decide), if_neg h4, hd, if_neg (by simp)]
  simp only [List.take_succ_cons, List.take_zero, h5, List.length_cons]
  congr 1
/-- Bytes as three octal digits each are these bytes. -/
theorem elems_octs (top : Nat) (ht : 255 ≤ top) : ∀ (l : List UInt8) (f : Nat), l.length ≤ f → elemsC top f (octsC l) = some (l.map UInt8.toNat)
  | [], 0, _ => rfl
  | [], f + 1, _ => rfl
  | b :: l, 0, h => by simp at h
  | b :: l, f + 1, h => by
    have e : octsC (b :: l) = octC b ++ octsC l := rfl
    have hb := b.toNat_lt
    rw [elemsC, if_neg (by rw [e]; simp [octC]), e, one_oct, if_neg (by simp; omega)]
    simp only
    rw [show (octC b ++ octsC l).drop 4 = octsC l from rfl, elems_octs top ht l f (by simpa using h)]
    rfl

end Go.Proofs.Ytenmapahigbbeaa
