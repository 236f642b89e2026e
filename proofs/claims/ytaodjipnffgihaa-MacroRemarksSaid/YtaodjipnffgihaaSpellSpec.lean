/- How a text is spelt, on lists of bytes. -/
import Derived.Test.YtaodjipnffgihaaBytes
namespace Go.Proofs.Ytaodjipnffgihaa

/-- Would the first byte of a list and the next one be read as something else? -/
def misr (l : List UInt8) : Bool := (l[0]? == some 92 && l[1]? == some 10) || isTri l

def spellStep (l : List UInt8) (i : Nat) : List UInt8 := (l.drop i).take 1 ++ if misr (l.drop i) then [92, 10] else []
/-- How a list is spelt. -/
def spellUpto (l : List UInt8) : Nat → List UInt8
  | 0 => []
  | k + 1 => spellUpto l k ++ spellStep l k

theorem spellStep_le (l : List UInt8) (k : Nat) : (spellStep l k).length ≤ 3 := by
  unfold spellStep
  have : ((l.drop k).take 1).length ≤ 1 := List.length_take_le _ _
  split <;> simp at * <;> omega

theorem spellUpto_le (l : List UInt8) (k : Nat) : (spellUpto l k).length ≤ 3 * k := by
  induction k with
  | zero => simp [spellUpto]
  | succ k ih => simp only [spellUpto, List.length_append]; have := spellStep_le l k; omega

theorem spellStep_yes {s : ByteArray} {k : Nat} (h : k < s.size) (hm : misr (s.data.toList.drop k) = true) : spellStep s.data.toList k = [s[k]] ++ [92, 10] := by
  unfold spellStep; rw [hm, data_drop s k h]; rfl
theorem spellStep_no {s : ByteArray} {k : Nat} (h : k < s.size) (hm : misr (s.data.toList.drop k) = false) : spellStep s.data.toList k = [s[k]] := by
  unfold spellStep; rw [hm, data_drop s k h]; rfl

/-- A text may be spelt as far as its end goes. -/
def endsTen (l : List UInt8) : Bool := l == [] || l.getLast? == some 10

/-- What Spell answers: a text, an error's number. -/
def spellOut (l : List UInt8) : List UInt8 × Int :=
  if 65536 < l.length then ([], 3) else if endsTen l = false then ([], 10) else if 65536 < (spellUpto l l.length).length then ([], 3) else (spellUpto l l.length, 0)

theorem spellOut_long {s : ByteArray} (h : 65536 < s.size) : spellOut s.data.toList = ([], 3) := by
  unfold spellOut; rw [if_pos (by rw [size_list]; exact h)]
theorem spellOut_end {s : ByteArray} (h : ¬ 65536 < s.size) (h2 : endsTen s.data.toList = false) : spellOut s.data.toList = ([], 10) := by
  unfold spellOut; rw [if_neg (by rw [size_list]; exact h), if_pos h2]
theorem spellOut_big {s : ByteArray} (h : ¬ 65536 < s.size) (h2 : endsTen s.data.toList = true) (h3 : 65536 < (spellUpto s.data.toList s.size).length) : spellOut s.data.toList = ([], 3) := by
  unfold spellOut; rw [if_neg (by rw [size_list]; exact h), if_neg (by rw [h2]; decide), if_pos (by rw [size_list]; exact h3)]
theorem spellOut_ok {s : ByteArray} (h : ¬ 65536 < s.size) (h2 : endsTen s.data.toList = true) (h3 : ¬ 65536 < (spellUpto s.data.toList s.size).length) : spellOut s.data.toList = (spellUpto s.data.toList s.size, 0) := by
  unfold spellOut; rw [if_neg (by rw [size_list]; exact h), if_neg (by rw [h2]; decide), if_neg (by rw [size_list]; exact h3), size_list]

theorem ends_empty {s : ByteArray} (h : s.size = 0) : endsTen s.data.toList = true := by
  have : s.data.toList = [] := List.length_eq_zero_iff.1 (by rw [size_list]; exact h)
  simp [endsTen, this]
theorem ends_last {s : ByteArray} (h : 0 < s.size) : endsTen s.data.toList = decide (s[s.size - 1] = 10) := by
  have h1 : s.data.toList ≠ [] := fun h2 => by have := size_list s; rw [h2] at this; simp at this; omega
  have h2 : s.data.toList.getLast? = some s[s.size - 1] := by
    rw [List.getLast?_eq_getElem?, size_list, data_get s _ (by omega)]
  simp only [endsTen, h2]
  rw [show (s.data.toList == []) = false from by simpa using h1]
  by_cases h3 : s[s.size - 1] = 10 <;> simp [h3]

end Go.Proofs.Ytaodjipnffgihaa
