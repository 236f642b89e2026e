/- Texts as lists of bytes; where a trigraph begins. -/
import Derived.Laws.Strings
import Derived.Test.YtaodjipnffgihaaMyA
namespace Go.Proofs.Ytaodjipnffgihaa

theorem size_list (s : ByteArray) : s.data.toList.length = s.size := rfl

theorem data_drop (s : ByteArray) (k : Nat) (h : k < s.size) : s.data.toList.drop k = s[k] :: s.data.toList.drop (k + 1) := by
  rw [List.drop_eq_getElem_cons (by rw [size_list]; exact h)]
  rfl

theorem data_get (s : ByteArray) (k : Nat) (h : k < s.size) : s.data.toList[k]? = some s[k] := by
  rw [List.getElem?_eq_getElem (by rw [size_list]; exact h)]
  rfl

theorem extract_list (s : ByteArray) (a b : Nat) : (s.extract a b).data.toList = (s.data.toList.take b).drop a := by
  rw [ByteArray.data_extract, Array.toList_extract, List.extract_eq_take_drop, List.drop_take]

theorem extract_end (s : ByteArray) (a : Nat) : (s.extract a s.size).data.toList = s.data.toList.drop a := by
  rw [extract_list, List.take_of_length_le (by rw [size_list]; exact Nat.le_refl _)]

theorem tri_short {l : List UInt8} (h : l.length < 3) : tri l = none := by
  match l, h with
  | [], _ => rfl
  | [_], _ => rfl
  | [_, _], _ => rfl
  | _ :: _ :: _ :: _, h => simp at h; omega

theorem triAt_short {s : ByteArray} {k : Nat} (h : s.size < k + 3) : tri (s.data.toList.drop k) = none := by
  apply tri_short
  rw [List.length_drop, size_list]
  omega

theorem triAt {s : ByteArray} {k : Nat} (h : k + 3 ≤ s.size) : tri (s.data.toList.drop k) = if s[k] = 63 ∧ s[k + 1] = 63 then third s[k + 2] else none := by
  rw [data_drop s k (by omega), data_drop s (k + 1) (by omega), data_drop s (k + 1 + 1) (by omega)]
  rfl

theorem tri0 {s : ByteArray} (h : 3 ≤ s.size) : tri s.data.toList = if s[0] = 63 ∧ s[1] = 63 then third s[2] else none := by
  have := triAt (s := s) (k := 0) (by omega)
  simpa using this

theorem extract02 {s : ByteArray} (h : 3 ≤ s.size) : (s.extract 0 2).toList = [s[0], s[1]] := by
  rw [ByteArray.toList_eq, extract_list]
  have h0 := data_drop s 0 (by omega)
  have h1 := data_drop s (0 + 1) (by omega)
  rw [h1] at h0
  rw [List.drop_zero] at h0
  rw [h0]
  rfl

theorem head_drop (l : List UInt8) (n : Nat) : (l.drop n).head? = l[n]? := by rw [List.head?_drop]
section
variable {s : ByteArray} {k : Nat}
theorem drop_get (j : Nat) (h : k + j < s.size) : (s.data.toList.drop k)[j]? = some s[k + j] := by
  rw [List.getElem?_drop, data_get s _ h]
theorem drop_none (j : Nat) (h : s.size ≤ k + j) : (s.data.toList.drop k)[j]? = none := by
  rw [List.getElem?_drop, List.getElem?_eq_none (by rw [size_list]; exact h)]

end

end Go.Proofs.Ytaodjipnffgihaa
