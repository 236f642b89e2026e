/- Several texts laid together. -/
import Derived.Laws.Strings
import Derived.Test.YtaodjipnffgihaaGreatMzA

namespace Go.Proofs.YtaodjipnffgihaaGreat

theorem size_list (s : ByteArray) : s.data.toList.length = s.size := rfl

theorem data_drop (s : ByteArray) (k : Nat) (h : k < s.size) : s.data.toList.drop k = s[k] :: s.data.toList.drop (k + 1) := by
  rw [List.drop_eq_getElem_cons (by rw [size_list]; exact h)]
  rfl

theorem data_get (s : ByteArray) (k : Nat) (h : k < s.size) : s.data.toList[k]? = some s[k] := by
  rw [List.getElem?_eq_getElem (by rw [size_list]; exact h)]
  rfl

theorem extract_list (s : ByteArray) (a b : Nat) : (s.extract a b).data.toList = (s.data.toList.take b).drop a := by
  rw [ByteArray.data_extract, Array.toList_extract, List.extract_eq_take_drop, List.drop_take]

theorem extract_end (s : ByteArray) (a : Nat) : (s.extract a s.size).data.toList = s.data.toList.drop a := by
  rw [extract_list, List.take_of_length_le (by rw [size_list]; exact Nat.le_refl _)]

theorem tri_short {l : List UInt8} (h : l.length < 3) : tri l = none := by
  match l, h with
  | [], _ => rfl
  | [_], _ => rfl
  | [_, _], _ => rfl
  | _ :: _ :: _ :: _, h => simp at h; omega

theorem triAt_short {s : ByteArray} {k : Nat} (h : s.size < k + 3) : tri (s.data.toList.drop k) = none := by
  apply tri_short
  rw [List.length_drop, size_list]
  omega

theorem triAt {s : ByteArray} {k : Nat} (h : k + 3 ≤ s.size) : tri (s.data.toList.drop k) = if s[k] = 63 ∧ s[k + 1] = 63 then third s[k + 2] else none := by
  rw [data_drop s k (by omega), data_drop s (k + 1) (by omega), data_drop s (k + 1 + 1) (by omega)]
  rfl

theorem tri0 {s : ByteArray} (h : 3 ≤ s.size) : tri s.data.toList = if s[0] = 63 ∧ s[1] = 63 then third s[2] else none := by
  have := triAt (s := s) (k := 0) (by omega)
  simpa using this

theorem extract02 {s : ByteArray} (h : 3 ≤ s.size) : (s.extract 0 2).toList = [s[0], s[1]] := by
  rw [ByteArray.toList_eq, extract_list]
  have h0 := data_drop s 0 (by omega)
  have h1 := data_drop s (0 + 1) (by omega)
  rw [h1] at h0
  rw [List.drop_zero] at h0
  rw [h0]
  rfl

theorem head_drop (l : List UInt8) (n : Nat) : (l.drop n).head? = l[n]? := by rw [List.head?_drop]
section
variable {s : ByteArray} {k : Nat}
theorem drop_get (j : Nat) (h : k + j < s.size) : (s.data.toList.drop k)[j]? = some s[k + j] := by
  rw [List.getElem?_drop, data_get s _ h]
theorem drop_none (j : Nat) (h : s.size ≤ k + j) : (s.data.toList.drop k)[j]? = none := by
  rw [List.getElem?_drop, List.getElem?_eq_none (by rw [size_list]; exact h)]

end

end Go.Proofs.YtaodjipnffgihaaGreat

namespace Go.Proofs.YtaodjipnffgihaaGreat

/-- Would the first byte of a list and the next one be read as something else? -/
def misr (l : List UInt8) : Bool := (l[0]? == some 92 && l[1]? == some 10) || isTri l

def spellStep (l : List UInt8) (i : Nat) : List UInt8 := (l.drop i).take 1 ++ if misr (l.drop i) then [92, 10] else []
/-- How a list is spelt. -/
def spellUpto (l : List UInt8) : Nat → List UInt8
  | 0 => []
  | k + 1 => spellUpto l k ++ spellStep l k

theorem spellStep_le (l : List UInt8) (k : Nat) : (spellStep l k).length ≤ 3 := by
  unfold spellStep
  have : ((l.drop k).take 1).length ≤ 1 := List.length_take_le _ _
  split <;> simp at * <;> omega

theorem spellUpto_le (l : List UInt8) (k : Nat) : (spellUpto l k).length ≤ 3 * k := by
  induction k with
  | zero => simp [spellUpto]
  | succ k ih => simp only [spellUpto, List.length_append]; have := spellStep_le l k; omega

theorem spellStep_yes {s : ByteArray} {k : Nat} (h : k < s.size) (hm : misr (s.data.toList.drop k) = true) : spellStep s.data.toList k = [s[k]] ++ [92, 10] := by
  unfold spellStep; rw [hm, data_drop s k h]; rfl
theorem spellStep_no {s : ByteArray} {k : Nat} (h : k < s.size) (hm : misr (s.data.toList.drop k) = false) : spellStep s.data.toList k = [s[k]] := by
  unfold spellStep; rw [hm, data_drop s k h]; rfl

/-- A text may be spelt as far as its end goes. -/
def endsTen (l : List UInt8) : Bool := l == [] || l.getLast? == some 10

/-- What Spell answers: a text, an error's number. -/
def spellOut (l : List UInt8) : List UInt8 × Int :=
  if 65536 < l.length then ([], 3) else if endsTen l = false then ([], 10) else if 65536 < (spellUpto l l.length).length then ([], 3) else (spellUpto l l.length, 0)

theorem spellOut_long {s : ByteArray} (h : 65536 < s.size) : spellOut s.data.toList = ([], 3) := by
  unfold spellOut; rw [if_pos (by rw [size_list]; exact h)]
theorem spellOut_end {s : ByteArray} (h : ¬ 65536 < s.size) (h2 : endsTen s.data.toList = false) : spellOut s.data.toList = ([], 10) := by
  unfold spellOut; rw [if_neg (by rw [size_list]; exact h), if_pos h2]
theorem spellOut_big {s : ByteArray} (h : ¬ 65536 < s.size) (h2 : endsTen s.data.toList = true) (h3 : 65536 < (spellUpto s.data.toList s.size).length) : spellOut s.data.toList = ([], 3) := by
  unfold spellOut; rw [if_neg (by rw [size_list]; exact h), if_neg (by rw [h2]; decide), if_pos (by rw [size_list]; exact h3)]
theorem spellOut_ok {s : ByteArray} (h : ¬ 65536 < s.size) (h2 : endsTen s.data.toList = true) (h3 : ¬ 65536 < (spellUpto s.data.toList s.size).length) : spellOut s.data.toList = (spellUpto s.data.toList s.size, 0) := by
  unfold spellOut; rw [if_neg (by rw [size_list]; exact h), if_neg (by rw [h2]; decide), if_neg (by rw [size_list]; exact h3), size_list]

theorem ends_empty {s : ByteArray} (h : s.size = 0) : endsTen s.data.toList = true := by
  have : s.data.toList = [] := List.length_eq_zero_iff.1 (by rw [size_list]; exact h)
  simp [endsTen, this]
theorem ends_last {s : ByteArray} (h : 0 < s.size) : endsTen s.data.toList = decide (s[s.size - 1] = 10) := by
  have h1 : s.data.toList ≠ [] := fun h2 => by have := size_list s; rw [h2] at this; simp at this; omega
  have h2 : s.data.toList.getLast? = some s[s.size - 1] := by
    rw [List.getLast?_eq_getElem?, size_list, data_get s _ (by omega)]
  simp only [endsTen, h2]
  rw [show (s.data.toList == []) = false from by simpa using h1]
  by_cases h3 : s[s.size - 1] = 10 <;> simp [h3]

end Go.Proofs.YtaodjipnffgihaaGreat

namespace Go.Proofs.YtaodjipnffgihaaGreat

theorem part_drop_lt {l : List UInt8} (h : l ≠ []) : (l.drop (partN l)).length < l.length := by
  have := partN_pos l
  have h2 : 0 < l.length := List.length_pos_iff.2 h
  rw [List.length_drop]; omega

/-- The bytes of a list's characters; how many splices it has; does its last part end it well? -/
def lg (l : List UInt8) : List UInt8 :=
  if h : l = [] then [] else (if isSplice l then [] else [charB l]) ++ lg (l.drop (partN l))
termination_by l.length
decreasing_by exact part_drop_lt h

def ns (l : List UInt8) : Nat :=
  if h : l = [] then 0 else (if isSplice l then 1 else 0) + ns (l.drop (partN l))
termination_by l.length
decreasing_by exact part_drop_lt h

def wl (l : List UInt8) : Bool :=
  if h : l = [] then true else if l.drop (partN l) = [] then !isSplice l && charB l == 10 else wl (l.drop (partN l))
termination_by l.length
decreasing_by exact part_drop_lt h

theorem lg_nil : lg [] = [] := by rw [lg]; rfl
theorem ns_nil : ns [] = 0 := by rw [ns]; rfl
theorem wl_nil : wl [] = true := by rw [wl]; rfl
theorem lg_cons {l : List UInt8} (h : l ≠ []) : lg l = (if isSplice l then [] else [charB l]) ++ lg (l.drop (partN l)) := by rw [lg, dif_neg h]
theorem ns_cons {l : List UInt8} (h : l ≠ []) : ns l = (if isSplice l then 1 else 0) + ns (l.drop (partN l)) := by rw [ns, dif_neg h]
theorem wl_cons {l : List UInt8} (h : l ≠ []) : wl l = if l.drop (partN l) = [] then !isSplice l && charB l == 10 else wl (l.drop (partN l)) := by rw [wl, dif_neg h]

theorem isTri_of_none {l : List UInt8} (h : tri l = none) : isTri l = false := by simp [isTri, h]

/-- A list that begins with no trigraph: its first byte is its first character. -/
theorem char_plain {c : UInt8} {r : List UInt8} (h : tri (c :: r) = none) : charB (c :: r) = c ∧ charN (c :: r) = 1 := by
  have ht := isTri_of_none h
  simp [charB, charN, ht]
theorem part_plain {c : UInt8} {r : List UInt8} (h : tri (c :: r) = none) (h2 : ¬ (c = 92 ∧ r.head? = some 10)) : isSplice (c :: r) = false ∧ charB (c :: r) = c ∧ partN (c :: r) = 1 := by
  obtain ⟨hb, hn⟩ := char_plain h
  have hs : isSplice (c :: r) = false := by
    simp only [isSplice, hb, hn, List.drop_succ_cons, List.drop_zero]
    cases hc : (c == 92 && r.head? == some 10) with
    | false => rfl
    | true => simp only [Bool.and_eq_true, beq_iff_eq] at hc; exact absurd hc h2
  exact ⟨hs, hb, by simp [partN, hs, hn]⟩
theorem part_splice (r : List UInt8) : isSplice (92 :: 10 :: r) = true ∧ partN (92 :: 10 :: r) = 2 := by
  have ht : tri (92 :: 10 :: r) = none := by cases r <;> simp [tri]
  obtain ⟨hb, hn⟩ := char_plain ht
  have hs : isSplice (92 :: 10 :: r) = true := by simp [isSplice, hb, hn]
  exact ⟨hs, by simp [partN, hs, hn]⟩

theorem lg_plain {c : UInt8} {r : List UInt8} (h : tri (c :: r) = none) (h2 : ¬ (c = 92 ∧ r.head? = some 10)) : lg (c :: r) = c :: lg r := by
  obtain ⟨a, b, d⟩ := part_plain h h2
  rw [lg_cons (by simp), a, b, d]; rfl
theorem ns_plain {c : UInt8} {r : List UInt8} (h : tri (c :: r) = none) (h2 : ¬ (c = 92 ∧ r.head? = some 10)) : ns (c :: r) = ns r := by
  obtain ⟨a, b, d⟩ := part_plain h h2
  rw [ns_cons (by simp), a, d]; simp
theorem wl_plain {c : UInt8} {r : List UInt8} (h : tri (c :: r) = none) (h2 : ¬ (c = 92 ∧ r.head? = some 10)) : wl (c :: r) = if r = [] then c == 10 else wl r := by
  obtain ⟨a, b, d⟩ := part_plain h h2
  rw [wl_cons (by simp), a, b, d]; simp
theorem lg_splice (r : List UInt8) : lg (92 :: 10 :: r) = lg r := by
  obtain ⟨a, d⟩ := part_splice r
  rw [lg_cons (by simp), a, d]; rfl
theorem ns_splice (r : List UInt8) : ns (92 :: 10 :: r) = 1 + ns r := by
  obtain ⟨a, d⟩ := part_splice r
  rw [ns_cons (by simp), a, d]; rfl
theorem wl_splice (r : List UInt8) : wl (92 :: 10 :: r) = if r = [] then false else wl r := by
  obtain ⟨a, d⟩ := part_splice r
  rw [wl_cons (by simp), a, d]; simp

/-! ### How a text is spelt, by its suffixes -/

def spl : List UInt8 → List UInt8
  | [] => []
  | c :: r => c :: (if misr (c :: r) then 92 :: 10 :: spl r else spl r)

theorem spellUpto_spl (l : List UInt8) : ∀ k, k ≤ l.length → spellUpto l k ++ spl (l.drop k) = spl l := by
  intro k
  induction k with
  | zero => intro _; simp [spellUpto]
  | succ k ih =>
    intro hk
    have hd : l.drop k = l[k] :: l.drop (k + 1) := List.drop_eq_getElem_cons (by omega)
    rw [← ih (by omega), spellUpto, List.append_assoc]
    congr 1
    unfold spellStep
    rw [hd, spl]
    by_cases hm : misr (l[k] :: l.drop (k + 1)) = true
    · rw [if_pos hm, if_pos hm]; rfl
    · rw [if_neg hm, if_neg hm]; rfl

theorem spellUpto_all (l : List UInt8) : spellUpto l l.length = spl l := by
  have := spellUpto_spl l l.length (Nat.le_refl _)
  rw [List.drop_length] at this
  simpa [spl] using this

theorem spl_head (r : List UInt8) : (spl r).head? = r.head? := by cases r <;> simp [spl]
theorem spl_nil {r : List UInt8} (h : spl r = []) : r = [] := by cases r with | nil => rfl | cons c r => simp [spl] at h

theorem misr_parts {c : UInt8} {r : List UInt8} : misr (c :: r) = true ↔ (c = 92 ∧ r.head? = some 10) ∨ isTri (c :: r) = true := by
  simp only [misr, Bool.or_eq_true, Bool.and_eq_true, beq_iff_eq, List.getElem?_cons_zero, List.getElem?_cons_succ, Option.some.injEq]
  rw [List.head?_eq_getElem?]

theorem isTri_first {c : UInt8} {r : List UInt8} (h : isTri (c :: r) = true) : c = 63 := by
  match r, h with
  | [], h => simp [isTri, tri] at h
  | [_], h => simp [isTri, tri] at h
  | b :: d :: r, h =>
    by_cases h2 : c = 63 ∧ b = 63
    · exact h2.1
    · simp [isTri, tri, h2] at h

theorem third_slash : third 92 = none := by decide

theorem tri_spl_no {c : UInt8} {r : List UInt8} (h : isTri (c :: r) = false) : tri (c :: spl r) = none := by
  have h0 : tri (c :: r) = none := by
    cases ht : tri (c :: r) with
    | none => rfl
    | some x => simp [isTri, ht] at h
  match r with
  | [] => rfl
  | b :: r =>
    rw [spl]
    by_cases hm : misr (b :: r) = true
    · rw [if_pos hm]
      simp only [tri, third_slash, ite_self]
    · rw [if_neg hm]
      match r, h0 with
      | [], _ => rfl
      | d :: r, h0 =>
        rw [spl]
        simpa [tri] using h0

/-- THE MIDDLE OF IT: what is spelt reads as it was to be spelt; it is longer by two bytes a splice; it ends as the text ends. -/
theorem spl_reads (l : List UInt8) : lg (spl l) = l ∧ (spl l).length = l.length + 2 * ns (spl l) ∧ (l ≠ [] → l.getLast? = some 10 → wl (spl l) = true) := by
  induction l with
  | nil => simp [spl, lg_nil, ns_nil]
  | cons c r ih =>
    obtain ⟨i1, i2, i3⟩ := ih
    rw [spl]
    by_cases hm : misr (c :: r) = true
    · rw [if_pos hm]
      have hc : c = 92 ∨ c = 63 := by
        rcases misr_parts.1 hm with h | h
        · exact .inl h.1
        · exact .inr (isTri_first h)
      have ht : tri (c :: 92 :: 10 :: spl r) = none := by simp [tri]
      have hn : ¬ (c = 92 ∧ (92 :: 10 :: spl r).head? = some 10) := by simp
      have hr : r ≠ [] := by
        rintro rfl
        rcases misr_parts.1 hm with h | h
        · simp at h
        · simp [isTri, tri] at h
      rw [lg_plain ht hn, lg_splice, ns_plain ht hn, ns_splice, wl_plain ht hn, wl_splice, i1]
      refine ⟨rfl, by simp only [List.length_cons, i2]; omega, fun _ hl => ?_⟩
      have hs : spl r ≠ [] := fun h => hr (spl_nil h)
      rw [if_neg (by simp), if_neg hs]
      exact i3 hr (by rw [List.getLast?_cons_of_ne_nil hr] at hl; exact hl)
    · rw [if_neg hm]
      have hm2 := fun h => hm (misr_parts.2 h)
      have ht : tri (c :: spl r) = none := tri_spl_no (by cases h : isTri (c :: r) with | false => rfl | true => exact absurd (.inr h) hm2)
      have hn : ¬ (c = 92 ∧ (spl r).head? = some 10) := by
        rw [spl_head]
        exact fun h => hm2 (.inl h)
      rw [lg_plain ht hn, ns_plain ht hn, wl_plain ht hn, i1]
      refine ⟨rfl, by simp only [List.length_cons, i2]; omega, fun _ hl => ?_⟩
      by_cases hs : spl r = []
      · rw [if_pos hs]
        have hr := spl_nil hs
        subst hr
        simpa using hl
      · rw [if_neg hs]
        have hr : r ≠ [] := fun h => hs (by rw [h]; rfl)
        exact i3 hr (by rw [List.getLast?_cons_of_ne_nil hr] at hl; exact hl)

end Go.Proofs.YtaodjipnffgihaaGreat
