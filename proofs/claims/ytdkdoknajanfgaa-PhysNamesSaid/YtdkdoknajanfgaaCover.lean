/- Each byte of a text is a character's or a splice's, in order: on lists of bytes. -/
import Derived.Test.YtdkdoknajanfgaaInsert
import Derived.Test.YtdkdoknajanfgaaSplices
namespace Go.Proofs.Ytdkdoknajanfgaa

/-- Where a part begins, so many characters and splices stand ahead. -/
structure Cov (l : List UInt8) (cs ss : List Part) (pos i k : Nat) : Prop where
  le : pos ≤ l.length
  ch : cs.drop i = chs (partsFrom l pos)
  sp : ss.drop k = sps (partsFrom l pos)

theorem Cov.start {l : List UInt8} {cs ss : List Part} (h : chs (parts l) = cs) (h2 : sps (parts l) = ss) : Cov l cs ss 0 0 0 := ⟨Nat.zero_le _, h.symm, h2.symm⟩

theorem chs_cons (p : Part) (ps : List Part) : chs (p :: ps) = if p.sp then chs ps else p :: chs ps := by
  unfold chs
  rw [List.filter_cons]
  cases p.sp <;> rfl
theorem sps_cons' (p : Part) (ps : List Part) : sps (p :: ps) = if p.sp then p :: sps ps else sps ps := by
  unfold sps
  rw [List.filter_cons]

/-- All parts from a place on stand there or behind. -/
theorem parts_ge {l : List UInt8} {pos : Nat} {p : Part} (hp : p ∈ partsFrom l pos) : pos ≤ p.at' := (bd_of_part (l := l) _ pos rfl p hp).1

theorem drop_cons_next {α : Type} {xs ys : List α} {i : Nat} {x : α} (h : xs.drop i = x :: ys) : xs[i]? = some x ∧ xs.drop (i + 1) = ys ∧ i < xs.length := by
  have h1 : i < xs.length := by
    rcases Nat.lt_or_ge i xs.length with h2 | h2
    · exact h2
    · rw [List.drop_eq_nil_of_le h2] at h; cases h
  rw [List.drop_eq_getElem_cons h1] at h
  injection h with h2 h3
  exact ⟨by rw [List.getElem?_eq_getElem h1, h2], h3, h1⟩
theorem drop_all {α : Type} {xs : List α} {i : Nat} (h : xs.drop i = []) : xs.length ≤ i := by
  have := congrArg List.length h
  simp at this
  omega

/-- Where a splice stands: the splice to come is it; behind it the same holds. -/
theorem Cov.splice {l : List UInt8} {cs ss : List Part} {pos i k : Nat} (h : Cov l cs ss pos i k) (hp : pos < l.length) (hs : isSplice (l.drop pos) = true) :
    ss[k]? = some (partAt l pos) ∧ Cov l cs ss (pos + partN (l.drop pos)) i (k + 1) := by
  have e := partsFrom_cons hp
  have hsp : (partAt l pos).sp = true := hs
  have h1 := h.sp
  have h2 := h.ch
  rw [e, sps_cons', if_pos hsp] at h1
  rw [e, chs_cons, if_pos hsp] at h2
  obtain ⟨a, b, _⟩ := drop_cons_next h1
  have := partN_le (drop_ne hp)
  rw [List.length_drop] at this
  exact ⟨a, by omega, h2, b⟩

/-- Where a character stands: the character to come is it; behind it the same holds. -/
theorem Cov.char {l : List UInt8} {cs ss : List Part} {pos i k : Nat} (h : Cov l cs ss pos i k) (hp : pos < l.length) (hs : isSplice (l.drop pos) = false) :
    cs[i]? = some (partAt l pos) ∧ Cov l cs ss (pos + partN (l.drop pos)) (i + 1) k := by
  have e := partsFrom_cons hp
  have hsp : ¬ (partAt l pos).sp = true := by rw [show (partAt l pos).sp = isSplice (l.drop pos) from rfl, hs]; decide
  have h1 := h.sp
  have h2 := h.ch
  rw [e, sps_cons', if_neg hsp] at h1
  rw [e, chs_cons, if_neg hsp] at h2
  obtain ⟨a, b, _⟩ := drop_cons_next h2
  have := partN_le (drop_ne hp)
  rw [List.length_drop] at this
  exact ⟨a, by omega, b, h1⟩

/-- Where a character stands, the splice to come stands behind. -/
theorem Cov.later {l : List UInt8} {cs ss : List Part} {pos i k : Nat} (h : Cov l cs ss pos i k) (hp : pos < l.length) (hs : isSplice (l.drop pos) = false) {q : Part} (hq : ss[k]? = some q) : pos < q.at' := by
  have e := partsFrom_cons hp
  have hsp : ¬ (partAt l pos).sp = true := by rw [show (partAt l pos).sp = isSplice (l.drop pos) from rfl, hs]; decide
  have h1 := h.sp
  rw [e, sps_cons', if_neg hsp] at h1
  have hlt := (List.getElem?_eq_some_iff.1 hq).1
  have hm : q ∈ sps (partsFrom l (pos + partN (l.drop pos))) := by
    rw [← h1]
    refine List.mem_of_getElem? (i := 0) ?_
    rw [List.getElem?_drop]; exact hq
  have := parts_ge (List.mem_filter.1 hm).1
  have := partN_pos (l.drop pos)
  omega

/-- At the end: no character and no splice is to come. -/
theorem Cov.done {l : List UInt8} {cs ss : List Part} {i k : Nat} (h : Cov l cs ss l.length i k) : cs.length ≤ i ∧ ss.length ≤ k := by
  have e : partsFrom l l.length = [] := partsFrom_end (by omega)
  have h1 := h.sp
  have h2 := h.ch
  rw [e] at h1 h2
  exact ⟨drop_all h2, drop_all h1⟩

/-- A splice: its bytes. -/
theorem splice_bytes {l : List UInt8} (h : isSplice l = true) : (partN l = 2 ∨ partN l = 4) ∧ l[partN l - 1]? = some 10 := by
  have hn : partN l = charN l + 1 := by unfold partN; rw [if_pos h]
  rw [hn]
  simp only [isSplice, Bool.and_eq_true, beq_iff_eq] at h
  refine ⟨?_, ?_⟩
  · unfold charN
    split <;> simp
  · have := h.2
    rw [List.head?_drop] at this
    simpa using this

/-- A character: its bytes. -/
theorem char_bytes {l : List UInt8} (h : isSplice l = false) (hl : l ≠ []) :
    (partN l = 1 ∧ l[0]? = some (partB l)) ∨ (partN l = 3 ∧ l[0]? = some 63 ∧ l[1]? = some 63 ∧ ∃ c, l[2]? = some c ∧ isThird c = true ∧ thirdOf c = partB l) := by
  have hn : partN l = charN l := by unfold partN; rw [h]; rfl
  have hb : partB l = charB l := by unfold partB; rw [h]; rfl
  rw [hn, hb]
  cases ht : isTri l with
  | false =>
    refine .inl ⟨by unfold charN; rw [ht]; rfl, ?_⟩
    unfold charB
    rw [ht]
    cases l with
    | nil => exact absurd rfl hl
    | cons a r => rfl
  | true =>
    refine .inr ⟨by unfold charN; rw [ht]; rfl, ?_⟩
    match l, ht with
    | [], ht => simp [isTri, tri] at ht
    | [_], ht => simp [isTri, tri] at ht
    | [_, _], ht => simp [isTri, tri] at ht
    | a :: b :: c :: r, ht =>
      by_cases h2 : a = 63 ∧ b = 63
      · obtain ⟨rfl, rfl⟩ := h2
        have ht' : isThird c = true := by simpa [isTri, tri, isThird] using ht
        refine ⟨rfl, rfl, c, rfl, ht', ?_⟩
        unfold charB thirdOf
        rw [ht, if_pos rfl]
        simp [triOf, tri]
      · simp [isTri, tri, h2] at ht

theorem byte_at {s : ByteArray} {pos j : Nat} {b : UInt8} (h : (s.data.toList.drop pos)[j]? = some b) : pos + j < s.size ∧ ∀ hh : pos + j < s.size, s[pos + j] = b := by
  rw [List.getElem?_drop] at h
  have hl := (List.getElem?_eq_some_iff.1 h).1
  rw [size_list] at hl
  refine ⟨hl, fun hh => ?_⟩
  rw [data_get s _ hh] at h
  exact Option.some.inj h

theorem two_at {s : ByteArray} {pos : Nat} (h : pos + 2 ≤ s.size) (h0 : ∀ hh : pos + 0 < s.size, s[pos + 0] = 63) (h1 : ∀ hh : pos + 1 < s.size, s[pos + 1] = 63) : s.extract pos (pos + 2) = ⟨#[63, 63]⟩ := by
  have e : (s.extract pos (pos + 2)).data.toList = [63, 63] := by
    rw [extract_list, List.drop_take, data_drop s pos (by omega), data_drop s (pos + 1) (by omega)]
    have a := h0 (by omega)
    have b := h1 (by omega)
    simp only [Nat.add_zero] at a
    rw [a, b]
    have : pos + 2 - pos = 2 := by omega
    rw [this]
    rfl
  apply ByteArray.ext
  apply Array.toList_inj.1
  rw [e]

end Go.Proofs.Ytdkdoknajanfgaa
