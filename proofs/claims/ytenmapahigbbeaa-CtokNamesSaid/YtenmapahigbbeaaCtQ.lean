/- Stage 4, pure: which texts are character constants and strings; what stands ahead of their quotes and between them. -/
import Derived.Test.YtenmapahigbbeaaOneS
import Derived.Test.YtenmapahigbbeaaRefP
import Derived.Test.YtenmapahigbbeaaCtE
namespace Go.Proofs.Ytenmapahigbbeaa

theorem fold_posC (l : List UInt8) : ∀ (ks : List Nat) (a : Nat × Nat), (ks.foldl (better l) a) = a ∨ ∃ k ∈ ks, (ks.foldl (better l) a).1 = k ∧ measureOf k l = (ks.foldl (better l) a).2 ∧ 0 < (ks.foldl (better l) a).2
  | [], _ => .inl rfl
  | k :: ks, a => by
    rw [List.foldl_cons]
    rcases fold_posC l ks (better l a k) with h | ⟨k', h1, h2⟩
    · rw [h]
      unfold better
      split
      · exact .inr ⟨k, List.mem_cons_self, rfl, rfl, by simp only; omega⟩
      · exact .inl rfl
    · exact .inr ⟨k', List.mem_cons_of_mem _ h1, h2⟩
theorem longest_kind {l : List UInt8} {k n : Nat} (hk : k ≠ 6) (hn : n ≠ 0) (h : longestOf l = (k, n)) : measureOf k l = n := by
  unfold longestOf at h
  simp only at h
  split at h
  · rw [Prod.mk.injEq] at h; exact absurd h.1.symm hk
  · rcases fold_posC l [1, 2, 3, 4, 5, 9] (0, 0) with e | ⟨k', _, e1, e2, _⟩
    · rw [e, Prod.mk.injEq] at h; exact absurd h.2.symm hn
    · rw [h] at e1 e2
      simp only at e1 e2
      rw [e1]; exact e2

/-- What a text that is one token says of its next token. -/
theorem one_next {s : ByteArray} {k : Nat} (h : oneOf s = (k, true)) : nextOf false s.data.toList = (k, s.size, 0) ∧ 1 ≤ s.size := by
  have hsz := size_list s
  by_cases h1 : s.data.toList.length ≤ atOf s.data.toList 0
  · exfalso
    have : toksY s = [] := by unfold toksY; rw [toks_end (Nat.zero_le _) h1]; rfl
    unfold oneOf firstOf at h
    rw [this] at h
    simp at h
  · by_cases h2 : (nextAt s.data.toList 0 0).2.2 = 0
    · have h4 := nextAt_len (by omega) h2
      obtain ⟨r, hr⟩ : ∃ r, toksY s = tokY s (tokAt s.data.toList 0 0) :: r := ⟨_, by unfold toksY; rw [toks_cons (by omega) h2]; rfl⟩
      unfold oneOf firstOf at h
      rw [hr] at h
      have h5 : (if (tokY s (tokAt s.data.toList 0 0)).tx.toList == s.toList then ((tokY s (tokAt s.data.toList 0 0)).k, true) else (0, false)) = (k, true) := h
      by_cases h6 : ((tokY s (tokAt s.data.toList 0 0)).tx.toList == s.toList) = true
      · rw [if_pos h6, Prod.mk.injEq] at h5
        have h7 := congrArg List.length (eq_of_beq h6)
        rw [ByteArray.toList_eq, ByteArray.toList_eq, size_list, size_list] at h7
        have h8 : (tokY s (tokAt s.data.toList 0 0)).tx = s.extract (atOf s.data.toList 0) (atOf s.data.toList 0 + (nextAt s.data.toList 0 0).2.1) := rfl
        rw [h8, ByteArray.size_extract] at h7
        have h9 : atOf s.data.toList 0 = 0 := by omega
        have h10 : (nextAt s.data.toList 0 0).2.1 = s.size := by omega
        have h11 : nextAt s.data.toList 0 0 = nextOf false s.data.toList := by
          unfold nextAt
          rw [h9, List.drop_zero]; rfl
        have h12 : (nextAt s.data.toList 0 0).1 = k := h5.1
        refine ⟨?_, by rw [← h10]; exact h4.1⟩
        rw [← h11]
        exact Prod.ext_iff.2 ⟨h12, Prod.ext_iff.2 ⟨h10, h2⟩⟩
      · rw [if_neg h6, Prod.mk.injEq] at h5
        cases h5.2
    · exfalso
      have : toksY s = [] := by unfold toksY; rw [toks_err (by omega) h2]; rfl
      unfold oneOf firstOf at h
      rw [this] at h
      simp at h
theorem one_measure {s : ByteArray} {k : Nat} (hk : k ≠ 6) (hk8 : k ≠ 8) (h : oneOf s = (k, true)) : measureOf k s.data.toList = s.data.toList.length ∧ s.data.toList ≠ [] := by
  obtain ⟨h1, h2⟩ := one_next h
  have hne : s.data.toList ≠ [] := by intro e; have := size_list s; rw [e] at this; simp at this; omega
  refine ⟨?_, hne⟩
  unfold nextOf at h1
  rw [Bool.false_and, if_neg (by decide)] at h1
  split at h1
  · split at h1
    · rw [Prod.mk.injEq, Prod.mk.injEq] at h1; exact absurd h1.2.2 (by decide)
    · rw [Prod.mk.injEq] at h1; exact absurd h1.1.symm hk8
  · split at h1
    · rw [Prod.mk.injEq, Prod.mk.injEq] at h1; exact absurd h1.2.2 (by decide)
    · rw [Prod.mk.injEq, Prod.mk.injEq] at h1
      rw [size_list]
      exact longest_kind hk (by omega) (show longestOf s.data.toList = (k, s.size) from Prod.ext_iff.2 ⟨h1.1, h1.2.1⟩)

theorem lit_shape2 {q : UInt8} {f : Nat} {x : List UInt8} : ∀ {ps : List (List UInt8)}, litB q f x ps = true → ∃ p ∈ ps, shapeB q x p = true ∧ p.length + 2 + f ≤ x.length
  | [], h => by cases h
  | p :: ps, h => by
    rw [litB] at h
    by_cases h1 : shapeB q x p = true
    · rw [if_pos h1] at h
      exact ⟨p, List.mem_cons_self, h1, of_decide_eq_true h⟩
    · rw [if_neg h1] at h
      obtain ⟨p', h2, h3⟩ := lit_shape2 h
      exact ⟨p', List.mem_cons_of_mem _ h2, h3⟩
theorem chPre_noQ : ∀ p ∈ chPre, p.all noQ = true := by decide
theorem stPre_noQ : ∀ p ∈ stPre, p.all noQ = true := by decide

/-- A character constant: a prefix, a quote, pieces, a quote. -/
theorem char_text {s : ByteArray} (h : oneOf s = (3, true)) : ∃ p t, p ∈ chPre ∧ s.data.toList = p ++ 39 :: (t ++ [39]) ∧ 1 ≤ t.length := by
  obtain ⟨h1, h2⟩ := one_measure (by decide) (by decide) h
  obtain ⟨p, hp, h3, h4⟩ := lit_shape2 ((quoted_iff (.inl rfl) (Nat.le_refl _) h2 chPre_noQ).1 h1)
  obtain ⟨t, h5, h6⟩ := shape_iff.1 h3
  refine ⟨p, t, hp, h5, ?_⟩
  rw [h5] at h4
  simp at h4; omega
theorem str_text {s : ByteArray} (h : oneOf s = (4, true)) : ∃ p t, p ∈ stPre ∧ s.data.toList = p ++ 34 :: (t ++ [34]) := by
  obtain ⟨h1, h2⟩ := one_measure (by decide) (by decide) h
  obtain ⟨p, hp, h3, h4⟩ := lit_shape2 ((quoted_iff (.inr rfl) (Nat.zero_le _) h2 stPre_noQ).1 h1)
  obtain ⟨t, h5, h6⟩ := shape_iff.1 h3
  exact ⟨p, t, hp, h5⟩

/-! ### Prefix and body -/
def preC (l : List UInt8) : List UInt8 := l.takeWhile noQ
def bodyC (l : List UInt8) : List UInt8 := (l.drop ((preC l).length + 1)).dropLast
def topC (p : List UInt8) : Nat := if p = [117] then 65535 else if p = [85] ∨ p = [76] then 4294967295 else 255
theorem topC_le (p : List UInt8) : 255 ≤ topC p ∧ topC p ≤ 4294967295 := by
  unfold topC; split
  · exact ⟨by decide, by decide⟩
  · split <;> exact ⟨by decide, by decide⟩
theorem pre_of {p t : List UInt8} {q : UInt8} (hp : p.all noQ = true) (hq : noQ q = false) : preC (p ++ q :: (t ++ [q])) = p := by
  unfold preC
  induction p with
  | nil => rw [List.nil_append, List.takeWhile_cons, hq]; rfl
  | cons c p ih =>
    rw [List.all_cons, Bool.and_eq_true] at hp
    rw [List.cons_append, List.takeWhile_cons, hp.1, if_pos rfl, ih hp.2]
theorem body_of {p t : List UInt8} {q : UInt8} (hp : p.all noQ = true) (hq : noQ q = false) : bodyC (p ++ q :: (t ++ [q])) = t := by
  unfold bodyC
  rw [pre_of hp hq, List.drop_append, List.drop_eq_nil_of_le (by omega), List.nil_append, show p.length + 1 - p.length = 1 by omega, List.drop_one, List.tail_cons, List.dropLast_concat]
/-- A constant's or a string's elements. -/
def litC (l : List UInt8) : Option (List Nat) := elemsC (topC (preC l)) (bodyC l).length (bodyC l)
/-- A constant's value: of its elements without a prefix. -/
def packC (l : List Nat) : Int :=
  let v : Nat := l.foldl (fun v n => 256 * v + n) 0
  let z : Nat := 256 ^ l.length
  if z / 2 ≤ v then (v : Int) - z else v
def oneI : List Nat → Option Int
  | [n] => some (n : Int)
  | _ => none
def valC (p : List UInt8) (l : List Nat) : Option Int := if p = [] then (if 4 < l.length then none else some (packC l)) else oneI l
def charC (s : ByteArray) : Option Int := if oneOf s = (3, true) then (litC s.data.toList).bind (valC (preC s.data.toList)) else none
def errI : Option Int → Int × Nat
  | none => (0, 40)
  | some v => (v, 0)
def strC (s : ByteArray) : Option (List Nat) := if oneOf s = (4, true) then litC s.data.toList else none

/-! ### Octal digits, as a string -/
theorem oct_digits (b : UInt8) : (48 + b / 64 == 10) = false ∧ ((48 + b / 8 % 8 == 34 || 48 + b / 8 % 8 == 10) = false ∧ (48 + b / 8 % 8 == 92) = false) ∧ ((48 + b % 8 == 34 || 48 + b % 8 == 10) = false ∧ (48 + b % 8 == 92) = false) := by
  have h : ∀ n, n < 256 → (fun b : UInt8 => (48 + b / 64 == 10) = false ∧ ((48 + b / 8 % 8 == 34 || 48 + b / 8 % 8 == 10) = false ∧ (48 + b / 8 % 8 == 92) = false) ∧ ((48 + b % 8 == 34 || 48 + b % 8 == 10) = false ∧ (48 + b % 8 == 92) = false)) (UInt8.ofNat n) := by decide +kernel
  have := h b.toNat b.toNat_lt
  rwa [UInt8.ofNat_toNat] at this
theorem octs_pieces : ∀ l : List UInt8, piecesB 34 (octsC l) = true
  | [] => rfl
  | b :: l => by
    obtain ⟨h1, ⟨h2, h3⟩, h4, h5⟩ := oct_digits b
    show piecesB 34 (92 :: (48 + b / 64) :: (48 + b / 8 % 8) :: (48 + b % 8) :: octsC l) = true
    rw [piecesB_eq, if_neg (by decide), if_pos (by decide)]
    simp only
    rw [if_neg (by rw [h1]; decide), piecesB_eq, if_neg (by rw [h2]; decide), if_neg (by rw [h3]; decide), piecesB_eq, if_neg (by rw [h4]; decide), if_neg (by rw [h5]; decide)]
    exact octs_pieces l
theorem puncts_34 : ∀ x ∈ puncts, x.head? ≠ some 34 := by decide
theorem punct_34 (r : List UInt8) : ∀ n, punctDown (34 :: r) n = 0
  | 0 => rfl
  | n + 1 => by
    rw [punctDown, if_neg, punct_34 r n]
    intro h
    have h2 : puncts.contains ((34 :: r).take (n + 1)) = true := h
    exact puncts_34 _ (List.contains_iff_mem.1 h2) rfl
/-- A quote, pieces, a quote: a string. -/
theorem str_one {s : ByteArray} {t : List UInt8} (h : s.data.toList = 34 :: (t ++ [34])) (ht : piecesB 34 t = true) : oneOf s = (4, true) := by
  obtain ⟨L, hL⟩ : ∃ L, s.data.toList = L := ⟨_, rfl⟩
  have hsz := size_list s
  rw [hL] at h hsz
  have hsh : shapeB 34 L [] = true := shape_iff.2 ⟨t, h, ht⟩
  have hlen : L.length = t.length + 2 := by rw [h]; simp
  have hlit : litB 34 0 L stPre = true := by
    unfold stPre
    rw [litB, if_pos hsh]
    exact decide_eq_true (by rw [hlen]; simp)
  have hne : L ≠ [] := by rw [h]; simp
  have m4 : measureOf 4 L = L.length := (quoted_iff (.inr rfl) (Nat.zero_le _) hne stPre_noQ).2 hlit
  have m1 : measureOf 1 L = 0 := by rw [h]; rfl
  have m2 : measureOf 2 L = 0 := by rw [h]; unfold measureOf numLen numStart; rfl
  have m3 : measureOf 3 L = 0 := by rw [h]; rfl
  have m5 : measureOf 5 L = 0 := by rw [h]; exact punct_34 _ _
  have m9 : measureOf 9 L = 0 := by rw [h]; rfl
  have hlong : longestOf L = (4, L.length) := by
    unfold longestOf
    have hf : [1, 2, 3, 4, 5, 9].foldl (better L) (0, 0) = (4, L.length) := by
      have b1 : better L (0, 0) 1 = (0, 0) := by unfold better; rw [m1]; rfl
      have b2 : better L (0, 0) 2 = (0, 0) := by unfold better; rw [m2]; rfl
      have b3 : better L (0, 0) 3 = (0, 0) := by unfold better; rw [m3]; rfl
      have b4 : better L (0, 0) 4 = (4, L.length) := by unfold better; rw [m4, if_pos (by rw [hlen]; simp)]
      have b5 : better L (4, L.length) 5 = (4, L.length) := by unfold better; rw [m5, if_neg (by simp)]
      have b9 : better L (4, L.length) 9 = (4, L.length) := by unfold better; rw [m9, if_neg (by simp)]
      rw [List.foldl_cons, b1, List.foldl_cons, b2, List.foldl_cons, b3, List.foldl_cons, b4, List.foldl_cons, b5, List.foldl_cons, b9, List.foldl_nil]
    rw [hf]
    simp only
    rw [if_neg (by rw [hlen]; simp)]
  have hcom : isComment L = false := by rw [h]; rfl
  have hnext : nextOf false L = (4, s.size, 0) := by
    unfold nextOf
    rw [Bool.false_and, if_neg (by decide), hcom, if_neg (by decide), hlong, if_neg (by simp only; rw [hlen]; simp), hsz]
  have hw : runLen isWS L = 0 := by rw [h]; rfl
  have ha : atOf L 0 = 0 := by unfold atOf; rw [List.drop_zero, hw]
  have hx : nextAt L 0 0 = (4, s.size, 0) := by
    unfold nextAt
    rw [ha, List.drop_zero]; exact hnext
  have ht : tokAt L 0 0 = ⟨4, 0, 0 + s.size, false⟩ := by
    unfold tokAt; rw [hx, ha]; simp
  have hf : firstOf s 1 = [tokY s ⟨4, 0, 0 + s.size, false⟩] := by
    unfold firstOf toksY
    rw [hL, toks_cons (by rw [ha, hlen]; omega) (by rw [hx]), ht]
    rfl
  unfold oneOf
  rw [hf]
  have : ((tokY s ⟨4, 0, 0 + s.size, false⟩).tx.toList == s.toList) = true := by
    unfold tokY
    rw [ByteArray.toList_eq, ByteArray.toList_eq, extract_list, Nat.zero_add, List.drop_zero, List.take_of_length_le (Nat.le_refl s.size)]
    exact beq_self_eq_true _
  simp only [this]
  rfl
/-- CtokBytes of the document's answers. -/
theorem str_octs {s : ByteArray} {l : List UInt8} (h : s.data.toList = 34 :: (octsC l ++ [34])) : strC s = some (l.map UInt8.toNat) := by
  unfold strC
  rw [if_pos (str_one h (octs_pieces l)), h]
  unfold litC
  have hb := body_of (p := []) (t := octsC l) (q := 34) rfl rfl
  rw [List.nil_append] at hb
  rw [hb]
  refine elems_octs _ (topC_le _).1 l _ ?_
  clear h hb
  induction l with
  | nil => exact Nat.zero_le _
  | cons b l ih =>
    have e : octsC (b :: l) = octC b ++ octsC l := rfl
    rw [e, List.length_append, List.length_cons]
    show l.length + 1 ≤ 4 + _
    omega

end Go.Proofs.Ytenmapahigbbeaa
