/- The texts of a text's tokens, joined by blanks: what they hold. -/
import Derived.Test.YtoepfehgimhmnaaExtN
import Derived.Test.YtoepfehgimhmnaaPair
namespace Go.Proofs.Ytoepfehgimhmnaa

/-- What stands ahead of a token that is not the first. -/
def gap (k : Nat) : List UInt8 := if k = 9 then [] else [32]
def joinR (L : List UInt8) : List Tk → List UInt8
  | [] => []
  | t :: r => gap t.k ++ (txt L t ++ joinR L r)

theorem fold_pos (l : List UInt8) : ∀ (ks : List Nat) (a : Nat × Nat), (ks.foldl (better l) a) = a ∨ ∃ k ∈ ks, (ks.foldl (better l) a).1 = k ∧ measureOf k l = (ks.foldl (better l) a).2 ∧ 0 < (ks.foldl (better l) a).2
  | [], _ => .inl rfl
  | k :: ks, a => by
    rw [List.foldl_cons]
    rcases fold_pos l ks (better l a k) with h | ⟨k', h1, h2⟩
    · rw [h]
      unfold better
      split
      · exact .inr ⟨k, List.mem_cons_self, rfl, rfl, by simp only; omega⟩
      · exact .inl rfl
    · exact .inr ⟨k', List.mem_cons_of_mem _ h1, h2⟩
theorem longest_nine {l : List UInt8} (h : (longestOf l).1 = 9) : ∃ r, l = 10 :: r := by
  unfold longestOf at h
  simp only at h
  split at h
  · exact absurd h (by decide)
  · rcases fold_pos l [1, 2, 3, 4, 5, 9] (0, 0) with h1 | ⟨k, _, h2, h3, h4⟩
    · have := congrArg Prod.fst h1
      rw [h] at this; exact absurd this (by decide)
    · rw [h] at h2
      subst h2
      rw [← h3] at h4
      have h5 : 0 < nlLen l := h4
      cases l with
      | nil => exact absurd h5 (by decide)
      | cons c r =>
        rw [nlLen] at h5
        by_cases hc : (c == 10) = true
        · exact ⟨r, by rw [eq_of_beq hc]⟩
        · rw [if_neg hc] at h5; exact absurd h5 (by decide)
theorem next_nine {inc : Bool} {l : List UInt8} {n : Nat} (h : nextOf inc l = (9, n, 0)) : ∃ r, l = 10 :: r := by
  unfold nextOf at h
  split at h
  · simp only [Prod.mk.injEq] at h; exact absurd h.1 (by decide)
  · split at h
    · split at h <;> simp at h
    · split at h
      · simp at h
      · simp only [Prod.mk.injEq] at h; exact longest_nine h.1

theorem measures_ten (l : List UInt8) : measureOf 1 (10 :: l) = 0 ∧ measureOf 2 (10 :: l) = 0 ∧ measureOf 3 (10 :: l) = 0 ∧ measureOf 4 (10 :: l) = 0 ∧ measureOf 5 (10 :: l) = 0 ∧ measureOf 9 (10 :: l) = 1 := by
  refine ⟨rfl, rfl, rfl, rfl, ?_, rfl⟩
  exact Nat.le_zero.1 (punctDown_stop (c := 10) (s := l) (.inr rfl) [] _)
theorem longest_ten (l : List UInt8) : longestOf (10 :: l) = (9, 1) := by
  obtain ⟨h1, h2, h3, h4, h5, h9⟩ := measures_ten l
  unfold longestOf
  simp only [List.foldl_cons, List.foldl_nil, better, h1, h2, h3, h4, h5, h9]
  rfl
theorem next_ten (inc : Bool) (l : List UInt8) : nextOf inc (10 :: l) = (9, 1, 0) := by
  unfold nextOf
  have h1 : headerLen (10 :: l) = 0 := rfl
  have h2 : isComment (10 :: l) = false := rfl
  rw [h1, h2, longest_ten]
  simp

def nw (c : UInt8) : Bool := !isWS c
theorem closeN_filter {q : UInt8} (hq : isWS q = false) : ∀ l : List UInt8, (closeN q (l.filter nw)).isSome = (closeN q l).isSome
  | [] => rfl
  | c :: l => by
    have ih := closeN_filter hq l
    by_cases hw : isWS c = true
    · have h10 : (c == 10) = false := beq_eq_false_iff_ne.2 fun e => by rw [e] at hw; exact absurd hw (by decide)
      have hcq : (c == q) = false := beq_eq_false_iff_ne.2 fun e => by rw [e, hq] at hw; cases hw
      rw [List.filter_cons_of_neg (by unfold nw; rw [hw]; decide), ih, closeN, h10, hcq]
      cases closeN q l <;> rfl
    · rw [List.filter_cons_of_pos (by unfold nw; rw [Bool.eq_false_iff.2 hw]; rfl), closeN, closeN]
      split
      · rfl
      · split
        · rfl
        · cases h1 : closeN q (l.filter nw) <;> cases h2 : closeN q l <;> simp_all
theorem header_filter {c : UInt8} {l l' : List UInt8} (h : l.filter nw = l'.filter nw) : headerLen (c :: l) = 0 ↔ headerLen (c :: l') = 0 := by
  have e34 : (closeN 34 l).isSome = (closeN 34 l').isSome := by rw [← closeN_filter (by decide) l, h, closeN_filter (by decide) l']
  have e62 : (closeN 62 l).isSome = (closeN 62 l').isSome := by rw [← closeN_filter (by decide) l, h, closeN_filter (by decide) l']
  rw [header_cons, header_cons]
  split
  · cases h1 : closeN 34 l <;> cases h2 : closeN 34 l' <;> simp_all
  · split
    · cases h1 : closeN 62 l <;> cases h2 : closeN 62 l' <;> simp_all
    · exact Iff.rfl

theorem filter_ws : ∀ l : List UInt8, (l.drop (runLen isWS l)).filter nw = l.filter nw
  | [] => rfl
  | c :: l => by
    by_cases hw : isWS c = true
    · rw [runLen, if_pos hw, List.drop_succ_cons, filter_ws l, List.filter_cons_of_neg (by unfold nw; rw [hw]; decide)]
    · rw [runLen, if_neg hw, List.drop_zero]
theorem gap_filter (k : Nat) : (gap k).filter nw = [] := by
  unfold gap; split <;> rfl
theorem txt_drop {L : List UInt8} {t : Tk} (h : t.a ≤ t.e) (_h2 : t.e ≤ L.length) : L.drop t.a = txt L t ++ L.drop t.e := by
  have h1 : (L.drop t.a).drop (t.e - t.a) = L.drop t.e := by rw [List.drop_drop]; congr 1; omega
  have h2 : txt L t = (L.drop t.a).take (t.e - t.a) := by unfold txt; rw [List.drop_take]
  rw [h2, ← h1, List.take_append_drop]
theorem join_filter {L : List UInt8} : ∀ (m e st : Nat), L.length - e ≤ m → e ≤ L.length → (toks L e st).2 = 0 → (joinR L (toks L e st).1).filter nw = (L.drop e).filter nw := by
  intro m
  induction m with
  | zero =>
    intro e st hm he _
    have := atOf_ge L e
    rw [toks_end he (by omega), List.drop_eq_nil_of_le (by omega)]; rfl
  | succ m ih =>
    intro e st hm he h0
    have hg := atOf_ge L e
    have hw : (L.drop (atOf L e)).filter nw = (L.drop e).filter nw := by
      unfold atOf; rw [← List.drop_drop]; exact filter_ws _
    by_cases h1 : L.length ≤ atOf L e
    · rw [toks_end he h1, ← hw, List.drop_eq_nil_of_le h1]; rfl
    · by_cases h2 : (nextAt L e st).2.2 = 0
      · rw [toks_cons (by omega) h2] at h0 ⊢
        have h3 := nextAt_len (by omega) h2
        have h5 : (tokAt L e st).e = atOf L e + (nextAt L e st).2.1 := rfl
        have h6 : (tokAt L e st).a = atOf L e := rfl
        have ih1 := ih (tokAt L e st).e (stAt L e st) (by rw [h5]; omega) (by rw [h5]; exact h3.2) h0
        rw [joinR, List.filter_append, gap_filter, List.nil_append, List.filter_append, ih1, ← List.filter_append, ← txt_drop (by rw [h5, h6]; omega) (by rw [h5]; exact h3.2), h6, hw]
      · rw [toks_err (by omega) h2] at h0; exact absurd h0 h2

end Go.Proofs.Ytoepfehgimhmnaa
