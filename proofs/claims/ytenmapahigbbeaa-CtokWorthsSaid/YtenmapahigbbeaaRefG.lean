/- The document's answer: the longest token. -/
import Derived.Test.YtenmapahigbbeaaRefO
namespace Go.Proofs.Ytenmapahigbbeaa
open Go.RowKit

theorem fold_posS (l : List UInt8) : ∀ (ks : List Nat) (a : Nat × Nat), (ks.foldl (better l) a) = a ∨ ∃ k ∈ ks, (ks.foldl (better l) a).1 = k ∧ measureOf k l = (ks.foldl (better l) a).2 ∧ 0 < (ks.foldl (better l) a).2
  | [], _ => .inl rfl
  | k :: ks, a => by
    rw [List.foldl_cons]
    rcases fold_posS l ks (better l a k) with h | ⟨k', h1, h2⟩
    · rw [h]
      unfold better
      split
      · exact .inr ⟨k, List.mem_cons_self, rfl, rfl, by simp only; omega⟩
      · exact .inl rfl
    · exact .inr ⟨k', List.mem_cons_of_mem _ h1, h2⟩
theorem measures_tenS (l : List UInt8) : measureOf 1 (10 :: l) = 0 ∧ measureOf 2 (10 :: l) = 0 ∧ measureOf 3 (10 :: l) = 0 ∧ measureOf 4 (10 :: l) = 0 ∧ measureOf 5 (10 :: l) = 0 ∧ measureOf 9 (10 :: l) = 1 := by
  refine ⟨rfl, rfl, rfl, rfl, ?_, rfl⟩
  exact Nat.le_zero.1 (punctDown_stop (c := 10) (s := l) (.inr rfl) [] _)
theorem longest_tenS (l : List UInt8) : longestOf (10 :: l) = (9, 1) := by
  obtain ⟨h1, h2, h3, h4, h5, h9⟩ := measures_tenS l
  unfold longestOf
  simp only [List.foldl_cons, List.foldl_nil, better, h1, h2, h3, h4, h5, h9]
  rfl

/-- The longest prefix that is a token, from so many bytes downward. -/
def downK (l : List UInt8) : Nat → Nat × Nat
  | 0 => if isQuote (l.headD 0) then (0, 0) else (6, 1)
  | n + 1 => if kindR (l.take (n + 1)) = 0 then downK l n else (kindR (l.take (n + 1)), n + 1)
def longR (l : List UInt8) : Nat × Nat := if runLen notNl l = 0 then (9, 1) else downK l (runLen notNl l)

/-! ### It is the longest of the measures -/
def kB (k : Nat) (x : List UInt8) : Bool := if k = 1 then wordB x else if k = 2 then numF x else if k = 3 then litB 39 1 x chPre else if k = 4 then litB 34 0 x stPre else isPunctB x
theorem punct_iff {x : List UInt8} (hx : x ≠ []) : punctLen x = x.length ↔ isPunctB x = true := by
  have hp : 0 < x.length := List.length_pos_iff.2 hx
  have hd : ∀ n, punctDown x n = 0 ∨ isPunctB (x.take (punctDown x n)) = true := by
    intro n
    induction n with
    | zero => exact .inl rfl
    | succ n ih =>
      rw [punctDown]
      split
      · rename_i h; exact .inr h
      · exact ih
  constructor
  · intro h
    rcases hd (min x.length 4) with h2 | h2
    · unfold punctLen at h; omega
    · have h3 : punctDown x (min x.length 4) = x.length := h
      rw [h3, List.take_of_length_le (Nat.le_refl _)] at h2
      exact h2
  · intro h
    have h4 := isPunct_len h
    unfold punctLen
    rw [Nat.min_eq_left h4.2]
    obtain ⟨m, hm⟩ : ∃ m, x.length = m + 1 := ⟨x.length - 1, by omega⟩
    rw [hm, punctDown, if_pos]
    rw [← hm, List.take_of_length_le (Nat.le_refl _)]; exact h
theorem kB_iff {k : Nat} {x : List UInt8} (hk : k = 1 ∨ k = 2 ∨ k = 3 ∨ k = 4 ∨ k = 5) (hx : x ≠ []) : measureOf k x = x.length ↔ kB k x = true := by
  rcases hk with rfl | rfl | rfl | rfl | rfl
  · exact word_iff hx
  · exact num_iff hx
  · exact quoted_iff (.inl rfl) (Nat.le_refl _) hx pre_noQ.1
  · exact quoted_iff (.inr rfl) (by decide) hx pre_noQ.2.1
  · exact punct_iff hx

/-- No token of the kinds 1 to 5 holds a line's end. -/
theorem num_ten : numB 10 = false := by decide
theorem pieces_ten (q : UInt8) : ∀ (m : Nat) (t : List UInt8), t.length ≤ m → piecesB q t = true → (10 : UInt8) ∉ t := by
  intro m
  induction m with
  | zero => intro t ht _; rw [List.length_eq_zero_iff.1 (Nat.le_zero.1 ht)]; exact List.not_mem_nil
  | succ m ih =>
    intro t ht h
    cases t with
    | nil => exact List.not_mem_nil
    | cons c r =>
      simp only [List.length_cons] at ht
      rw [piecesB_eq] at h
      by_cases h1 : (c == q || c == 10) = true
      · rw [if_pos h1] at h; cases h
      · rw [if_neg h1] at h
        rw [Bool.or_eq_true, not_or] at h1
        have hc : c ≠ 10 := fun e => h1.2 (by simp [e])
        by_cases h2 : (c == 92) = true
        · rw [if_pos h2] at h
          cases r with
          | nil => cases h
          | cons d r' =>
            simp only at h
            by_cases h3 : (d == 10) = true
            · rw [if_pos h3] at h; cases h
            · rw [if_neg h3] at h
              simp only [List.length_cons] at ht
              have := ih r' (by omega) h
              intro hm
              rcases List.mem_cons.1 hm with e | hm
              · exact hc e.symm
              · rcases List.mem_cons.1 hm with e | hm
                · exact h3 (by simp [← e])
                · exact this hm
        · rw [if_neg h2] at h
          have := ih r (by omega) h
          intro hm
          rcases List.mem_cons.1 hm with e | hm
          · exact hc e.symm
          · exact this hm
theorem lit_shape {q : UInt8} {f : Nat} {x : List UInt8} : ∀ {ps : List (List UInt8)}, litB q f x ps = true → ∃ p ∈ ps, shapeB q x p = true
  | [], h => by cases h
  | p :: ps, h => by
    rw [litB] at h
    by_cases h1 : shapeB q x p = true
    · exact ⟨p, List.mem_cons_self, h1⟩
    · rw [if_neg h1] at h
      obtain ⟨p', h2, h3⟩ := lit_shape h
      exact ⟨p', List.mem_cons_of_mem _ h2, h3⟩
theorem lit_ten {q : UInt8} {f : Nat} {x : List UInt8} {ps : List (List UInt8)} (hq : q ≠ 10) (hps : ∀ p ∈ ps, ∀ c ∈ p, c ≠ 32 ∧ c ≠ 10) (h : litB q f x ps = true) : (10 : UInt8) ∉ x := by
  obtain ⟨p, hp, hs⟩ := lit_shape h
  obtain ⟨t, rfl, ht⟩ := shape_iff.1 hs
  intro hm
  rcases List.mem_append.1 hm with hm | hm
  · exact (hps p hp 10 hm).2 rfl
  · rcases List.mem_cons.1 hm with e | hm
    · exact hq e.symm
    · rcases List.mem_append.1 hm with hm | hm
      · exact pieces_ten q _ t (Nat.le_refl _) ht hm
      · rw [List.mem_singleton] at hm; exact hq hm.symm
theorem kB_ten {k : Nat} {x : List UInt8} (hk : k = 1 ∨ k = 2 ∨ k = 3 ∨ k = 4 ∨ k = 5) (hx : x ≠ []) (h : kB k x = true) : (10 : UInt8) ∉ x := by
  rcases hk with rfl | rfl | rfl | rfl | rfl
  · have h : wordB x = true := h
    cases x with
    | nil => exact absurd rfl hx
    | cons c r =>
      rw [wordB, Bool.and_eq_true, List.all_eq_true] at h
      intro hm
      rcases List.mem_cons.1 hm with e | hm
      · rw [← e] at h; exact absurd h.1 (by decide)
      · exact absurd (h.2 10 hm) (by decide)
  · intro hm
    have := numLen_all ((num_iff hx).2 h) hx 10 hm
    rw [num_ten] at this; cases this
  · exact lit_ten (by decide) pre_noQ.2.2.1 h
  · exact lit_ten (by decide) pre_noQ.2.2.2 h
  · have h : isPunctB x = true := h
    intro hm
    exact (puncts_stop _ (List.contains_iff_mem.1 h) 10 hm).2 rfl

def kinds5 : List Nat := [1, 2, 3, 4, 5]
theorem kinds5_or {k : Nat} (h : k ∈ kinds5) : k = 1 ∨ k = 2 ∨ k = 3 ∨ k = 4 ∨ k = 5 := by
  unfold kinds5 at h; simpa using h
/-- A text without a line's end: its kind is the first one that it is of. -/
theorem kindR_find {x : List UInt8} (hx : (10 : UInt8) ∉ x) : kindR x = (kinds5.find? (fun k => kB k x)).getD 0 := by
  unfold kindR kinds5
  rw [if_neg (fun h => hx (by rw [eq_of_beq h]; exact List.mem_singleton_self _))]
  simp only [List.find?, kB]
  cases wordB x <;> cases numF x <;> cases litB 39 1 x chPre <;> cases litB 34 0 x stPre <;> cases isPunctB x <;> rfl
theorem kB_len {k : Nat} {l : List UInt8} {n : Nat} (hk : k ∈ kinds5) (hn : 0 < n) (hnl : n ≤ l.length) (h : kB k (l.take n) = true) : n ≤ measureOf k l := by
  have hlen : (l.take n).length = n := by rw [List.length_take]; omega
  have hx : l.take n ≠ [] := fun e => by rw [e] at hlen; simp at hlen; omega
  have h2 := (kB_iff (kinds5_or hk) hx).2 h
  rw [hlen] at h2
  refine Nat.le_of_not_lt (fun h3 => ?_)
  rw [measure_take (Nat.le_of_lt h3)] at h2
  omega
theorem kB_at {k : Nat} {l : List UInt8} (hk : k ∈ kinds5) (h0 : 0 < measureOf k l) : kB k (l.take (measureOf k l)) = true := by
  have hle := measure_le k l
  have hlen : (l.take (measureOf k l)).length = measureOf k l := by rw [List.length_take]; omega
  have hx : l.take (measureOf k l) ≠ [] := fun e => by rw [e] at hlen; simp at hlen; omega
  rw [← kB_iff (kinds5_or hk) hx, measure_take (Nat.le_refl _), hlen]
theorem run_ten : ∀ {l : List UInt8} {n : Nat}, (10 : UInt8) ∉ l.take n → n ≤ l.length → n ≤ runLen notNl l
  | [], n, _, h => h
  | c :: r, 0, _, _ => Nat.zero_le _
  | c :: r, n + 1, h, hl => by
    rw [List.take_succ_cons, List.mem_cons, not_or] at h
    rw [runLen, if_pos (by unfold notNl; have : (c == 10) = false := by simpa using fun e => h.1 e.symm
                           rw [this]; rfl)]
    have := run_ten h.2 (by simpa using hl)
    omega
theorem ten_run : ∀ {l : List UInt8} {n : Nat}, n ≤ runLen notNl l → (10 : UInt8) ∉ l.take n
  | [], n, _ => by simp
  | c :: r, 0, _ => by simp
  | c :: r, n + 1, h => by
    rw [runLen] at h
    by_cases hc : notNl c = true
    · rw [if_pos hc] at h
      rw [List.take_succ_cons, List.mem_cons, not_or]
      refine ⟨fun e => ?_, ten_run (by omega)⟩
      rw [← e] at hc; exact absurd hc (by decide)
    · rw [if_neg hc] at h; omega

theorem fold_eq (l : List UInt8) : ∀ (ks : List Nat) (a : Nat × Nat), ks.foldl (better l) a = a ∨ a.2 < (ks.foldl (better l) a).2
  | [], _ => .inl rfl
  | k :: ks, a => by
    rw [List.foldl_cons]
    have h0 := better_ge l a k
    rcases fold_eq l ks (better l a k) with h | h
    · rw [h]
      unfold better
      split
      · rename_i h2; exact .inr h2
      · exact .inl rfl
    · exact .inr (by omega)
/-- The fold over the measures: its second part is the greatest, its first the first kind that has it. -/
theorem fold_find (l : List UInt8) : ∀ (ks : List Nat) (a : Nat × Nat), a.2 < (ks.foldl (better l) a).2 → ks.find? (fun k => measureOf k l == (ks.foldl (better l) a).2) = some (ks.foldl (better l) a).1
  | [], a, h => absurd h (Nat.lt_irrefl _)
  | k :: ks, a, h => by
    rw [List.foldl_cons] at h ⊢
    have hge := (fold_ge l ks (better l a k)).1
    by_cases h1 : (better l a k).2 < (ks.foldl (better l) (better l a k)).2
    · have h2 : measureOf k l < (ks.foldl (better l) (better l a k)).2 := Nat.lt_of_le_of_lt (better_ge l a k).2 h1
      rw [List.find?_cons, show (measureOf k l == (ks.foldl (better l) (better l a k)).2) = false by simp; omega]
      exact fold_find l ks _ h1
    · have h3 : (ks.foldl (better l) (better l a k)) = better l a k := by
        rcases fold_eq l ks (better l a k) with h4 | h4
        · exact h4
        · exact absurd h4 h1
      rw [h3] at h ⊢
      have h5 : better l a k = (k, measureOf k l) := by
        unfold better at h ⊢
        split
        · rfl
        · rename_i h6; rw [if_neg h6] at h; exact absurd h (Nat.lt_irrefl _)
      rw [h5, List.find?_cons, beq_self_eq_true]

theorem find_congr' {p q : Nat → Bool} : ∀ {ks : List Nat}, (∀ k ∈ ks, p k = q k) → ks.find? p = ks.find? q
  | [], _ => rfl
  | k :: ks, h => by
    rw [List.find?_cons, List.find?_cons, h k List.mem_cons_self, find_congr' (fun j hj => h j (List.mem_cons_of_mem _ hj))]

/-- Downward, as long as nothing is a token. -/
theorem downK_skip {l : List UInt8} {m : Nat} : ∀ n, m ≤ n → (∀ j, m < j → j ≤ n → kindR (l.take j) = 0) → downK l n = downK l m
  | 0, h, _ => by rw [Nat.le_zero.1 h]
  | n + 1, h, hz => by
    by_cases e : m = n + 1
    · rw [e]
    · rw [downK, if_pos (hz (n + 1) (by omega) (Nat.le_refl _))]
      exact downK_skip n (by omega) (fun j h1 h2 => hz j h1 (by omega))

theorem longR_eq {l : List UInt8} (hl : l ≠ []) : longR l = longestOf l := by
  cases l with
  | nil => exact absurd rfl hl
  | cons c r =>
    by_cases hc : c = 10
    · subst hc
      rw [longest_tenS]
      unfold longR
      rw [if_pos]
      rw [runLen]; rfl
    · have hrn : 0 < runLen notNl (c :: r) := by
        have : (10 : UInt8) ∉ (c :: r).take 1 := by simpa using fun e : 10 = c => hc e.symm
        exact run_ten this (by simp)
      have h9 : measureOf 9 (c :: r) = 0 := by
        show nlLen (c :: r) = 0
        rw [nlLen, if_neg (by simpa using hc)]
      have hle := runLen_le' notNl (c :: r)
      generalize hL : c :: r = l at *
      have hfold : [1, 2, 3, 4, 5, 9].foldl (better l) (0, 0) = kinds5.foldl (better l) (0, 0) := by
        show better l (kinds5.foldl (better l) (0, 0)) 9 = _
        unfold better
        rw [h9, if_neg (by omega)]
      unfold longR longestOf
      rw [if_neg (by omega), hfold]
      obtain ⟨M, hM⟩ : ∃ M, (kinds5.foldl (better l) (0, 0)).2 = M := ⟨_, rfl⟩
      have hge := (fold_ge l kinds5 (0, 0)).2
      have hMl : M ≤ l.length := by rw [← hM]; exact fold_le l kinds5 (0, 0) (Nat.zero_le _)
      rw [hM] at hge
      have hzero : ∀ j, M < j → j ≤ runLen notNl l → kindR (l.take j) = 0 := by
        intro j h1 h2
        rw [kindR_find (ten_run h2)]
        rw [List.find?_eq_none.2]
        · rfl
        · intro k hk hkB
          have := kB_len hk (by omega) (by omega) hkB
          have := hge k hk
          omega
      by_cases h0 : M = 0
      · rw [downK_skip (m := 0) _ (Nat.zero_le _) (fun j h1 h2 => hzero j (by omega) h2)]
        simp only [hM, h0]
        rw [downK]
        cases hq : isQuote (l.headD 0) with
        | true =>
          simp only [if_true]
          rcases fold_mem l kinds5 (0, 0) with h | _
          · have h5 : kinds5.foldl (better l) (0, 0) = (0, 0) := by
              rcases fold_eq l kinds5 (0, 0) with h6 | h6
              · exact h6
              · rw [hM, h0] at h6; exact absurd h6 (Nat.lt_irrefl _)
            rw [h5]; rfl
          · have h5 : kinds5.foldl (better l) (0, 0) = (0, 0) := by
              rcases fold_eq l kinds5 (0, 0) with h6 | h6
              · exact h6
              · rw [hM, h0] at h6; exact absurd h6 (Nat.lt_irrefl _)
            rw [h5]; rfl
        | false => rfl
      · have hff := fold_find l kinds5 (0, 0) (by rw [hM]; show 0 < M; omega)
        rw [hM] at hff
        obtain ⟨K, hK⟩ : ∃ K, (kinds5.foldl (better l) (0, 0)).1 = K := ⟨_, rfl⟩
        rw [hK] at hff
        have hKm : K ∈ kinds5 := List.mem_of_find?_eq_some hff
        have hKM : measureOf K l = M := by have := List.find?_some hff; simpa using this
        have hpair : kinds5.foldl (better l) (0, 0) = (K, M) := Prod.ext hK hM
        have hMpos : 0 < measureOf K l := by omega
        have hkat := kB_at hKm hMpos
        rw [hKM] at hkat
        have hMt : l.take M ≠ [] := fun e => by
          have := congrArg List.length e
          rw [List.length_take, List.length_nil] at this; omega
        have hMr : M ≤ runLen notNl l := run_ten (kB_ten (kinds5_or hKm) hMt hkat) hMl
        have hkr : kindR (l.take M) = K := by
          rw [kindR_find (ten_run hMr), find_congr' (q := fun k => measureOf k l == M), hff]
          · rfl
          · intro k hk
            show kB k (l.take M) = (measureOf k l == M)
            rw [Bool.eq_iff_iff, beq_iff_eq]
            constructor
            · intro h
              have h7 := kB_len hk (by omega) hMl h
              have h8 := hge k hk
              omega
            · intro h
              have := kB_at (l := l) hk (by omega)
              rw [h] at this; exact this
        rw [downK_skip (m := M) _ hMr hzero, hpair]
        obtain ⟨m, rfl⟩ : ∃ m, M = m + 1 := ⟨M - 1, by omega⟩
        have hK0 : K ≠ 0 := by rcases kinds5_or hKm with rfl | rfl | rfl | rfl | rfl <;> decide
        rw [downK, hkr, if_neg hK0]
        simp

end Go.Proofs.Ytenmapahigbbeaa
