/- Several texts laid together. -/
import Derived.Test.YtenmapahigbbeaaGreatRxRA
import Derived.Deep.LoopGhost
import Derived.Test.YtenmapahigbbeaaGreatFirst0
import Derived.Test.YtenmapahigbbeaaGreatKeeps
import Derived.Outline
import Derived.BigQuiet
import Derived.Deep.QuietTactic
import Derived.Deep.DeepCutAuto
import Derived.Test.YtenmapahigbbeaaGreatOneS

namespace Go.Proofs.YtenmapahigbbeaaGreat
open Go.RowKit

theorem fold_posS (l : List UInt8) : ∀ (ks : List Nat) (a : Nat × Nat), (ks.foldl (better l) a) = a ∨ ∃ k ∈ ks, (ks.foldl (better l) a).1 = k ∧ measureOf k l = (ks.foldl (better l) a).2 ∧ 0 < (ks.foldl (better l) a).2
  | [], _ => .inl rfl
  | k :: ks, a => by
    rw [List.foldl_cons]
    rcases fold_posS l ks (better l a k) with h | ⟨k', h1, h2⟩
    · rw [h]
      unfold better
      split
      · exact .inr ⟨k, List.mem_cons_self, rfl, rfl, by simp only; omega⟩
      · exact .inl rfl
    · exact .inr ⟨k', List.mem_cons_of_mem _ h1, h2⟩
theorem measures_tenS (l : List UInt8) : measureOf 1 (10 :: l) = 0 ∧ measureOf 2 (10 :: l) = 0 ∧ measureOf 3 (10 :: l) = 0 ∧ measureOf 4 (10 :: l) = 0 ∧ measureOf 5 (10 :: l) = 0 ∧ measureOf 9 (10 :: l) = 1 := by
  refine ⟨rfl, rfl, rfl, rfl, ?_, rfl⟩
  exact Nat.le_zero.1 (punctDown_stop (c := 10) (s := l) (.inr rfl) [] _)
theorem longest_tenS (l : List UInt8) : longestOf (10 :: l) = (9, 1) := by
  obtain ⟨h1, h2, h3, h4, h5, h9⟩ := measures_tenS l
  unfold longestOf
  simp only [List.foldl_cons, List.foldl_nil, better, h1, h2, h3, h4, h5, h9]
  rfl

/-- The longest prefix that is a token, from so many bytes downward. -/
def downK (l : List UInt8) : Nat → Nat × Nat
  | 0 => if isQuote (l.headD 0) then (0, 0) else (6, 1)
  | n + 1 => if kindR (l.take (n + 1)) = 0 then downK l n else (kindR (l.take (n + 1)), n + 1)
def longR (l : List UInt8) : Nat × Nat := if runLen notNl l = 0 then (9, 1) else downK l (runLen notNl l)

/-! ### It is the longest of the measures -/
def kB (k : Nat) (x : List UInt8) : Bool := if k = 1 then wordB x else if k = 2 then numF x else if k = 3 then litB 39 1 x chPre else if k = 4 then litB 34 0 x stPre else isPunctB x
theorem punct_iff {x : List UInt8} (hx : x ≠ []) : punctLen x = x.length ↔ isPunctB x = true := by
  have hp : 0 < x.length := List.length_pos_iff.2 hx
  have hd : ∀ n, punctDown x n = 0 ∨ isPunctB (x.take (punctDown x n)) = true := by
    intro n
    induction n with
    | zero => exact .inl rfl
    | succ n ih =>
      rw [punctDown]
      split
      · rename_i h; exact .inr h
      · exact ih
  constructor
  · intro h
    rcases hd (min x.length 4) with h2 | h2
    · unfold punctLen at h; omega
    · have h3 : punctDown x (min x.length 4) = x.length := h
      rw [h3, List.take_of_length_le (Nat.le_refl _)] at h2
      exact h2
  · intro h
    have h4 := isPunct_len h
    unfold punctLen
    rw [Nat.min_eq_left h4.2]
    obtain ⟨m, hm⟩ : ∃ m, x.length = m + 1 := ⟨x.length - 1, by omega⟩
    rw [hm, punctDown, if_pos]
    rw [← hm, List.take_of_length_le (Nat.le_refl _)]; exact h
theorem kB_iff {k : Nat} {x : List UInt8} (hk : k = 1 ∨ k = 2 ∨ k = 3 ∨ k = 4 ∨ k = 5) (hx : x ≠ []) : measureOf k x = x.length ↔ kB k x = true := by
  rcases hk with rfl | rfl | rfl | rfl | rfl
  · exact word_iff hx
  · exact num_iff hx
  · exact quoted_iff (.inl rfl) (Nat.le_refl _) hx pre_noQ.1
  · exact quoted_iff (.inr rfl) (by decide) hx pre_noQ.2.1
  · exact punct_iff hx

/-- No token of the kinds 1 to 5 holds a line's end. -/
theorem num_ten : numB 10 = false := by decide
theorem pieces_ten (q : UInt8) : ∀ (m : Nat) (t : List UInt8), t.length ≤ m → piecesB q t = true → (10 : UInt8) ∉ t := by
  intro m
  induction m with
  | zero => intro t ht _; rw [List.length_eq_zero_iff.1 (Nat.le_zero.1 ht)]; exact List.not_mem_nil
  | succ m ih =>
    intro t ht h
    cases t with
    | nil => exact List.not_mem_nil
    | cons c r =>
      simp only [List.length_cons] at ht
      rw [piecesB_eq] at h
      by_cases h1 : (c == q || c == 10) = true
      · rw [if_pos h1] at h; cases h
      · rw [if_neg h1] at h
        rw [Bool.or_eq_true, not_or] at h1
        have hc : c ≠ 10 := fun e => h1.2 (by simp [e])
        by_cases h2 : (c == 92) = true
        · rw [if_pos h2] at h
          cases r with
          | nil => cases h
          | cons d r' =>
            simp only at h
            by_cases h3 : (d == 10) = true
            · rw [if_pos h3] at h; cases h
            · rw [if_neg h3] at h
              simp only [List.length_cons] at ht
              have := ih r' (by omega) h
              intro hm
              rcases List.mem_cons.1 hm with e | hm
              · exact hc e.symm
              · rcases List.mem_cons.1 hm with e | hm
                · exact h3 (by simp [← e])
                · exact this hm
        · rw [if_neg h2] at h
          have := ih r (by omega) h
          intro hm
          rcases List.mem_cons.1 hm with e | hm
          · exact hc e.symm
          · exact this hm
theorem lit_shape {q : UInt8} {f : Nat} {x : List UInt8} : ∀ {ps : List (List UInt8)}, litB q f x ps = true → ∃ p ∈ ps, shapeB q x p = true
  | [], h => by cases h
  | p :: ps, h => by
    rw [litB] at h
    by_cases h1 : shapeB q x p = true
    · exact ⟨p, List.mem_cons_self, h1⟩
    · rw [if_neg h1] at h
      obtain ⟨p', h2, h3⟩ := lit_shape h
      exact ⟨p', List.mem_cons_of_mem _ h2, h3⟩
theorem lit_ten {q : UInt8} {f : Nat} {x : List UInt8} {ps : List (List UInt8)} (hq : q ≠ 10) (hps : ∀ p ∈ ps, ∀ c ∈ p, c ≠ 32 ∧ c ≠ 10) (h : litB q f x ps = true) : (10 : UInt8) ∉ x := by
  obtain ⟨p, hp, hs⟩ := lit_shape h
  obtain ⟨t, rfl, ht⟩ := shape_iff.1 hs
  intro hm
  rcases List.mem_append.1 hm with hm | hm
  · exact (hps p hp 10 hm).2 rfl
  · rcases List.mem_cons.1 hm with e | hm
    · exact hq e.symm
    · rcases List.mem_append.1 hm with hm | hm
      · exact pieces_ten q _ t (Nat.le_refl _) ht hm
      · rw [List.mem_singleton] at hm; exact hq hm.symm
theorem kB_ten {k : Nat} {x : List UInt8} (hk : k = 1 ∨ k = 2 ∨ k = 3 ∨ k = 4 ∨ k = 5) (hx : x ≠ []) (h : kB k x = true) : (10 : UInt8) ∉ x := by
  rcases hk with rfl | rfl | rfl | rfl | rfl
  · have h : wordB x = true := h
    cases x with
    | nil => exact absurd rfl hx
    | cons c r =>
      rw [wordB, Bool.and_eq_true, List.all_eq_true] at h
      intro hm
      rcases List.mem_cons.1 hm with e | hm
      · rw [← e] at h; exact absurd h.1 (by decide)
      · exact absurd (h.2 10 hm) (by decide)
  · intro hm
    have := numLen_all ((num_iff hx).2 h) hx 10 hm
    rw [num_ten] at this; cases this
  · exact lit_ten (by decide) pre_noQ.2.2.1 h
  · exact lit_ten (by decide) pre_noQ.2.2.2 h
  · have h : isPunctB x = true := h
    intro hm
    exact (puncts_stop _ (List.contains_iff_mem.1 h) 10 hm).2 rfl

def kinds5 : List Nat := [1, 2, 3, 4, 5]
theorem kinds5_or {k : Nat} (h : k ∈ kinds5) : k = 1 ∨ k = 2 ∨ k = 3 ∨ k = 4 ∨ k = 5 := by
  unfold kinds5 at h; simpa using h
/-- A text without a line's end: its kind is the first one that it is of. -/
theorem kindR_find {x : List UInt8} (hx : (10 : UInt8) ∉ x) : kindR x = (kinds5.find? (fun k => kB k x)).getD 0 := by
  unfold kindR kinds5
  rw [if_neg (fun h => hx (by rw [eq_of_beq h]; exact List.mem_singleton_self _))]
  simp only [List.find?, kB]
  cases wordB x <;> cases numF x <;> cases litB 39 1 x chPre <;> cases litB 34 0 x stPre <;> cases isPunctB x <;> rfl
theorem kB_len {k : Nat} {l : List UInt8} {n : Nat} (hk : k ∈ kinds5) (hn : 0 < n) (hnl : n ≤ l.length) (h : kB k (l.take n) = true) : n ≤ measureOf k l := by
  have hlen : (l.take n).length = n := by rw [List.length_take]; omega
  have hx : l.take n ≠ [] := fun e => by rw [e] at hlen; simp at hlen; omega
  have h2 := (kB_iff (kinds5_or hk) hx).2 h
  rw [hlen] at h2
  refine Nat.le_of_not_lt (fun h3 => ?_)
  rw [measure_take (Nat.le_of_lt h3)] at h2
  omega
theorem kB_at {k : Nat} {l : List UInt8} (hk : k ∈ kinds5) (h0 : 0 < measureOf k l) : kB k (l.take (measureOf k l)) = true := by
  have hle := measure_le k l
  have hlen : (l.take (measureOf k l)).length = measureOf k l := by rw [List.length_take]; omega
  have hx : l.take (measureOf k l) ≠ [] := fun e => by rw [e] at hlen; simp at hlen; omega
  rw [← kB_iff (kinds5_or hk) hx, measure_take (Nat.le_refl _), hlen]
theorem run_ten : ∀ {l : List UInt8} {n : Nat}, (10 : UInt8) ∉ l.take n → n ≤ l.length → n ≤ runLen notNl l
  | [], n, _, h => h
  | c :: r, 0, _, _ => Nat.zero_le _
  | c :: r, n + 1, h, hl => by
    rw [List.take_succ_cons, List.mem_cons, not_or] at h
    rw [runLen, if_pos (by unfold notNl; have : (c == 10) = false := by simpa using fun e => h.1 e.symm
                           rw [this]; rfl)]
    have := run_ten h.2 (by simpa using hl)
    omega
theorem ten_run : ∀ {l : List UInt8} {n : Nat}, n ≤ runLen notNl l → (10 : UInt8) ∉ l.take n
  | [], n, _ => by simp
  | c :: r, 0, _ => by simp
  | c :: r, n + 1, h => by
    rw [runLen] at h
    by_cases hc : notNl c = true
    · rw [if_pos hc] at h
      rw [List.take_succ_cons, List.mem_cons, not_or]
      refine ⟨fun e => ?_, ten_run (by omega)⟩
      rw [← e] at hc; exact absurd hc (by decide)
    · rw [if_neg hc] at h; omega

theorem fold_eq (l : List UInt8) : ∀ (ks : List Nat) (a : Nat × Nat), ks.foldl (better l) a = a ∨ a.2 < (ks.foldl (better l) a).2
  | [], _ => .inl rfl
  | k :: ks, a => by
    rw [List.foldl_cons]
    have h0 := better_ge l a k
    rcases fold_eq l ks (better l a k) with h | h
    · rw [h]
      unfold better
      split
      · rename_i h2; exact .inr h2
      · exact .inl rfl
    · exact .inr (by omega)
/-- The fold over the measures: its second part is the greatest, its first the first kind that has it. -/
theorem fold_find (l : List UInt8) : ∀ (ks : List Nat) (a : Nat × Nat), a.2 < (ks.foldl (better l) a).2 → ks.find? (fun k => measureOf k l == (ks.foldl (better l) a).2) = some (ks.foldl (better l) a).1
  | [], a, h => absurd h (Nat.lt_irrefl _)
  | k :: ks, a, h => by
    rw [List.foldl_cons] at h ⊢
    have hge := (fold_ge l ks (better l a k)).1
    by_cases h1 : (better l a k).2 < (ks.foldl (better l) (better l a k)).2
    · have h2 : measureOf k l < (ks.foldl (better l) (better l a k)).2 := Nat.lt_of_le_of_lt (better_ge l a k).2 h1
      rw [List.find?_cons, show (measureOf k l == (ks.foldl (better l) (better l a k)).2) = false by simp; omega]
      exact fold_find l ks _ h1
    · have h3 : (ks.foldl (better l) (better l a k)) = better l a k := by
        rcases fold_eq l ks (better l a k) with h4 | h4
        · exact h4
        · exact absurd h4 h1
      rw [h3] at h ⊢
      have h5 : better l a k = (k, measureOf k l) := by
        unfold better at h ⊢
        split
        · rfl
        · rename_i h6; rw [if_neg h6] at h; exact absurd h (Nat.lt_irrefl _)
      rw [h5, List.find?_cons, beq_self_eq_true]

theorem find_congr' {p q : Nat → Bool} : ∀ {ks : List Nat}, (∀ k ∈ ks, p k = q k) → ks.find? p = ks.find? q
  | [], _ => rfl
  | k :: ks, h => by
    rw [List.find?_cons, List.find?_cons, h k List.mem_cons_self, find_congr' (fun j hj => h j (List.mem_cons_of_mem _ hj))]

/-- Downward, as long as nothing is a token. -/
theorem downK_skip {l : List UInt8} {m : Nat} : ∀ n, m ≤ n → (∀ j, m < j → j ≤ n → kindR (l.take j) = 0) → downK l n = downK l m
  | 0, h, _ => by rw [Nat.le_zero.1 h]
  | n + 1, h, hz => by
    by_cases e : m = n + 1
    · rw [e]
    · rw [downK, if_pos (hz (n + 1) (by omega) (Nat.le_refl _))]
      exact downK_skip n (by omega) (fun j h1 h2 => hz j h1 (by omega))

theorem longR_eq {l : List UInt8} (hl : l ≠ []) : longR l = longestOf l := by
  cases l with
  | nil => exact absurd rfl hl
  | cons c r =>
    by_cases hc : c = 10
    · subst hc
      rw [longest_tenS]
      unfold longR
      rw [if_pos]
      rw [runLen]; rfl
    · have hrn : 0 < runLen notNl (c :: r) := by
        have : (10 : UInt8) ∉ (c :: r).take 1 := by simpa using fun e : 10 = c => hc e.symm
        exact run_ten this (by simp)
      have h9 : measureOf 9 (c :: r) = 0 := by
        show nlLen (c :: r) = 0
        rw [nlLen, if_neg (by simpa using hc)]
      have hle := runLen_le' notNl (c :: r)
      generalize hL : c :: r = l at *
      have hfold : [1, 2, 3, 4, 5, 9].foldl (better l) (0, 0) = kinds5.foldl (better l) (0, 0) := by
        show better l (kinds5.foldl (better l) (0, 0)) 9 = _
        unfold better
        rw [h9, if_neg (by omega)]
      unfold longR longestOf
      rw [if_neg (by omega), hfold]
      obtain ⟨M, hM⟩ : ∃ M, (kinds5.foldl (better l) (0, 0)).2 = M := ⟨_, rfl⟩
      have hge := (fold_ge l kinds5 (0, 0)).2
      have hMl : M ≤ l.length := by rw [← hM]; exact fold_le l kinds5 (0, 0) (Nat.zero_le _)
      rw [hM] at hge
      have hzero : ∀ j, M < j → j ≤ runLen notNl l → kindR (l.take j) = 0 := by
        intro j h1 h2
        rw [kindR_find (ten_run h2)]
        rw [List.find?_eq_none.2]
        · rfl
        · intro k hk hkB
          have := kB_len hk (by omega) (by omega) hkB
          have := hge k hk
          omega
      by_cases h0 : M = 0
      · rw [downK_skip (m := 0) _ (Nat.zero_le _) (fun j h1 h2 => hzero j (by omega) h2)]
        simp only [hM, h0]
        rw [downK]
        cases hq : isQuote (l.headD 0) with
        | true =>
          simp only [if_true]
          rcases fold_mem l kinds5 (0, 0) with h | _
          · have h5 : kinds5.foldl (better l) (0, 0) = (0, 0) := by
              rcases fold_eq l kinds5 (0, 0) with h6 | h6
              · exact h6
              · rw [hM, h0] at h6; exact absurd h6 (Nat.lt_irrefl _)
            rw [h5]; rfl
          · have h5 : kinds5.foldl (better l) (0, 0) = (0, 0) := by
              rcases fold_eq l kinds5 (0, 0) with h6 | h6
              · exact h6
              · rw [hM, h0] at h6; exact absurd h6 (Nat.lt_irrefl _)
            rw [h5]; rfl
        | false => rfl
      · have hff := fold_find l kinds5 (0, 0) (by rw [hM]; show 0 < M; omega)
        rw [hM] at hff
        obtain ⟨K, hK⟩ : ∃ K, (kinds5.foldl (better l) (0, 0)).1 = K := ⟨_, rfl⟩
        rw [hK] at hff
        have hKm : K ∈ kinds5 := List.mem_of_find?_eq_some hff
        have hKM : measureOf K l = M := by have := List.find?_some hff; simpa using this
        have hpair : kinds5.foldl (better l) (0, 0) = (K, M) := Prod.ext hK hM
        have hMpos : 0 < measureOf K l := by omega
        have hkat := kB_at hKm hMpos
        rw [hKM] at hkat
        have hMt : l.take M ≠ [] := fun e => by
          have := congrArg List.length e
          rw [List.length_take, List.length_nil] at this; omega
        have hMr : M ≤ runLen notNl l := run_ten (kB_ten (kinds5_or hKm) hMt hkat) hMl
        have hkr : kindR (l.take M) = K := by
          rw [kindR_find (ten_run hMr), find_congr' (q := fun k => measureOf k l == M), hff]
          · rfl
          · intro k hk
            show kB k (l.take M) = (measureOf k l == M)
            rw [Bool.eq_iff_iff, beq_iff_eq]
            constructor
            · intro h
              have h7 := kB_len hk (by omega) hMl h
              have h8 := hge k hk
              omega
            · intro h
              have := kB_at (l := l) hk (by omega)
              rw [h] at this; exact this
        rw [downK_skip (m := M) _ hMr hzero, hpair]
        obtain ⟨m, rfl⟩ : ∃ m, M = m + 1 := ⟨M - 1, by omega⟩
        have hK0 : K ≠ 0 := by rcases kinds5_or hKm with rfl | rfl | rfl | rfl | rfl <;> decide
        rw [downK, hkr, if_neg hK0]
        simp

end Go.Proofs.YtenmapahigbbeaaGreat

namespace Go.Proofs.YtenmapahigbbeaaGreat
open Go.RowKit

theorem rii {a b c d : Int} (h : a = c) (h2 : b = d) : Ending.returned (.tuple #[.int .i64 a, .int .i64 b]) = .returned (.tuple #[.int .i64 c, .int .i64 d]) := by rw [h, h2]

set_option maxRecDepth 100000 in
set_option maxHeartbeats 2000000 in
theorem rlongest_any (s : ByteArray) (w : World) (hs : s.size ≤ 2000) (h0 : 0 < s.size) :
    Calls Tryz.prog 69 #[.string s] w fun e w' => e = .returned (.tuple #[.int .i64 ((longestOf s.data.toList).1 : Nat), .int .i64 ((longestOf s.data.toList).2 : Nat)]) ∧ Below w.heap.size w w' := by
  have HQ := Lib.hid (longR_eq (l := s.data.toList) (fun e => by have := congrArg List.length e; rw [size_list, List.length_nil] at this; omega))
  have hrl := runLen_le' notNl s.data.toList
  rw [size_list] at hrl
  go_enter Tryz.func69, Tryz.ntmps69
  go_wp2
  go_loop [4] (fun i => ∃ k : Nat, k ≤ s.size ∧ i = .int .i64 k ∧ runLen notNl s.data.toList = k + runLen notNl (s.data.toList.drop k)) (fun i => s.size - (intOf i).toNat)
  case atStart => exact ⟨0, Nat.zero_le _, rfl, by simp⟩
  case round =>
    obtain ⟨k, hk, rfl, he⟩ := hrel
    have HE0 := Lib.hid he; clear he
    by_cases hgo : ∃ h : k < s.size, s[k] ≠ 10
    · obtain ⟨hlt, h10⟩ := hgo
      have h4 : notNl s[k] = true := by unfold notNl; simp [h10]
      have HN := Lib.hid (HE0.out.trans (show _ = (k + 1) + runLen notNl (s.data.toList.drop (k + 1)) by rw [runLen_yes hlt h4]; omega))
      have b3 : ((s[k].toNat : Int) != 10) = true := by rw [bne_iff_ne]; exact fun h => h10 (u8_int.2 h)
      clear HE0 h10 h4
      go_wp2
      go_round
      case rel => exact ⟨k + 1, by omega, by go_num, HN.out⟩
      case measure => simp [intOf]; omega
    · have HK : Hid (runLen notNl s.data.toList = k) := Lib.hid (by
        rw [HE0.out]
        by_cases hlt : k < s.size
        · have h10 : s[k] = 10 := Classical.byContradiction (fun h => hgo ⟨hlt, h⟩)
          rw [runLen_no hlt (by rw [h10]; rfl)]; rfl
        · rw [runLen_end (by omega)]; rfl)
      have b3 : ∀ h : k < s.size, ((s[k].toNat : Int) != 10) = false := fun h => by
        have h10 : s[k] = 10 := Classical.byContradiction (fun h' => hgo ⟨h, h'⟩)
        rw [h10]; rfl
      clear HE0 hgo
      by_cases hlt : k < s.size
      · have b4 := b3 hlt
        clear b3
        have HR : Hid (runLen notNl s.data.toList = k) := HK
        clear HK
        by_cases hR : k = 0
        · have HN : Hid (longestOf s.data.toList = (9, 1)) := Lib.hid (by rw [← HQ.out]; unfold longR; rw [if_pos (by rw [HR.out]; exact hR)])
          subst hR
          clear HR
          go_wp2
          go_ret2
          exact ⟨rii (by rw [HN.out]; rfl) (by rw [HN.out]; rfl), Below.refl _ _⟩
        · have HN : Hid (longestOf s.data.toList = downK s.data.toList k) := Lib.hid (by rw [← HQ.out]; unfold longR; rw [if_neg (by rw [HR.out]; exact hR), HR.out])
          have b9 : ((k : Int) == 0) = false := beq_eq_false_iff_ne.2 (by omega)
          clear HQ HR
          go_wp2
          go_loopg [4] k (fun g i wx => ∃ j : Nat, j ≤ k ∧ i = .int .i64 j ∧ j = g ∧ Hid (longestOf s.data.toList = downK s.data.toList j) ∧ Below w.heap.size w wx)
          case atStart => exact ⟨k, Nat.le_refl _, rfl, rfl, HN, Below.refl _ _⟩
          case round =>
            obtain ⟨j, hj, rfl, rfl, HE, hbx⟩ := hrel
            cases j with
            | zero =>
              clear HN
              cases hq : isQuote s[0] with
              | true =>
                have HN2 : Hid (longestOf s.data.toList = (0, 0)) := Lib.hid (by
                  have hd := data_drop s 0 h0
                  rw [List.drop_zero] at hd
                  rw [HE.out, downK, if_pos (by rw [hd]; exact hq)])
                unfold isQuote at hq
                by_cases h39 : s[0] = 39
                · have e0 : ((s[0].toNat : Int) == 39) = true := by rw [h39]; rfl
                  clear HE hq h39
                  go_wp2
                  go_ret2
                  exact ⟨rii (by rw [HN2.out]; rfl) (by rw [HN2.out]; rfl), hbx⟩
                · have e0 : ((s[0].toNat : Int) == 39) = false := beq_eq_false_iff_ne.2 (fun h => h39 (u8_int.2 h))
                  have e1 : ((s[0].toNat : Int) == 34) = true := by
                    have : s[0] = 34 := by simpa [h39] using hq
                    rw [this]; rfl
                  clear HE hq h39
                  go_wp2
                  go_ret2
                  exact ⟨rii (by rw [HN2.out]; rfl) (by rw [HN2.out]; rfl), hbx⟩
              | false =>
                have HN2 : Hid (longestOf s.data.toList = (6, 1)) := Lib.hid (by
                  have hd := data_drop s 0 h0
                  rw [List.drop_zero] at hd
                  rw [HE.out, downK, if_neg (by rw [hd, List.headD_cons, hq]; decide)])
                unfold isQuote at hq
                rw [Bool.or_eq_false_iff] at hq
                have e0 : ((s[0].toNat : Int) == 39) = false := beq_eq_false_iff_ne.2 (fun h => (beq_eq_false_iff_ne.1 hq.1) (u8_int.2 h))
                have e1 : ((s[0].toNat : Int) == 34) = false := beq_eq_false_iff_ne.2 (fun h => (beq_eq_false_iff_ne.1 hq.2) (u8_int.2 h))
                clear HE hq
                go_wp2
                go_ret2
                exact ⟨rii (by rw [HN2.out]; rfl) (by rw [HN2.out]; rfl), hbx⟩
            | succ j =>
              have C : ∀ w' : World, Calls Tryz.prog 74 #[.string (s.extract 0 (j + 1))] w' fun e w'' => e = .returned (.int .i64 (kindR (s.data.toList.take (j + 1)) : Nat)) ∧ Below w'.heap.size w' w'' := fun w' => by
                have := rKind_any (s.extract 0 (j + 1)) w' (by rw [ByteArray.size_extract]; omega)
                rw [extract_list, List.drop_zero] at this
                exact this
              have HD : Hid (downK s.data.toList (j + 1) = if kindR (s.data.toList.take (j + 1)) = 0 then downK s.data.toList j else (kindR (s.data.toList.take (j + 1)), j + 1)) := Lib.hid rfl
              obtain ⟨K, hK⟩ : ∃ K, kindR (s.data.toList.take (j + 1)) = K := ⟨_, rfl⟩
              rw [hK] at C HD
              clear hK
              have j1 : (0 : Int) < (j : Int) + 1 := by omega
              have j2 : ((j : Int) + 1).toNat = j + 1 := by omega
              have j3 : (j : Int) + 1 ≤ (s.size : Int) := by omega
              have v1 : wrap64 ((j : Int) + 1 - 1) = (j : Int) := by rw [show (j : Int) + 1 - 1 = (j : Int) by omega]; exact IntWalk.wrap64_in _ (by omega)
              have v2 : (j : Int) + 1 - 1 = (j : Int) := by omega
              by_cases hK0 : K = 0
              · have HN3 : Hid (longestOf s.data.toList = downK s.data.toList j) := Lib.hid (by rw [HE.out, HD.out, if_pos hK0])
                subst hK0
                clear HE HD HN
                go_wp2_with fail
                refine (C _).mono ?_
                rintro e w1 ⟨rfl, hb1⟩
                go_wp2
                go_roundg j
                case rel => exact ⟨j, by omega, by go_num, rfl, HN3, hbx.trans (hb1.mono hbx.size)⟩
                case measure => omega
              · have HN3 : Hid (longestOf s.data.toList = (K, j + 1)) := Lib.hid (by rw [HE.out, HD.out, if_neg hK0])
                have k0 : (0 : Int) < (K : Int) := by omega
                clear HE HD HN
                go_wp2_with fail
                refine (C _).mono ?_
                rintro e w1 ⟨rfl, hb1⟩
                go_wp2
                go_ret2
                exact ⟨rii (by rw [HN3.out]) (by rw [HN3.out]; rfl), hbx.trans (hb1.mono hbx.size)⟩
      · clear b3
        have HR : Hid (runLen notNl s.data.toList = k) := HK
        clear HK
        by_cases hR : k = 0
        · exact absurd h0 (by omega)
        · have HN : Hid (longestOf s.data.toList = downK s.data.toList k) := Lib.hid (by rw [← HQ.out]; unfold longR; rw [if_neg (by rw [HR.out]; exact hR), HR.out])
          have b9 : ((k : Int) == 0) = false := beq_eq_false_iff_ne.2 (by omega)
          clear HQ HR
          go_wp2
          go_loopg [4] k (fun g i wx => ∃ j : Nat, j ≤ k ∧ i = .int .i64 j ∧ j = g ∧ Hid (longestOf s.data.toList = downK s.data.toList j) ∧ Below w.heap.size w wx)
          case atStart => exact ⟨k, Nat.le_refl _, rfl, rfl, HN, Below.refl _ _⟩
          case round =>
            obtain ⟨j, hj, rfl, rfl, HE, hbx⟩ := hrel
            cases j with
            | zero =>
              clear HN
              cases hq : isQuote s[0] with
              | true =>
                have HN2 : Hid (longestOf s.data.toList = (0, 0)) := Lib.hid (by
                  have hd := data_drop s 0 h0
                  rw [List.drop_zero] at hd
                  rw [HE.out, downK, if_pos (by rw [hd]; exact hq)])
                unfold isQuote at hq
                by_cases h39 : s[0] = 39
                · have e0 : ((s[0].toNat : Int) == 39) = true := by rw [h39]; rfl
                  clear HE hq h39
                  go_wp2
                  go_ret2
                  exact ⟨rii (by rw [HN2.out]; rfl) (by rw [HN2.out]; rfl), hbx⟩
                · have e0 : ((s[0].toNat : Int) == 39) = false := beq_eq_false_iff_ne.2 (fun h => h39 (u8_int.2 h))
                  have e1 : ((s[0].toNat : Int) == 34) = true := by
                    have : s[0] = 34 := by simpa [h39] using hq
                    rw [this]; rfl
                  clear HE hq h39
                  go_wp2
                  go_ret2
                  exact ⟨rii (by rw [HN2.out]; rfl) (by rw [HN2.out]; rfl), hbx⟩
              | false =>
                have HN2 : Hid (longestOf s.data.toList = (6, 1)) := Lib.hid (by
                  have hd := data_drop s 0 h0
                  rw [List.drop_zero] at hd
                  rw [HE.out, downK, if_neg (by rw [hd, List.headD_cons, hq]; decide)])
                unfold isQuote at hq
                rw [Bool.or_eq_false_iff] at hq
                have e0 : ((s[0].toNat : Int) == 39) = false := beq_eq_false_iff_ne.2 (fun h => (beq_eq_false_iff_ne.1 hq.1) (u8_int.2 h))
                have e1 : ((s[0].toNat : Int) == 34) = false := beq_eq_false_iff_ne.2 (fun h => (beq_eq_false_iff_ne.1 hq.2) (u8_int.2 h))
                clear HE hq
                go_wp2
                go_ret2
                exact ⟨rii (by rw [HN2.out]; rfl) (by rw [HN2.out]; rfl), hbx⟩
            | succ j =>
              have C : ∀ w' : World, Calls Tryz.prog 74 #[.string (s.extract 0 (j + 1))] w' fun e w'' => e = .returned (.int .i64 (kindR (s.data.toList.take (j + 1)) : Nat)) ∧ Below w'.heap.size w' w'' := fun w' => by
                have := rKind_any (s.extract 0 (j + 1)) w' (by rw [ByteArray.size_extract]; omega)
                rw [extract_list, List.drop_zero] at this
                exact this
              have HD : Hid (downK s.data.toList (j + 1) = if kindR (s.data.toList.take (j + 1)) = 0 then downK s.data.toList j else (kindR (s.data.toList.take (j + 1)), j + 1)) := Lib.hid rfl
              obtain ⟨K, hK⟩ : ∃ K, kindR (s.data.toList.take (j + 1)) = K := ⟨_, rfl⟩
              rw [hK] at C HD
              clear hK
              have j1 : (0 : Int) < (j : Int) + 1 := by omega
              have j2 : ((j : Int) + 1).toNat = j + 1 := by omega
              have j3 : (j : Int) + 1 ≤ (s.size : Int) := by omega
              have v1 : wrap64 ((j : Int) + 1 - 1) = (j : Int) := by rw [show (j : Int) + 1 - 1 = (j : Int) by omega]; exact IntWalk.wrap64_in _ (by omega)
              have v2 : (j : Int) + 1 - 1 = (j : Int) := by omega
              by_cases hK0 : K = 0
              · have HN3 : Hid (longestOf s.data.toList = downK s.data.toList j) := Lib.hid (by rw [HE.out, HD.out, if_pos hK0])
                subst hK0
                clear HE HD HN
                go_wp2_with fail
                refine (C _).mono ?_
                rintro e w1 ⟨rfl, hb1⟩
                go_wp2
                go_roundg j
                case rel => exact ⟨j, by omega, by go_num, rfl, HN3, hbx.trans (hb1.mono hbx.size)⟩
                case measure => omega
              · have HN3 : Hid (longestOf s.data.toList = (K, j + 1)) := Lib.hid (by rw [HE.out, HD.out, if_neg hK0])
                have k0 : (0 : Int) < (K : Int) := by omega
                clear HE HD HN
                go_wp2_with fail
                refine (C _).mono ?_
                rintro e w1 ⟨rfl, hb1⟩
                go_wp2
                go_ret2
                exact ⟨rii (by rw [HN3.out]) (by rw [HN3.out]; rfl), hbx.trans (hb1.mono hbx.size)⟩

end Go.Proofs.YtenmapahigbbeaaGreat

namespace Go.Proofs.YtenmapahigbbeaaGreat
open Go.RowKit

def sharpB (a : List UInt8) : Bool := a == [35] || a == [37, 58]
def inclB (a : List UInt8) : Bool := a == [105, 110, 99, 108, 117, 100, 101]
/-- What a line's texts so far are. -/
def stOf : List (List UInt8) → Nat
  | [] => 0
  | [a] => if sharpB a then 1 else 3
  | [a, b] => if sharpB a && inclB b then 2 else 3
  | _ => 3
theorem stOf_snoc (ln : List (List UInt8)) (t : List UInt8) {k : Nat} (h8 : k ≠ 8) (h9 : k ≠ 9) : stOf (ln ++ [t]) = lineWith (stOf ln) k t := by
  unfold lineWith
  rw [if_neg h8, if_neg h9]
  match ln with
  | [] =>
    show (if sharpB t then 1 else 3) = _
    unfold sharpB
    cases h : (t == [35] || t == [37, 58]) <;> simp [stOf, h]
  | [a] =>
    show (if sharpB a && inclB t then 2 else 3) = _
    cases ha : sharpB a
    · simp [stOf, ha]
    · cases hb : inclB t
      · unfold inclB at hb; simp [stOf, ha, hb]
      · unfold inclB at hb; simp [stOf, ha, hb]
  | [a, b] =>
    show 3 = _
    cases h : (sharpB a && inclB b) <;> simp [stOf, h]
  | a :: b :: c :: r =>
    show 3 = _
    simp [stOf]

/-- So far read. -/
structure RefT (L : List UInt8) (tks : List Tk) (ln : List (List UInt8)) (e at' : Nat) (sp : Bool) : Prop where
  le : e ≤ at'
  le2 : at' ≤ L.length
  h1 : (toks L 0 0).1 = tks ++ (toks L e (stOf ln)).1
  h2 : (toks L 0 0).2 = (toks L e (stOf ln)).2
  h3 : atOf L e = atOf L at'
  h4 : sp = decide (e < at')
theorem RefT.start (L : List UInt8) : RefT L [] [] 0 0 false := ⟨Nat.le_refl _, Nat.zero_le _, rfl, rfl, rfl, rfl⟩
theorem RefT.white {L : List UInt8} {tks : List Tk} {ln : List (List UInt8)} {e at' : Nat} {sp : Bool} (h : RefT L tks ln e at' sp) (hlt : at' < L.length) (hw : isWS L[at'] = true) : RefT L tks ln e (at' + 1) true :=
  ⟨Nat.le_succ_of_le h.le, hlt, h.h1, h.h2, by
    rw [h.h3]
    unfold atOf
    rw [List.drop_eq_getElem_cons hlt, runLen, if_pos hw]; omega, (decide_eq_true (by have := h.le; omega)).symm⟩
theorem RefT.at {L : List UInt8} {tks : List Tk} {ln : List (List UInt8)} {e at' : Nat} {sp : Bool} (h : RefT L tks ln e at' sp) (hlt : at' < L.length) (hw : isWS L[at'] = false) : atOf L e = at' := by
  rw [h.h3]
  unfold atOf
  rw [List.drop_eq_getElem_cons hlt, runLen, if_neg (by rw [hw]; decide)]; rfl
theorem RefT.tok {L : List UInt8} {tks : List Tk} {ln ln' : List (List UInt8)} {e at' k n : Nat} {sp : Bool} (h : RefT L tks ln e at' sp) (hlt : at' < L.length) (hw : isWS L[at'] = false)
    (hn : nextOf (stOf ln == 2) (L.drop at') = (k, n, 0)) (hln : stOf ln' = lineWith (stOf ln) k ((L.take (at' + n)).drop at')) : RefT L (tks ++ [⟨k, at', at' + n, sp⟩]) ln' (at' + n) (at' + n) false := by
  have ha := h.at hlt hw
  have hx : nextAt L e (stOf ln) = (k, n, 0) := by unfold nextAt; rw [ha]; exact hn
  have ht : tokAt L e (stOf ln) = ⟨k, at', at' + n, sp⟩ := by unfold tokAt; rw [hx, ha, ← h.h4]
  have hst : stAt L e (stOf ln) = stOf ln' := by unfold stAt; rw [hx, ht, hln]; rfl
  have hc := toks_cons (l := L) (e := e) (st := stOf ln) (by rw [ha]; exact hlt) (by rw [hx])
  rw [hst, ht] at hc
  have hlen := nextAt_len (l := L) (e := e) (st := stOf ln) (by rw [ha]; exact hlt) (by rw [hx])
  rw [hx, ha] at hlen
  refine ⟨Nat.le_refl _, hlen.2, ?_, ?_, rfl, (decide_eq_false (Nat.lt_irrefl _)).symm⟩
  · rw [h.h1, hc]; simp
  · rw [h.h2, hc]
theorem RefT.err {L : List UInt8} {tks : List Tk} {ln : List (List UInt8)} {e at' k n r : Nat} {sp : Bool} (h : RefT L tks ln e at' sp) (hlt : at' < L.length) (hw : isWS L[at'] = false)
    (hn : nextOf (stOf ln == 2) (L.drop at') = (k, n, r)) (hr : r ≠ 0) : (toks L 0 0).2 = r := by
  have ha := h.at hlt hw
  have hx : nextAt L e (stOf ln) = (k, n, r) := by unfold nextAt; rw [ha]; exact hn
  rw [h.h2, toks_err (by rw [ha]; exact hlt) (by rw [hx]; exact hr), hx]
theorem RefT.all {L : List UInt8} {tks : List Tk} {ln : List (List UInt8)} {e : Nat} {sp : Bool} (h : RefT L tks ln e L.length sp) : toks L 0 0 = (tks, 0) := by
  have h0 : toks L e (stOf ln) = ([], 0) := toks_end h.le (by rw [h.h3]; exact atOf_ge _ _)
  have h1 := h.h1
  have h2 := h.h2
  rw [h0] at h1 h2
  exact Prod.ext (by rw [h1]; simp) h2
theorem RefT.pos {L : List UInt8} {ln : List (List UInt8)} {at' k n : Nat} (hlt : at' < L.length) (hn : nextOf (stOf ln == 2) (L.drop at') = (k, n, 0)) : 1 ≤ n ∧ at' + n ≤ L.length := by
  have hne : L.drop at' ≠ [] := fun h2 => by have := List.drop_eq_nil_iff.1 h2; omega
  have := next_len hne (by rw [hn])
  rw [hn, List.length_drop] at this
  simp only at this
  omega

theorem ownsRow_keepsT {W W' : World} {base z n : Nat} {T : TypeId} {v : Value} {xs : List Value} (h : W.ownsRow base T z v n xs) (hk : KeepsT T W W') : W'.ownsRow base T z v n xs :=
  ⟨h.1, h.2.elim .inl fun ⟨g, cap, cur, h1, h2, h3, h4⟩ => .inr ⟨g, cap, cur, h1, h2, hk g cur _ h3, h4⟩⟩
theorem infoStr : (Tryz.prog.info? 9).map (fun i => (i.zero, i.size, i.bytes)) = some (some (.string ⟨#[]⟩), 1, 16) := by kernel_rfl
def strV (l : List ByteArray) : List Value := l.map .string
theorem strV_snoc (l : List ByteArray) (a : ByteArray) : strV (l ++ [a]) = strV l ++ [.string a] := by simp [strV]
def lnOf (l : List ByteArray) : List (List UInt8) := l.map (·.data.toList)
theorem lnOf_snoc (l : List ByteArray) (a : ByteArray) : lnOf (l ++ [a]) = lnOf l ++ [a.data.toList] := by simp [lnOf]

theorem row_shapeS {w : World} {base n : Nat} {e : TypeId} {size : Nat} {v : Value} {xs : List Value} (h : w.ownsRow base e size v n xs) : ∃ a cap, v = .slice a n cap := by
  rcases h.2 with ⟨rfl, rfl⟩ | ⟨g, cap, cur, rfl, _⟩
  · exact ⟨_, _, rfl⟩
  · exact ⟨_, _, rfl⟩
theorem row_posS {w : World} {base n cap : Nat} {e : TypeId} {size : Nat} {a : Option Addr} {xs : List Value} (hn : 0 < n) (h : w.ownsRow base e size (.slice a n cap) n xs) : ∃ g, a = some ⟨g, 0, none⟩ ∧ g < w.heap.size ∧ (∀ j u, xs[j]? = some u → w.cell? ⟨g, j, none⟩ = some u) := by
  rcases h.2 with ⟨h1, h2⟩ | ⟨g, cap, cur, h1, _⟩
  · omega
  · cases h1
    refine ⟨g, rfl, (h.lt g rfl).2, fun j u hj => ?_⟩
    have := h.cells (g := g) rfl j u hj
    rcases j with _ | j <;> simpa [Addr.add] using this
theorem r2cS {v : Value} {a c : Int} (h : a = c) : Ending.returned (.tuple #[v, .int .i64 a]) = .returned (.tuple #[v, .int .i64 c]) := by rw [h]

theorem cell1_newS (w : World) (a : Value) (t : TypeId) : ∀ j u, [a][j]? = some u → (w.alloc (.cells #[a] t)).cell? ((⟨w.heap.size, 0, none⟩ : Addr).add j) = some u := by
  intro j u hj
  match j, hj with
  | 0, hj => simp at hj; subst hj; simp [Addr.add]
  | j + 1, hj => simp at hj


end Go.Proofs.YtenmapahigbbeaaGreat

namespace Go.Proofs.YtenmapahigbbeaaGreat
open Go.RowKit

theorem longest_not8 (l : List UInt8) : (longestOf l).1 ≠ 8 := by
  unfold longestOf
  simp only
  split
  · decide
  · rcases fold_posS l [1, 2, 3, 4, 5, 9] (0, 0) with h | ⟨k, h1, h2, _⟩
    · rw [h]; decide
    · rw [h2]
      simp only [List.mem_cons, List.not_mem_nil, or_false] at h1
      rcases h1 with rfl | rfl | rfl | rfl | rfl | rfl <;> decide

/-- What stands at a place, where no header's name begins: the four cases. -/
theorem next_cases {inc : Bool} {l : List UInt8} (h : inc = true → headerLen l = 0) :
    (remR l = -1 ∧ Hid (nextOf inc l = (0, 0, 20))) ∨ (∃ C : Nat, 0 < C ∧ remR l = (C : Int) ∧ Hid (nextOf inc l = (8, C, 0))) ∨
    (remR l = 0 ∧ (longestOf l).2 = 0 ∧ Hid (nextOf inc l = (0, 0, 21))) ∨ (remR l = 0 ∧ (longestOf l).2 ≠ 0 ∧ Hid (nextOf inc l = ((longestOf l).1, (longestOf l).2, 0))) := by
  have h1 : ¬ (inc && headerLen l != 0) = true := by
    intro h2
    rw [Bool.and_eq_true] at h2
    rw [h h2.1] at h2
    exact absurd h2.2 (by decide)
  have hn : nextOf inc l = if isComment l then (if commentLen l = 0 then (0, 0, 20) else (8, commentLen l, 0)) else if (longestOf l).2 = 0 then (0, 0, 21) else ((longestOf l).1, (longestOf l).2, 0) := by
    unfold nextOf; rw [if_neg h1]
  unfold remR
  rw [hn]
  by_cases hc : isComment l = true
  · rw [if_pos hc, if_pos hc]
    by_cases hl : commentLen l = 0
    · rw [if_pos hl, if_pos hl]; exact .inl ⟨rfl, Lib.hid rfl⟩
    · rw [if_neg hl, if_neg hl]; exact .inr (.inl ⟨_, Nat.pos_of_ne_zero hl, rfl, Lib.hid rfl⟩)
  · rw [if_neg hc, if_neg hc]
    by_cases hl : (longestOf l).2 = 0
    · rw [if_pos hl]; exact .inr (.inr (.inl ⟨rfl, hl, Lib.hid rfl⟩))
    · rw [if_neg hl]; exact .inr (.inr (.inr ⟨rfl, hl, Lib.hid rfl⟩))
theorem next_header {l : List UInt8} (h : headerLen l ≠ 0) : nextOf true l = (7, headerLen l, 0) := by
  unfold nextOf
  rw [if_pos]
  simpa using h

set_option maxRecDepth 100000 in
set_option maxHeartbeats 20000000 in
theorem rTokens_any (s : ByteArray) (w : World) (hs : s.size ≤ 1000) :
    Calls Tryz.prog 57 #[.string s] w fun e w' => (∃ v, e = .returned (.tuple #[v, .int .i64 ((toks s.data.toList 0 0).2 : Nat)]) ∧ ((toks s.data.toList 0 0).2 = 0 → w'.ownsRow w.heap.size 34 5 v (toksY s).length (ydCells (toksY s))) ∧ ((toks s.data.toList 0 0).2 ≠ 0 → v = .slice none 0 0)) ∧ Below w.heap.size w w' := by
  obtain ⟨i0, hi, hz0, hz1, hz2⟩ := info_parts infoTok
  obtain ⟨j0, hj, hy0, hy1, hy2⟩ := info_parts infoStr
  go_enter Tryz.func57, Tryz.ntmps57
  go_wp2
  go_loopg [4, 5, 6, 7] s.size (fun g out line at' space wx => ∃ (tks : List Tk) (ln : List ByteArray) (e a : Nat) (sp : Bool), Hid (RefT s.data.toList tks (lnOf ln) e a sp) ∧ at' = .int .i64 a ∧ space = .bool sp ∧ g = s.size - a ∧ a ≤ s.size ∧ tks.length ≤ e ∧ ln.length ≤ e ∧ e ≤ a ∧
    wx.ownsRow w.heap.size 34 5 out tks.length (ydCells (tks.map (tokY s))) ∧ wx.ownsRow w.heap.size 9 1 line ln.length (strV ln) ∧ Below w.heap.size w wx)
  case atStart => exact ⟨[], [], 0, 0, false, Lib.hid (RefT.start _), rfl, rfl, rfl, Nat.zero_le _, Nat.le_refl _, Nat.le_refl _, Nat.le_refl _, World.ownsRow_nil _ _ _ _, World.ownsRow_nil _ _ _ _, Below.refl _ _⟩
  case round =>
    obtain ⟨tks, ln, e, a, sp, HR, rfl, rfl, rfl, ha, hte, hle, hea, hrow, hlin, hbx⟩ := hrel
    by_cases hlt : a < s.size
    · have hbs := hbx.size
      have CW := fun w => rwhite_any s[a] w
      have ja : (a : Int) < (s.size : Int) := by omega
      cases hw : isWS s[a] with
      | true =>
        have HN := Lib.hid (HR.out.white (by rw [size_list]; exact hlt) hw)
        rw [hw] at CW
        clear hw HR
        go_wp2_with (go_at_call 66; refine (CW _).mono ?_; rintro e w' ⟨rfl, rfl⟩)
        go_roundg (s.size - (a + 1))
        case rel => exact ⟨tks, ln, e, a + 1, true, HN, by go_num, rfl, rfl, by omega, hte, hle, by omega, hrow, hlin, hbx⟩
        case measure => omega
      | false =>
        rw [hw] at CW
        obtain ⟨lv, lcap, rfl⟩ := row_shapeS hlin
        obtain ⟨inc, hinc⟩ : ∃ b, (stOf (lnOf ln) == 2) = b := ⟨_, rfl⟩
        go_upto_region 11 with (go_at_call 66; refine (CW _).mono ?_; rintro e w' ⟨rfl, rfl⟩)
        go_cut [40] (fun t wx => t = .bool inc ∧ wx = wr)
        case first =>
          by_cases h2 : ln.length = 2
          · match ln, h2, hlin, hinc with
            | [x, y], _, hlin, hinc =>
              obtain ⟨g, rfl, _, hc⟩ := row_posS (by simp) hlin
              have c0 := hc 0 (.string x) rfl
              have c1 := hc 1 (.string y) rfl
              have hst : inc = ((x.toList == [35] || x.toList == [37, 58]) && y.toList == [105, 110, 99, 108, 117, 100, 101]) := by
                rw [← hinc, ByteArray.toList_eq, ByteArray.toList_eq]
                show ((if sharpB x.data.toList && inclB y.data.toList then 2 else 3) == 2) = _
                unfold sharpB inclB
                cases ((x.data.toList == [35] || x.data.toList == [37, 58]) && y.data.toList == [105, 110, 99, 108, 117, 100, 101]) <;> rfl
              have HI := Lib.hid hst
              clear hst hinc hc
              cases h1 : (x.toList == [35])
              · cases h3 : (x.toList == [37, 58])
                · have HI2 : Hid (inc = false) := Lib.hid (by rw [HI.out, h1, h3]; rfl)
                  go_wp2_with fail
                  go_meet
                  exact ⟨by rw [HI2.out], rfl⟩
                · have HI2 : Hid (inc = (y.toList == [105, 110, 99, 108, 117, 100, 101])) := Lib.hid (by rw [HI.out, h1, h3]; rfl)
                  cases h4 : (y.toList == [105, 110, 99, 108, 117, 100, 101]) <;>
                  · rw [h4] at HI2
                    go_wp2_with fail
                    go_meet
                    exact ⟨by rw [HI2.out], rfl⟩
              · have HI2 : Hid (inc = (y.toList == [105, 110, 99, 108, 117, 100, 101])) := Lib.hid (by rw [HI.out, h1]; rfl)
                cases h4 : (y.toList == [105, 110, 99, 108, 117, 100, 101]) <;>
                · rw [h4] at HI2
                  go_wp2_with fail
                  go_meet
                  exact ⟨by rw [HI2.out], rfl⟩
          · have hb2 : ((ln.length : Int) == 2) = false := beq_eq_false_iff_ne.2 (by omega)
            have HI2 : Hid (inc = false) := Lib.hid (by
              rw [← hinc]
              match ln, h2 with
              | [], _ => rfl
              | [x], _ => show ((if sharpB x.data.toList then 1 else 3) == 2) = false; split <;> rfl
              | [x, y], h2 => exact absurd rfl h2
              | x :: y :: z :: r, _ => rfl)
            clear h2 hinc
            go_wp2_with fail
            go_meet
            exact ⟨by rw [HI2.out], rfl⟩
        case rest =>
          obtain ⟨rfl, rfl⟩ := hcut
          obtain ⟨S, hS⟩ : ∃ S, s.extract a s.size = S := ⟨_, rfl⟩
          have hSl : S.data.toList = s.data.toList.drop a := by rw [← hS, extract_end]
          have hSz : S.size = s.size - a := by rw [← size_list, hSl, List.length_drop, size_list]
          have CN := fun w => rnamed_any S w (by unfold maxLen; omega) (by omega)
          have CR := fun w => rremark_any S w (by unfold maxLen; omega)
          have CL := fun w => rlongest_any S w (by omega) (by omega)
          rw [hSl] at CN CR CL
          have hcases := next_cases (inc := inc) (l := s.data.toList.drop a)
          have hhead : inc = true → headerLen (s.data.toList.drop a) ≠ 0 → nextOf inc (s.data.toList.drop a) = (7, headerLen (s.data.toList.drop a), 0) := fun h1 h2 => by rw [h1]; exact next_header h2
          have h8 := longest_not8 (s.data.toList.drop a)
          obtain ⟨H, hH⟩ : ∃ H, headerLen (s.data.toList.drop a) = H := ⟨_, rfl⟩
          obtain ⟨K, hK⟩ : ∃ K, (longestOf (s.data.toList.drop a)).1 = K := ⟨_, rfl⟩
          obtain ⟨N, hN⟩ : ∃ N, (longestOf (s.data.toList.drop a)).2 = N := ⟨_, rfl⟩
          rw [hH] at hcases hhead CN
          rw [hK] at hcases CL h8
          rw [hN] at hcases CL
          have k8 := h8
          rw [← hinc] at hcases hhead
          clear hH hK hN h8 hSz
          have jS : (a : Int) ≤ (s.size : Int) := by omega
          cases inc with
          | true =>
            by_cases hH0 : H = 0
            · subst hH0
              have hR := hcases (fun _ => rfl)
              clear hcases hhead hinc
              rcases hR with ⟨hRv, HX⟩ | ⟨C, hC, hRv, HX⟩ | ⟨hRv, hN0, HX⟩ | ⟨hRv, hN0, HX⟩
              · rw [hRv] at CR
                have HE := Lib.hid (HR.out.err (by rw [size_list]; exact hlt) hw HX.out (by decide))
                go_wp2_with (first | (go_at_call 67; refine (CN _).mono ?_; rintro e w' ⟨rfl, rfl⟩) | (go_at_call 68; refine (CR _).mono ?_; rintro e w' ⟨rfl, rfl⟩))
                go_ret2
                exact ⟨⟨_, r2cS (by rw [HE.out]; rfl), (fun h => by rw [HE.out] at h; cases h), fun _ => rfl⟩, hbx⟩
              · rw [hRv] at CR
                have c0 : ((C : Int) == 0) = false := beq_eq_false_iff_ne.2 (by omega)
                have c1 : ¬ (C : Int) < 0 := by omega
                obtain ⟨n1, n2⟩ := RefT.pos (by rw [size_list]; exact hlt) HX.out
                rw [size_list] at n2
                have p1 : (a : Int) + (C : Int) ≤ (s.size : Int) := by omega
                have p2 : ((a : Int) + (C : Int)).toNat = a + C := by omega
                have p3 : (a : Int) ≤ (a : Int) + (C : Int) := by omega
                have p4 : (0 : Int) ≤ (a : Int) + (C : Int) := by omega
                have hbx1 := hbx
                have hbs1 := hbs
                have hrow1 := hrow
                have hlin1 := hlin
                go_wp2_with (first | (go_at_call 67; refine (CN _).mono ?_; rintro e w' ⟨rfl, rfl⟩) | (go_at_call 68; refine (CR _).mono ?_; rintro e w' ⟨rfl, rfl⟩) | (at_builtin; refine wpList_append_own _ rfl _ _ 32 rfl w.heap.size 34 i0 (.agg #[.int .i64 0, .string ⟨#[]⟩, .int .i64 0, .int .i64 0, .bool false]) 5 48 Tryz.underlying32 hi hz0 hz1 hz2 rfl (by decide) _ _ _ rfl (hrow1.alloc _) ⟨wc.heap.size, 0, none⟩ 1 1 [.int .i64 8, .string (s.extract a (a + C)), .int .i64 a, .int .i64 ((a : Int) + C), .bool sp] rfl rfl (cell5_new _ _ _ _ _ _ _) (by simp [Value.oneCell']) (by unfold maxLen; omega) (by omega) (by simp; omega) ?_; intro v2 w2 hown2 hgrow2 hn2; clear hn2; have hB2 := (hbx1.alloc hbs1 _).grown hgrow2 (by simp; omega) (fun j e => (hrow1.lt j e).1); have hbs2 := hB2.size; have hlin2 := ownsRow_keepsT (hlin1.alloc _) (KeepsT.grown_row (T := 9) hgrow2 (hrow1.alloc _) (by decide))))
                go_roundg (s.size - (a + C))
                case rel =>
                  refine ⟨tks ++ [⟨8, a, a + C, sp⟩], ln, a + C, a + C, false, Lib.hid (HR.out.tok (by rw [size_list]; exact hlt) hw HX.out (rfl)), by go_num, rfl, rfl, by omega, by rw [List.length_append]; simp only [List.length_cons, List.length_nil]; omega, by omega, Nat.le_refl _, ?_, hlin2, hB2⟩
                  rw [List.length_append, List.map_append, List.map_singleton, ydCells_snoc]
                  exact hown2
                case measure => omega
              · rw [hRv] at CR
                rw [hN0] at CL
                have HE := Lib.hid (HR.out.err (by rw [size_list]; exact hlt) hw HX.out (by decide))
                go_wp2_with (first | (go_at_call 67; refine (CN _).mono ?_; rintro e w' ⟨rfl, rfl⟩) | (go_at_call 68; refine (CR _).mono ?_; rintro e w' ⟨rfl, rfl⟩) | (go_at_call 69; refine (CL _).mono ?_; rintro e w1 ⟨rfl, hb1⟩; have hbx1 := hbx.trans (hb1.mono hbx.size); have hbs1 := hbx1.size; have hrow1 := ownsRow_keepsT hrow (KeepsT.of_below hb1); have hlin1 := ownsRow_keepsT hlin (KeepsT.of_below hb1)))
                go_ret2
                exact ⟨⟨_, r2cS (by rw [HE.out]; rfl), (fun h => by rw [HE.out] at h; cases h), fun _ => rfl⟩, hbx1⟩
              · rw [hRv] at CR
                obtain ⟨n1, n2⟩ := RefT.pos (by rw [size_list]; exact hlt) HX.out
                rw [size_list] at n2
                have c0 : ((N : Int) == 0) = false := beq_eq_false_iff_ne.2 (by omega)
                by_cases k9 : K = 9
                · have d9 : ((K : Int) == 9) = true := by simp [k9]
                  subst k9
                  have p1 : (a : Int) + (N : Int) ≤ (s.size : Int) := by omega
                  have p2 : ((a : Int) + (N : Int)).toNat = a + N := by omega
                  have p3 : (a : Int) ≤ (a : Int) + (N : Int) := by omega
                  have p4 : (0 : Int) ≤ (a : Int) + (N : Int) := by omega
                  go_wp2_with (first | (go_at_call 67; refine (CN _).mono ?_; rintro e w' ⟨rfl, rfl⟩) | (go_at_call 68; refine (CR _).mono ?_; rintro e w' ⟨rfl, rfl⟩) | (go_at_call 69; refine (CL _).mono ?_; rintro e w1 ⟨rfl, hb1⟩; have hbx1 := hbx.trans (hb1.mono hbx.size); have hbs1 := hbx1.size; have hrow1 := ownsRow_keepsT hrow (KeepsT.of_below hb1); have hlin1 := ownsRow_keepsT hlin (KeepsT.of_below hb1)) | (at_builtin; refine wpList_append_own _ rfl _ _ 32 rfl w.heap.size 34 i0 (.agg #[.int .i64 0, .string ⟨#[]⟩, .int .i64 0, .int .i64 0, .bool false]) 5 48 Tryz.underlying32 hi hz0 hz1 hz2 rfl (by decide) _ _ _ rfl (hrow1.alloc _) ⟨w1.heap.size, 0, none⟩ 1 1 [.int .i64 9, .string (s.extract a (a + N)), .int .i64 a, .int .i64 ((a : Int) + N), .bool sp] rfl rfl (cell5_new _ _ _ _ _ _ _) (by simp [Value.oneCell']) (by unfold maxLen; omega) (by omega) (by simp; omega) ?_; intro v2 w2 hown2 hgrow2 hn2; clear hn2; have hB2 := (hbx1.alloc hbs1 _).grown hgrow2 (by simp; omega) (fun j e => (hrow1.lt j e).1); have hbs2 := hB2.size; have hlin2 := ownsRow_keepsT (hlin1.alloc _) (KeepsT.grown_row (T := 9) hgrow2 (hrow1.alloc _) (by decide))))
                  go_roundg (s.size - (a + N))
                  case rel =>
                    refine ⟨tks ++ [⟨9, a, a + N, sp⟩], [], a + N, a + N, false, Lib.hid (HR.out.tok (by rw [size_list]; exact hlt) hw HX.out (rfl)), by go_num, rfl, rfl, by omega, by rw [List.length_append]; simp only [List.length_cons, List.length_nil]; omega, Nat.zero_le _, Nat.le_refl _, ?_, World.ownsRow_nil _ _ _ _, hB2⟩
                    rw [List.length_append, List.map_append, List.map_singleton, ydCells_snoc]
                    exact hown2
                  case measure => omega
                · have d9 : ((K : Int) == 9) = false := beq_eq_false_iff_ne.2 (by omega)
                  have d8 : ((K : Int) != 8) = true := by rw [bne_iff_ne]; omega
                  have d8b : ((K : Int) == 8) = false := beq_eq_false_iff_ne.2 (by omega)
                  have p1 : (a : Int) + (N : Int) ≤ (s.size : Int) := by omega
                  have p2 : ((a : Int) + (N : Int)).toNat = a + N := by omega
                  have p3 : (a : Int) ≤ (a : Int) + (N : Int) := by omega
                  have p4 : (0 : Int) ≤ (a : Int) + (N : Int) := by omega
                  go_wp2_with (first | (go_at_call 67; refine (CN _).mono ?_; rintro e w' ⟨rfl, rfl⟩) | (go_at_call 68; refine (CR _).mono ?_; rintro e w' ⟨rfl, rfl⟩) | (go_at_call 69; refine (CL _).mono ?_; rintro e w1 ⟨rfl, hb1⟩; have hbx1 := hbx.trans (hb1.mono hbx.size); have hbs1 := hbx1.size; have hrow1 := ownsRow_keepsT hrow (KeepsT.of_below hb1); have hlin1 := ownsRow_keepsT hlin (KeepsT.of_below hb1)) | (at_builtin; refine wpList_append_own _ rfl _ _ 32 rfl w.heap.size 34 i0 (.agg #[.int .i64 0, .string ⟨#[]⟩, .int .i64 0, .int .i64 0, .bool false]) 5 48 Tryz.underlying32 hi hz0 hz1 hz2 rfl (by decide) _ _ _ rfl (hrow1.alloc _) ⟨w1.heap.size, 0, none⟩ 1 1 [.int .i64 K, .string (s.extract a (a + N)), .int .i64 a, .int .i64 ((a : Int) + N), .bool sp] rfl rfl (cell5_new _ _ _ _ _ _ _) (by simp [Value.oneCell']) (by unfold maxLen; omega) (by omega) (by simp; omega) ?_; intro v2 w2 hown2 hgrow2 hn2; clear hn2; have hB2 := (hbx1.alloc hbs1 _).grown hgrow2 (by simp; omega) (fun j e => (hrow1.lt j e).1); have hbs2 := hB2.size; have hlin2 := ownsRow_keepsT (hlin1.alloc _) (KeepsT.grown_row (T := 9) hgrow2 (hrow1.alloc _) (by decide))) | (at_builtin; refine wpList_append_own _ rfl _ _ 104 rfl w.heap.size 9 j0 (.string ⟨#[]⟩) 1 16 Tryz.underlying104 hj hy0 hy1 hy2 rfl (by decide) _ _ _ rfl (hlin2.alloc _) ⟨w2.heap.size, 0, none⟩ 1 1 [.string (s.extract a (a + N))] rfl rfl (cell1_newS _ _ _) (by simp [Value.oneCell']) (by unfold maxLen; omega) (by omega) (by simp; omega) ?_; intro v3 w3 hown3 hgrow3 hn3; clear hn3; have hB3 := (hB2.alloc hbs2 _).grown hgrow3 (by simp; omega) (fun j e => (hlin2.lt j e).1); have hrow3 := ownsRow_keepsT (hown2.alloc _) (KeepsT.grown_row (T := 34) hgrow3 (hlin2.alloc _) (by decide))))
                  go_roundg (s.size - (a + N))
                  case rel =>
                    refine ⟨tks ++ [⟨K, a, a + N, sp⟩], (ln ++ [s.extract a (a + N)]), a + N, a + N, false, Lib.hid (HR.out.tok (by rw [size_list]; exact hlt) hw HX.out (by rw [lnOf_snoc, extract_list]; exact stOf_snoc _ _ (by first | decide | exact k8) (by first | decide | exact k9))), by go_num, rfl, rfl, by omega, by rw [List.length_append]; simp only [List.length_cons, List.length_nil]; omega, by rw [List.length_append]; simp only [List.length_cons, List.length_nil]; omega, Nat.le_refl _, ?_, by rw [List.length_append, strV_snoc]; exact hown3, hB3⟩
                    rw [List.length_append, List.map_append, List.map_singleton, ydCells_snoc]
                    exact hrow3
                  case measure => omega
            · have HX := Lib.hid (hhead hinc hH0)
              clear hcases hhead
              have c0 : ((H : Int) == 0) = false := beq_eq_false_iff_ne.2 (by omega)
              have c1 : ¬ (H : Int) < 0 := by omega
              obtain ⟨n1, n2⟩ := RefT.pos (by rw [size_list]; exact hlt) HX.out
              rw [size_list] at n2
              have p1 : (a : Int) + (H : Int) ≤ (s.size : Int) := by omega
              have p2 : ((a : Int) + (H : Int)).toNat = a + H := by omega
              have p3 : (a : Int) ≤ (a : Int) + (H : Int) := by omega
              have p4 : (0 : Int) ≤ (a : Int) + (H : Int) := by omega
              have hbx1 := hbx
              have hbs1 := hbs
              have hrow1 := hrow
              have hlin1 := hlin
              go_wp2_with (first | (go_at_call 67; refine (CN _).mono ?_; rintro e w' ⟨rfl, rfl⟩) | (go_at_call 68; refine (CR _).mono ?_; rintro e w' ⟨rfl, rfl⟩) | (at_builtin; refine wpList_append_own _ rfl _ _ 32 rfl w.heap.size 34 i0 (.agg #[.int .i64 0, .string ⟨#[]⟩, .int .i64 0, .int .i64 0, .bool false]) 5 48 Tryz.underlying32 hi hz0 hz1 hz2 rfl (by decide) _ _ _ rfl (hrow1.alloc _) ⟨wc.heap.size, 0, none⟩ 1 1 [.int .i64 7, .string (s.extract a (a + H)), .int .i64 a, .int .i64 ((a : Int) + H), .bool sp] rfl rfl (cell5_new _ _ _ _ _ _ _) (by simp [Value.oneCell']) (by unfold maxLen; omega) (by omega) (by simp; omega) ?_; intro v2 w2 hown2 hgrow2 hn2; clear hn2; have hB2 := (hbx1.alloc hbs1 _).grown hgrow2 (by simp; omega) (fun j e => (hrow1.lt j e).1); have hbs2 := hB2.size; have hlin2 := ownsRow_keepsT (hlin1.alloc _) (KeepsT.grown_row (T := 9) hgrow2 (hrow1.alloc _) (by decide))) | (at_builtin; refine wpList_append_own _ rfl _ _ 104 rfl w.heap.size 9 j0 (.string ⟨#[]⟩) 1 16 Tryz.underlying104 hj hy0 hy1 hy2 rfl (by decide) _ _ _ rfl (hlin2.alloc _) ⟨w2.heap.size, 0, none⟩ 1 1 [.string (s.extract a (a + H))] rfl rfl (cell1_newS _ _ _) (by simp [Value.oneCell']) (by unfold maxLen; omega) (by omega) (by simp; omega) ?_; intro v3 w3 hown3 hgrow3 hn3; clear hn3; have hB3 := (hB2.alloc hbs2 _).grown hgrow3 (by simp; omega) (fun j e => (hlin2.lt j e).1); have hrow3 := ownsRow_keepsT (hown2.alloc _) (KeepsT.grown_row (T := 34) hgrow3 (hlin2.alloc _) (by decide))))
              go_roundg (s.size - (a + H))
              case rel =>
                refine ⟨tks ++ [⟨7, a, a + H, sp⟩], (ln ++ [s.extract a (a + H)]), a + H, a + H, false, Lib.hid (HR.out.tok (by rw [size_list]; exact hlt) hw HX.out (by rw [lnOf_snoc, extract_list]; exact stOf_snoc _ _ (by first | decide | exact k8) (by first | decide | exact k9))), by go_num, rfl, rfl, by omega, by rw [List.length_append]; simp only [List.length_cons, List.length_nil]; omega, by rw [List.length_append]; simp only [List.length_cons, List.length_nil]; omega, Nat.le_refl _, ?_, by rw [List.length_append, strV_snoc]; exact hown3, hB3⟩
                rw [List.length_append, List.map_append, List.map_singleton, ydCells_snoc]
                exact hrow3
              case measure => omega
          | false =>
            have hR := hcases (fun h => by rw [hinc] at h; cases h)
            clear hcases hhead hinc
            rcases hR with ⟨hRv, HX⟩ | ⟨C, hC, hRv, HX⟩ | ⟨hRv, hN0, HX⟩ | ⟨hRv, hN0, HX⟩
            · rw [hRv] at CR
              have HE := Lib.hid (HR.out.err (by rw [size_list]; exact hlt) hw HX.out (by decide))
              go_wp2_with (first | (go_at_call 67; refine (CN _).mono ?_; rintro e w' ⟨rfl, rfl⟩) | (go_at_call 68; refine (CR _).mono ?_; rintro e w' ⟨rfl, rfl⟩))
              go_ret2
              exact ⟨⟨_, r2cS (by rw [HE.out]; rfl), (fun h => by rw [HE.out] at h; cases h), fun _ => rfl⟩, hbx⟩
            · rw [hRv] at CR
              have c0 : ((C : Int) == 0) = false := beq_eq_false_iff_ne.2 (by omega)
              have c1 : ¬ (C : Int) < 0 := by omega
              obtain ⟨n1, n2⟩ := RefT.pos (by rw [size_list]; exact hlt) HX.out
              rw [size_list] at n2
              have p1 : (a : Int) + (C : Int) ≤ (s.size : Int) := by omega
              have p2 : ((a : Int) + (C : Int)).toNat = a + C := by omega
              have p3 : (a : Int) ≤ (a : Int) + (C : Int) := by omega
              have p4 : (0 : Int) ≤ (a : Int) + (C : Int) := by omega
              have hbx1 := hbx
              have hbs1 := hbs
              have hrow1 := hrow
              have hlin1 := hlin
              go_wp2_with (first | (go_at_call 67; refine (CN _).mono ?_; rintro e w' ⟨rfl, rfl⟩) | (go_at_call 68; refine (CR _).mono ?_; rintro e w' ⟨rfl, rfl⟩) | (at_builtin; refine wpList_append_own _ rfl _ _ 32 rfl w.heap.size 34 i0 (.agg #[.int .i64 0, .string ⟨#[]⟩, .int .i64 0, .int .i64 0, .bool false]) 5 48 Tryz.underlying32 hi hz0 hz1 hz2 rfl (by decide) _ _ _ rfl (hrow1.alloc _) ⟨wc.heap.size, 0, none⟩ 1 1 [.int .i64 8, .string (s.extract a (a + C)), .int .i64 a, .int .i64 ((a : Int) + C), .bool sp] rfl rfl (cell5_new _ _ _ _ _ _ _) (by simp [Value.oneCell']) (by unfold maxLen; omega) (by omega) (by simp; omega) ?_; intro v2 w2 hown2 hgrow2 hn2; clear hn2; have hB2 := (hbx1.alloc hbs1 _).grown hgrow2 (by simp; omega) (fun j e => (hrow1.lt j e).1); have hbs2 := hB2.size; have hlin2 := ownsRow_keepsT (hlin1.alloc _) (KeepsT.grown_row (T := 9) hgrow2 (hrow1.alloc _) (by decide))))
              go_roundg (s.size - (a + C))
              case rel =>
                refine ⟨tks ++ [⟨8, a, a + C, sp⟩], ln, a + C, a + C, false, Lib.hid (HR.out.tok (by rw [size_list]; exact hlt) hw HX.out (rfl)), by go_num, rfl, rfl, by omega, by rw [List.length_append]; simp only [List.length_cons, List.length_nil]; omega, by omega, Nat.le_refl _, ?_, hlin2, hB2⟩
                rw [List.length_append, List.map_append, List.map_singleton, ydCells_snoc]
                exact hown2
              case measure => omega
            · rw [hRv] at CR
              rw [hN0] at CL
              have HE := Lib.hid (HR.out.err (by rw [size_list]; exact hlt) hw HX.out (by decide))
              go_wp2_with (first | (go_at_call 67; refine (CN _).mono ?_; rintro e w' ⟨rfl, rfl⟩) | (go_at_call 68; refine (CR _).mono ?_; rintro e w' ⟨rfl, rfl⟩) | (go_at_call 69; refine (CL _).mono ?_; rintro e w1 ⟨rfl, hb1⟩; have hbx1 := hbx.trans (hb1.mono hbx.size); have hbs1 := hbx1.size; have hrow1 := ownsRow_keepsT hrow (KeepsT.of_below hb1); have hlin1 := ownsRow_keepsT hlin (KeepsT.of_below hb1)))
              go_ret2
              exact ⟨⟨_, r2cS (by rw [HE.out]; rfl), (fun h => by rw [HE.out] at h; cases h), fun _ => rfl⟩, hbx1⟩
            · rw [hRv] at CR
              obtain ⟨n1, n2⟩ := RefT.pos (by rw [size_list]; exact hlt) HX.out
              rw [size_list] at n2
              have c0 : ((N : Int) == 0) = false := beq_eq_false_iff_ne.2 (by omega)
              by_cases k9 : K = 9
              · have d9 : ((K : Int) == 9) = true := by simp [k9]
                subst k9
                have p1 : (a : Int) + (N : Int) ≤ (s.size : Int) := by omega
                have p2 : ((a : Int) + (N : Int)).toNat = a + N := by omega
                have p3 : (a : Int) ≤ (a : Int) + (N : Int) := by omega
                have p4 : (0 : Int) ≤ (a : Int) + (N : Int) := by omega
                go_wp2_with (first | (go_at_call 67; refine (CN _).mono ?_; rintro e w' ⟨rfl, rfl⟩) | (go_at_call 68; refine (CR _).mono ?_; rintro e w' ⟨rfl, rfl⟩) | (go_at_call 69; refine (CL _).mono ?_; rintro e w1 ⟨rfl, hb1⟩; have hbx1 := hbx.trans (hb1.mono hbx.size); have hbs1 := hbx1.size; have hrow1 := ownsRow_keepsT hrow (KeepsT.of_below hb1); have hlin1 := ownsRow_keepsT hlin (KeepsT.of_below hb1)) | (at_builtin; refine wpList_append_own _ rfl _ _ 32 rfl w.heap.size 34 i0 (.agg #[.int .i64 0, .string ⟨#[]⟩, .int .i64 0, .int .i64 0, .bool false]) 5 48 Tryz.underlying32 hi hz0 hz1 hz2 rfl (by decide) _ _ _ rfl (hrow1.alloc _) ⟨w1.heap.size, 0, none⟩ 1 1 [.int .i64 9, .string (s.extract a (a + N)), .int .i64 a, .int .i64 ((a : Int) + N), .bool sp] rfl rfl (cell5_new _ _ _ _ _ _ _) (by simp [Value.oneCell']) (by unfold maxLen; omega) (by omega) (by simp; omega) ?_; intro v2 w2 hown2 hgrow2 hn2; clear hn2; have hB2 := (hbx1.alloc hbs1 _).grown hgrow2 (by simp; omega) (fun j e => (hrow1.lt j e).1); have hbs2 := hB2.size; have hlin2 := ownsRow_keepsT (hlin1.alloc _) (KeepsT.grown_row (T := 9) hgrow2 (hrow1.alloc _) (by decide))))
                go_roundg (s.size - (a + N))
                case rel =>
                  refine ⟨tks ++ [⟨9, a, a + N, sp⟩], [], a + N, a + N, false, Lib.hid (HR.out.tok (by rw [size_list]; exact hlt) hw HX.out (rfl)), by go_num, rfl, rfl, by omega, by rw [List.length_append]; simp only [List.length_cons, List.length_nil]; omega, Nat.zero_le _, Nat.le_refl _, ?_, World.ownsRow_nil _ _ _ _, hB2⟩
                  rw [List.length_append, List.map_append, List.map_singleton, ydCells_snoc]
                  exact hown2
                case measure => omega
              · have d9 : ((K : Int) == 9) = false := beq_eq_false_iff_ne.2 (by omega)
                have d8 : ((K : Int) != 8) = true := by rw [bne_iff_ne]; omega
                have d8b : ((K : Int) == 8) = false := beq_eq_false_iff_ne.2 (by omega)
                have p1 : (a : Int) + (N : Int) ≤ (s.size : Int) := by omega
                have p2 : ((a : Int) + (N : Int)).toNat = a + N := by omega
                have p3 : (a : Int) ≤ (a : Int) + (N : Int) := by omega
                have p4 : (0 : Int) ≤ (a : Int) + (N : Int) := by omega
                go_wp2_with (first | (go_at_call 67; refine (CN _).mono ?_; rintro e w' ⟨rfl, rfl⟩) | (go_at_call 68; refine (CR _).mono ?_; rintro e w' ⟨rfl, rfl⟩) | (go_at_call 69; refine (CL _).mono ?_; rintro e w1 ⟨rfl, hb1⟩; have hbx1 := hbx.trans (hb1.mono hbx.size); have hbs1 := hbx1.size; have hrow1 := ownsRow_keepsT hrow (KeepsT.of_below hb1); have hlin1 := ownsRow_keepsT hlin (KeepsT.of_below hb1)) | (at_builtin; refine wpList_append_own _ rfl _ _ 32 rfl w.heap.size 34 i0 (.agg #[.int .i64 0, .string ⟨#[]⟩, .int .i64 0, .int .i64 0, .bool false]) 5 48 Tryz.underlying32 hi hz0 hz1 hz2 rfl (by decide) _ _ _ rfl (hrow1.alloc _) ⟨w1.heap.size, 0, none⟩ 1 1 [.int .i64 K, .string (s.extract a (a + N)), .int .i64 a, .int .i64 ((a : Int) + N), .bool sp] rfl rfl (cell5_new _ _ _ _ _ _ _) (by simp [Value.oneCell']) (by unfold maxLen; omega) (by omega) (by simp; omega) ?_; intro v2 w2 hown2 hgrow2 hn2; clear hn2; have hB2 := (hbx1.alloc hbs1 _).grown hgrow2 (by simp; omega) (fun j e => (hrow1.lt j e).1); have hbs2 := hB2.size; have hlin2 := ownsRow_keepsT (hlin1.alloc _) (KeepsT.grown_row (T := 9) hgrow2 (hrow1.alloc _) (by decide))) | (at_builtin; refine wpList_append_own _ rfl _ _ 104 rfl w.heap.size 9 j0 (.string ⟨#[]⟩) 1 16 Tryz.underlying104 hj hy0 hy1 hy2 rfl (by decide) _ _ _ rfl (hlin2.alloc _) ⟨w2.heap.size, 0, none⟩ 1 1 [.string (s.extract a (a + N))] rfl rfl (cell1_newS _ _ _) (by simp [Value.oneCell']) (by unfold maxLen; omega) (by omega) (by simp; omega) ?_; intro v3 w3 hown3 hgrow3 hn3; clear hn3; have hB3 := (hB2.alloc hbs2 _).grown hgrow3 (by simp; omega) (fun j e => (hlin2.lt j e).1); have hrow3 := ownsRow_keepsT (hown2.alloc _) (KeepsT.grown_row (T := 34) hgrow3 (hlin2.alloc _) (by decide))))
                go_roundg (s.size - (a + N))
                case rel =>
                  refine ⟨tks ++ [⟨K, a, a + N, sp⟩], (ln ++ [s.extract a (a + N)]), a + N, a + N, false, Lib.hid (HR.out.tok (by rw [size_list]; exact hlt) hw HX.out (by rw [lnOf_snoc, extract_list]; exact stOf_snoc _ _ (by first | decide | exact k8) (by first | decide | exact k9))), by go_num, rfl, rfl, by omega, by rw [List.length_append]; simp only [List.length_cons, List.length_nil]; omega, by rw [List.length_append]; simp only [List.length_cons, List.length_nil]; omega, Nat.le_refl _, ?_, by rw [List.length_append, strV_snoc]; exact hown3, hB3⟩
                  rw [List.length_append, List.map_append, List.map_singleton, ydCells_snoc]
                  exact hrow3
                case measure => omega
    · obtain rfl : a = s.size := by omega
      have HA := Lib.hid (HR.out.all)
      have ja : ¬ (s.size : Int) < (s.size : Int) := by omega
      clear HR
      go_wp2
      go_ret2
      have hT : toksY s = tks.map (tokY s) := by unfold toksY; rw [HA.out]
      refine ⟨⟨_, r2cS (by rw [HA.out]; rfl), fun _ => ?_, fun h => absurd (by rw [HA.out]) h⟩, hbx⟩
      rw [hT, List.length_map]
      exact hrow

end Go.Proofs.YtenmapahigbbeaaGreat

namespace Go.Proofs.YtenmapahigbbeaaGreat
open Go.RowKit

/-- A token that ends with the text is the last one, and there is no error. -/
theorem toks_last {L : List UInt8} : ∀ (i e st : Nat) (t : Tk), e ≤ L.length → (toks L e st).1[i]? = some t → t.e = L.length → (toks L e st).1.length = i + 1 ∧ (toks L e st).2 = 0 := by
  intro i
  induction i with
  | zero =>
    intro e st t he h ht
    by_cases h1 : L.length ≤ atOf L e
    · rw [toks_end he h1] at h; simp at h
    · by_cases h2 : (nextAt L e st).2.2 = 0
      · rw [toks_cons (by omega) h2] at h ⊢
        simp only [List.getElem?_cons_zero, Option.some.injEq] at h
        have h3 : toks L (tokAt L e st).e (stAt L e st) = ([], 0) := toks_end (by rw [h, ht]; exact Nat.le_refl _) (by rw [h, ht]; exact atOf_ge _ _)
        rw [h3]; exact ⟨rfl, rfl⟩
      · rw [toks_err (by omega) h2] at h; simp at h
  | succ i ih =>
    intro e st t he h ht
    by_cases h1 : L.length ≤ atOf L e
    · rw [toks_end he h1] at h; simp at h
    · by_cases h2 : (nextAt L e st).2.2 = 0
      · have h4 := nextAt_len (by omega) h2
        rw [toks_cons (by omega) h2] at h ⊢
        simp only [List.getElem?_cons_succ] at h
        obtain ⟨h5, h6⟩ := ih _ _ t (by show atOf L e + (nextAt L e st).2.1 ≤ L.length; exact h4.2) h ht
        exact ⟨by rw [List.length_cons, h5], h6⟩
      · rw [toks_err (by omega) h2] at h; simp at h
theorem toksY_last {s : ByteArray} {i : Nat} {y : Yd} (h : (toksY s)[i]? = some y) (he : y.e = s.size) : (toksY s).length = i + 1 ∧ (toks s.data.toList 0 0).2 = 0 := by
  unfold toksY at h ⊢
  rw [List.getElem?_map] at h
  cases ht : (toks s.data.toList 0 0).1[i]? with
  | none => rw [ht] at h; cases h
  | some t =>
    rw [ht] at h
    simp only [Option.map_some, Option.some.injEq] at h
    subst h
    rw [List.length_map]
    exact toks_last i 0 0 t (Nat.zero_le _) ht he
theorem toksY_in {s : ByteArray} {i : Nat} {y : Yd} (h : (toksY s)[i]? = some y) : y.a < y.e ∧ y.e ≤ s.size ∧ y.tx.size = y.e - y.a := by
  unfold toksY at h
  rw [List.getElem?_map] at h
  cases ht : (toks s.data.toList 0 0).1[i]? with
  | none => rw [ht] at h; cases h
  | some t =>
    rw [ht] at h
    simp only [Option.map_some, Option.some.injEq] at h
    subst h
    have := toks_within (l := s.data.toList) _ 0 0 (Nat.le_refl _) (Nat.zero_le _) t (List.mem_of_getElem? ht)
    rw [size_list] at this
    refine ⟨this.2.1, this.2.2.1, ?_⟩
    show (s.extract t.a t.e).size = t.e - t.a
    rw [ByteArray.size_extract]; omega
theorem toksY_step {s : ByteArray} {x y : Yd} (h : (toksY s)[0]? = some x) (h2 : (toksY s)[1]? = some y) : x.e ≤ y.a := by
  unfold toksY at h h2
  rw [List.getElem?_map] at h h2
  by_cases h1 : s.data.toList.length ≤ atOf s.data.toList 0
  · rw [toks_end (Nat.zero_le _) h1] at h; simp at h
  · by_cases h3 : (nextAt s.data.toList 0 0).2.2 = 0
    · have h4 := nextAt_len (by omega) h3
      rw [toks_cons (by omega) h3] at h h2
      simp only [List.getElem?_cons_zero, List.getElem?_cons_succ, Option.map_some, Option.some.injEq] at h h2
      subst h
      cases ht : (toks s.data.toList (tokAt s.data.toList 0 0).e (stAt s.data.toList 0 0)).1[0]? with
      | none => rw [ht] at h2; cases h2
      | some t =>
        rw [ht] at h2
        simp only [Option.map_some, Option.some.injEq] at h2
        subst h2
        exact (toks_within _ _ _ (Nat.le_refl _) (by show atOf s.data.toList 0 + (nextAt s.data.toList 0 0).2.1 ≤ _; exact h4.2) t (List.mem_of_getElem? ht)).1
    · rw [toks_err (by omega) h3] at h; simp at h
theorem toL_size {a b : ByteArray} (h : (a.toList == b.toList) = true) : a.size = b.size := by
  have := congrArg List.length (eq_of_beq h)
  rw [ByteArray.toList_eq, ByteArray.toList_eq, size_list, size_list] at this
  exact this

/-! ### One -/
theorem oneOf_err {s : ByteArray} (h : (toks s.data.toList 0 0).2 ≠ 0) : oneOf s = (0, false) := by
  unfold oneOf
  unfold firstOf
  match hT : toksY s with
  | [] => rfl
  | y :: r =>
    show (if y.tx.toList == s.toList then (y.k, true) else (0, false)) = _
    rw [if_neg]
    intro he
    have h0 : (toksY s)[0]? = some y := by rw [hT]; rfl
    have h1 := toksY_in h0
    have h2 := toL_size he
    exact h (toksY_last h0 (by omega)).2
theorem oneOf_many {s : ByteArray} (h : (toksY s).length ≠ 1) : oneOf s = (0, false) := by
  unfold oneOf
  unfold firstOf
  match hT : toksY s with
  | [] => rfl
  | y :: r =>
    show (if y.tx.toList == s.toList then (y.k, true) else (0, false)) = _
    rw [if_neg]
    intro he
    have h0 : (toksY s)[0]? = some y := by rw [hT]; rfl
    have h1 := toksY_in h0
    have h2 := toL_size he
    exact h (toksY_last h0 (by omega)).1
theorem oneOf_one {s : ByteArray} {y : Yd} (h : toksY s = [y]) : oneOf s = if y.tx.toList == s.toList then (y.k, true) else (0, false) := by
  unfold oneOf firstOf
  rw [h]; rfl

theorem r2k {a c : Int} {b d : Bool} (h : a = c) (h2 : b = d) : Ending.returned (.tuple #[.int .i64 a, .bool b]) = .returned (.tuple #[.int .i64 c, .bool d]) := by rw [h, h2]

set_option maxRecDepth 100000 in
set_option maxHeartbeats 2000000 in
theorem rOne_any (s : ByteArray) (w : World) (hs : s.size ≤ 1000) :
    Calls Tryz.prog 46 #[.string s] w fun e w' => e = .returned (.tuple #[.int .i64 ((oneOf s).1 : Nat), .bool (oneOf s).2]) ∧ Below w.heap.size w w' := by
  have CT := rTokens_any s w hs
  have X1 := Lib.hid (fun h => oneOf_err (s := s) h)
  have X2 := Lib.hid (fun h => oneOf_many (s := s) h)
  have X3 := Lib.hid (fun y h => oneOf_one (s := s) (y := y) h)
  obtain ⟨r, hr⟩ : ∃ r, (toks s.data.toList 0 0).2 = r := ⟨_, rfl⟩
  obtain ⟨O, hO⟩ : ∃ O, oneOf s = O := ⟨_, rfl⟩
  obtain ⟨T, hT⟩ : ∃ T, toksY s = T := ⟨_, rfl⟩
  rw [hr] at CT X1
  rw [hO] at X1 X2 X3 ⊢
  rw [hT] at CT X2 X3
  clear hr hO hT
  by_cases hr0 : r = 0
  · subst hr0
    match T with
    | [] =>
      have HO := Lib.hid (X2.out (by decide))
      clear X1 X2 X3
      go_enter Tryz.func46, Tryz.ntmps46
      go_wp2_with fail
      refine CT.mono ?_
      rintro e w1 ⟨⟨v, rfl, hrow, -⟩, hb⟩
      obtain ⟨a, c, rfl⟩ := row_none (hrow (by first | trivial | rfl))
      go_wp2
      go_ret2
      exact ⟨r2k (by rw [HO.out]; rfl) (by rw [HO.out]), hb⟩
    | [y] =>
      have HO := Lib.hid (X3.out y rfl)
      clear X1 X2 X3
      cases ht : (y.tx.toList == s.toList)
      · have hn : (!(y.tx.toList == s.toList)) = true := by rw [ht]; rfl
        have HO2 : Hid (O = (0, false)) := Lib.hid (by rw [HO.out, ht]; rfl)
        clear HO ht
        go_enter Tryz.func46, Tryz.ntmps46
        go_wp2_with fail
        refine CT.mono ?_
        rintro e w1 ⟨⟨v, rfl, hrow, -⟩, hb⟩
        obtain ⟨g, cap, rfl, hc⟩ := row_some (n := 0) (hrow (by first | trivial | rfl))
        have c0 := hc 0 _ rfl
        have c1 := hc 1 _ rfl
        clear hc hrow
        go_wp2
        go_ret2
        exact ⟨r2k (by rw [HO2.out]; rfl) (by rw [HO2.out]), hb⟩
      · have hn : (!(y.tx.toList == s.toList)) = false := by rw [ht]; rfl
        have HO2 : Hid (O = (y.k, true)) := Lib.hid (by rw [HO.out, ht]; rfl)
        clear HO ht
        go_enter Tryz.func46, Tryz.ntmps46
        go_wp2_with fail
        refine CT.mono ?_
        rintro e w1 ⟨⟨v, rfl, hrow, -⟩, hb⟩
        obtain ⟨g, cap, rfl, hc⟩ := row_some (n := 0) (hrow (by first | trivial | rfl))
        have c0 := hc 0 _ rfl
        have c1 := hc 1 _ rfl
        clear hc hrow
        go_wp2
        go_ret2
        exact ⟨r2k (by rw [HO2.out]) (by rw [HO2.out]), hb⟩
    | x :: y :: r =>
      have HO := Lib.hid (X2.out (by simp))
      obtain ⟨n, hn⟩ : ∃ n, (x :: y :: r).length = n := ⟨_, rfl⟩
      have hn2 : 2 ≤ n := by rw [← hn]; simp
      obtain ⟨cs, hcs⟩ : ∃ cs, ydCells (x :: y :: r) = cs := ⟨_, rfl⟩
      rw [hn, hcs] at CT
      have hne : ((n : Int) != 1) = true := by rw [bne_iff_ne]; omega
      clear X1 X2 X3 hn hcs
      go_enter Tryz.func46, Tryz.ntmps46
      go_wp2_with fail
      refine CT.mono ?_
      rintro e w1 ⟨⟨v, rfl, hrow, -⟩, hb⟩
      obtain ⟨a, c, rfl⟩ := row_shapeS (hrow (by first | trivial | rfl))
      clear hrow
      go_wp2
      go_ret2
      exact ⟨r2k (by rw [HO.out]; rfl) (by rw [HO.out]), hb⟩
  · have HO := Lib.hid (X1.out hr0)
    have hne : ((r : Int) != 0) = true := by rw [bne_iff_ne]; omega
    clear X1 X2 X3
    go_enter Tryz.func46, Tryz.ntmps46
    go_wp2_with fail
    refine CT.mono ?_
    rintro e w1 ⟨⟨v, rfl, -, hnil⟩, hb⟩
    have hv := hnil hr0
    subst hv
    clear hnil hr0
    go_wp2
    go_ret2
    exact ⟨r2k (by rw [HO.out]; rfl) (by rw [HO.out]), hb⟩

end Go.Proofs.YtenmapahigbbeaaGreat
