/- scan.whiteSpace, word, newline. -/
import Derived.Test.YtaodjipnffgihaaGreatMzB
import Derived.Test.YtaodjipnffgihaaGreatMzC
import Derived.Lib.Hide
import Derived.Outline
namespace Go.Proofs.YtaodjipnffgihaaGreat
open Go.RowKit

theorem ri {k : IntKind} {a b : Int} (h : a = b) : Ending.returned (.int k a) = .returned (.int k b) := by rw [h]

theorem runLen_le (p : UInt8 → Bool) : ∀ l : List UInt8, runLen p l ≤ l.length
  | [] => Nat.le_refl _
  | c :: r => by
    unfold runLen
    have := runLen_le p r
    split <;> simp <;> omega

theorem runLen_yes {p : UInt8 → Bool} {s : ByteArray} {k : Nat} (hk : k < s.size) (h : p s[k] = true) : runLen p (s.data.toList.drop k) = runLen p (s.data.toList.drop (k + 1)) + 1 := by
  rw [data_drop s k hk, runLen, if_pos h]
theorem runLen_no {p : UInt8 → Bool} {s : ByteArray} {k : Nat} (hk : k < s.size) (h : p s[k] = false) : runLen p (s.data.toList.drop k) = 0 := by
  rw [data_drop s k hk, runLen, if_neg (by rw [h]; decide)]
theorem runLen_end {p : UInt8 → Bool} {s : ByteArray} {k : Nat} (hk : s.size ≤ k) : runLen p (s.data.toList.drop k) = 0 := by
  rw [List.drop_eq_nil_of_le (by rw [size_list]; exact hk), runLen]

set_option maxHeartbeats 400000 in
theorem whiteSpace_any (s : ByteArray) (w : World) (hs : s.size ≤ maxLen) :
    Calls Tryz.prog 73 #[.string s] w fun e w' => e = .returned (.int .i64 (runLen isWS s.data.toList : Nat)) ∧ w = w' := by
  unfold maxLen at hs
  go_enter Tryz.func73, Tryz.ntmps73
  go_wp2
  go_loop [3] (fun i => ∃ k : Nat, k ≤ s.size ∧ i = .int .i64 k ∧ runLen isWS s.data.toList = k + runLen isWS (s.data.toList.drop k)) (fun i => s.size - (intOf i).toNat)
  case atStart => exact ⟨0, Nat.zero_le _, rfl, by simp⟩
  case round =>
    obtain ⟨k, hk, rfl, he⟩ := hrel
    have HE := Lib.hid he; clear he
    by_cases hlt : k < s.size
    · go_wp2_with (go_at_call 93; refine (isWhiteSpace_any _ _).mono ?_; rintro e w' ⟨rfl, rfl⟩)
      · have h : isWS s[k] = true := by assumption
        go_round
        case rel => exact ⟨k + 1, by omega, by go_num, by rw [HE.out, runLen_yes hlt h]; omega⟩
        case measure => simp [intOf]; omega
      · have h : isWS s[k] = false := by assumption
        go_ret
        exact ⟨ri (by rw [HE.out, runLen_no hlt h]; rfl), rfl⟩
    · go_wp2
      go_ret
      exact ⟨ri (by rw [HE.out, runLen_end (by omega)]; rfl), rfl⟩

theorem word_no {s : ByteArray} (h0 : 0 < s.size) (h : isLet s[0] = false) : wordLen s.data.toList = 0 := by
  have hd := data_drop s 0 h0
  rw [List.drop_zero] at hd
  rw [hd, wordLen, if_neg (by rw [h]; decide)]
theorem word_yes {s : ByteArray} (h0 : 0 < s.size) (h : isLet s[0] = true) : wordLen s.data.toList = 1 + runLen isAln (s.data.toList.drop 1) := by
  have hd := data_drop s 0 h0
  rw [List.drop_zero] at hd
  rw [hd, wordLen, if_pos h, List.drop_succ_cons, Nat.add_comm]
  rfl

set_option maxHeartbeats 1000000 in
theorem word_any (s : ByteArray) (w : World) (hs : s.size ≤ maxLen) (h0 : 0 < s.size) :
    Calls Tryz.prog 117 #[.string s] w fun e w' => e = .returned (.int .i64 (wordLen s.data.toList : Nat)) ∧ w = w' := by
  unfold maxLen at hs
  cases hl : isLet s[0] with
  | false =>
    have HL := Lib.hid (word_no h0 hl)
    have C := fun w => isLetter_any s[0] w
    rw [hl] at C
    clear hl
    go_enter Tryz.func117, Tryz.ntmps117
    go_wp2_with (go_at_call 123; refine (C _).mono ?_; rintro e w' ⟨rfl, rfl⟩)
    go_ret
    exact ⟨ri (by rw [HL.out]; rfl), rfl⟩
  | true =>
    have HL := Lib.hid (word_yes h0 hl)
    have C := fun w => isLetter_any s[0] w
    rw [hl] at C
    clear hl
    go_enter Tryz.func117, Tryz.ntmps117
    go_wp2_with (go_at_call 123; refine (C _).mono ?_; rintro e w' ⟨rfl, rfl⟩)
    clear C
    go_loop [3] (fun i => ∃ k : Nat, 1 ≤ k ∧ k ≤ s.size ∧ i = .int .i64 k ∧ wordLen s.data.toList = k + runLen isAln (s.data.toList.drop k)) (fun i => s.size - (intOf i).toNat)
    case atStart => exact ⟨1, Nat.le_refl _, h0, rfl, HL.out⟩
    case round =>
      obtain ⟨k, hk1, hk, rfl, he⟩ := hrel
      have HE := Lib.hid he; clear he HL
      by_cases hlt : k < s.size
      · go_wp2_with (first | (go_at_call 123; refine (isLetter_any _ _).mono ?_; rintro e w' ⟨rfl, rfl⟩) | (go_at_call 124; refine (isDigit_any _ _).mono ?_; rintro e w' ⟨rfl, rfl⟩))
        · have h : isLet s[k] = true := by assumption
          go_round
          case rel => exact ⟨k + 1, by omega, by omega, by go_num, by rw [HE.out, runLen_yes hlt (by unfold isAln; rw [h]; rfl)]; omega⟩
          case measure => simp [intOf]; omega
        · have h : isDig s[k] = true := by assumption
          go_round
          case rel => exact ⟨k + 1, by omega, by omega, by go_num, by rw [HE.out, runLen_yes hlt (by unfold isAln; rw [h, Bool.or_true])]; omega⟩
          case measure => simp [intOf]; omega
        · have h : isDig s[k] = false := by assumption
          have h2 : isLet s[k] = false := by simpa using (show ¬ isLet s[k] = true by assumption)
          go_ret
          exact ⟨ri (by rw [HE.out, runLen_no hlt (by unfold isAln; rw [h, h2]; rfl)]; rfl), rfl⟩
      · go_wp2
        go_ret
        exact ⟨ri (by rw [HE.out, runLen_end (by omega)]; rfl), rfl⟩

set_option maxHeartbeats 400000 in
theorem newline_any (s : ByteArray) (w : World) (hs : s.size ≤ maxLen) (h0 : 0 < s.size) :
    Calls Tryz.prog 121 #[.string s] w fun e w' => e = .returned (.int .i64 (nlLen s.data.toList : Nat)) ∧ w = w' := by
  unfold maxLen at hs
  have hd : Hid (s.data.toList = s[0] :: s.data.toList.drop 1) := Lib.hid (by have := data_drop s 0 h0; rw [List.drop_zero] at this; exact this)
  go_enter Tryz.func121, Tryz.ntmps121
  go_wp2
  · have h : ((s[0].toNat : Int) == 10) = true := by assumption
    go_ret
    refine ⟨ri ?_, rfl⟩
    rw [hd.out, nlLen, b_eq 10 h]; rfl
  · have h : ((s[0].toNat : Int) == 10) = false := by assumption
    go_ret
    refine ⟨ri ?_, rfl⟩
    rw [hd.out, nlLen, b_ne 10 h]; rfl

/-! ### Punctuators -/

theorem punct_yes {s : ByteArray} (l : List UInt8) (h : (s.toList == l) = true) (hl : puncts.contains l = true) : isPunctB s.data.toList = true := by
  have h := eq_of_beq h
  rw [ByteArray.toList_eq] at h
  rw [h]; exact hl
theorem punct_no {s : ByteArray} (h : ∀ x ∈ puncts, (s.toList == x) = false) : isPunctB s.data.toList = false := by
  unfold isPunctB
  cases hc : puncts.contains s.data.toList with
  | false => rfl
  | true =>
    have := h _ (List.contains_iff_mem.1 hc)
    rw [ByteArray.toList_eq, beq_self_eq_true] at this
    cases this

set_option maxRecDepth 100000 in
set_option maxHeartbeats 4000000 in
theorem isPunct_any (s : ByteArray) (w : World) :
    Calls Tryz.prog 129 #[.string s] w fun e w' => e = .returned (.bool (isPunctB s.data.toList)) ∧ w = w' := by
  go_enter Tryz.func129, Tryz.ntmps129
  go_wp2
  all_goals (go_ret; refine ⟨rb ?_, rfl⟩)
  all_goals first
    | exact (bt _ (by assumption) (by assumption)).elim
    | exact (punct_yes _ (by assumption) (by decide)).symm
    | (refine (punct_no ?_).symm
       unfold puncts
       repeat (refine List.forall_mem_cons.2 ⟨by assumption, ?_⟩)
       exact fun _ h => absurd h List.not_mem_nil)

theorem isPunct_len {l : List UInt8} (h : isPunctB l = true) : 0 < l.length ∧ l.length ≤ 4 := by
  have h2 : ∀ x ∈ puncts, 0 < x.length ∧ x.length ≤ 4 := by decide
  exact h2 l (List.contains_iff_mem.1 h)

theorem punctDown_at (s : ByteArray) (j : Nat) : punctDown s.data.toList (j + 1) = if isPunctB (s.data.toList.take (j + 1)) = true then j + 1 else punctDown s.data.toList j := rfl

set_option maxHeartbeats 1000000 in
theorem punct_any (s : ByteArray) (w : World) (hs : s.size ≤ maxLen) :
    Calls Tryz.prog 120 #[.string s] w fun e w' => e = .returned (.int .i64 (punctLen s.data.toList : Nat)) ∧ w = w' := by
  unfold maxLen at hs
  have HL : Hid (punctLen s.data.toList = punctDown s.data.toList (min s.size 4)) := Lib.hid rfl
  by_cases h4 : 4 < s.size
  · go_enter Tryz.func120, Tryz.ntmps120
    go_wp2
    go_loop [3] (fun i => ∃ k : Nat, k ≤ 4 ∧ k ≤ s.size ∧ i = .int .i64 k ∧ punctLen s.data.toList = punctDown s.data.toList k) (fun i => (intOf i).toNat)
    case atStart => exact ⟨4, by omega, by omega, rfl, by rw [HL.out, Nat.min_eq_right (by omega)]⟩
    case round =>
      obtain ⟨k, hk4, hks, rfl, he⟩ := hrel
      have HE := Lib.hid he; clear he HL
      by_cases hk0 : 0 < k
      · obtain ⟨j, rfl⟩ : ∃ j, k = j + 1 := ⟨k - 1, by omega⟩
        have HD := Lib.hid (punctDown_at s j)
        go_wp2_with (go_at_call 129; refine (isPunct_any _ _).mono ?_; rintro e w' ⟨rfl, rfl⟩)
        · have hb : isPunctB (s.data.toList.take (j + 1)) = false := by simpa using (show (!isPunctB (s.data.toList.take (j + 1))) = true by assumption)
          go_round
          case rel => exact ⟨j, by omega, by omega, by go_num, by rw [HE.out, HD.out, if_neg (by rw [hb]; decide)]⟩
          case measure => simp [intOf]
        · have hb : isPunctB (s.data.toList.take (j + 1)) = true := by simpa using (show (!isPunctB (s.data.toList.take (j + 1))) = false by assumption)
          go_ret
          exact ⟨ri (by rw [HE.out, HD.out, if_pos hb]; rfl), rfl⟩
      · obtain rfl : k = 0 := by omega
        go_wp2
        go_ret
        exact ⟨ri (by rw [HE.out]; rfl), rfl⟩
  · go_enter Tryz.func120, Tryz.ntmps120
    go_wp2
    go_loop [3] (fun i => ∃ k : Nat, k ≤ 4 ∧ k ≤ s.size ∧ i = .int .i64 k ∧ punctLen s.data.toList = punctDown s.data.toList k) (fun i => (intOf i).toNat)
    case atStart => exact ⟨s.size, by omega, by omega, rfl, by rw [HL.out, Nat.min_eq_left (by omega)]⟩
    case round =>
      obtain ⟨k, hk4, hks, rfl, he⟩ := hrel
      have HE := Lib.hid he; clear he HL
      by_cases hk0 : 0 < k
      · obtain ⟨j, rfl⟩ : ∃ j, k = j + 1 := ⟨k - 1, by omega⟩
        have HD := Lib.hid (punctDown_at s j)
        go_wp2_with (go_at_call 129; refine (isPunct_any _ _).mono ?_; rintro e w' ⟨rfl, rfl⟩)
        · have hb : isPunctB (s.data.toList.take (j + 1)) = false := by simpa using (show (!isPunctB (s.data.toList.take (j + 1))) = true by assumption)
          go_round
          case rel => exact ⟨j, by omega, by omega, by go_num, by rw [HE.out, HD.out, if_neg (by rw [hb]; decide)]⟩
          case measure => simp [intOf]
        · have hb : isPunctB (s.data.toList.take (j + 1)) = true := by simpa using (show (!isPunctB (s.data.toList.take (j + 1))) = false by assumption)
          go_ret
          exact ⟨ri (by rw [HE.out, HD.out, if_pos hb]; rfl), rfl⟩
      · obtain rfl : k = 0 := by omega
        go_wp2
        go_ret
        exact ⟨ri (by rw [HE.out]; rfl), rfl⟩

end Go.Proofs.YtaodjipnffgihaaGreat
