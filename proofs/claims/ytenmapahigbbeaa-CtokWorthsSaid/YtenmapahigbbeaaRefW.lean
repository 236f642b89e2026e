/- The document's answer: letters, words, numbers, pieces. -/
import Derived.Test.YtenmapahigbbeaaRun
import Derived.Test.YtenmapahigbbeaaByteR
import Derived.Test.YtenmapahigbbeaaNum
import Derived.IntWalk
import Derived.Test.YtenmapahigbbeaaRefP
namespace Go.Proofs.Ytenmapahigbbeaa
open Go.RowKit

/-! ### Words -/
def wbAt (L : List UInt8) (k : Nat) : Bool := if k = 0 then wordB L else (L.drop k).all isAln
theorem all_yes {s : ByteArray} {k : Nat} {p : UInt8 → Bool} (hk : k < s.size) (h : p s[k] = true) : (s.data.toList.drop k).all p = (s.data.toList.drop (k + 1)).all p := by
  rw [data_drop s k hk, List.all_cons, h, Bool.true_and]
theorem all_no {s : ByteArray} {k : Nat} {p : UInt8 → Bool} (hk : k < s.size) (h : p s[k] = false) : (s.data.toList.drop k).all p = false := by
  rw [data_drop s k hk, List.all_cons, h, Bool.false_and]
theorem wordB_cons {s : ByteArray} (h : 0 < s.size) : wordB s.data.toList = (isLet s[0] && (s.data.toList.drop 1).all isAln) := by
  have hd := data_drop s 0 h
  rw [List.drop_zero] at hd
  rw [hd, wordB]; rfl
theorem wb_let {s : ByteArray} {k : Nat} (hk : k < s.size) (h : isLet s[k] = true) : wbAt s.data.toList k = wbAt s.data.toList (k + 1) := by
  unfold wbAt
  rw [if_neg (show ¬ k + 1 = 0 by omega)]
  by_cases h0 : k = 0
  · subst h0
    rw [if_pos rfl, wordB_cons hk, h, Bool.true_and]
  · rw [if_neg h0, all_yes hk (by unfold isAln; rw [h]; rfl)]
theorem wb_dig {s : ByteArray} {k : Nat} (hk : k < s.size) (h0 : k ≠ 0) (h : isDig s[k] = true) : wbAt s.data.toList k = wbAt s.data.toList (k + 1) := by
  unfold wbAt
  rw [if_neg (show ¬ k + 1 = 0 by omega), if_neg h0, all_yes hk (by unfold isAln; rw [h, Bool.or_true])]
theorem wb_no {s : ByteArray} {k : Nat} (hk : k < s.size) (h : isLet s[k] = false) (h2 : k = 0 ∨ isDig s[k] = false) : wbAt s.data.toList k = false := by
  unfold wbAt
  by_cases h0 : k = 0
  · subst h0
    rw [if_pos rfl, wordB_cons hk, h, Bool.false_and]
  · rw [if_neg h0, all_no hk]
    unfold isAln
    rw [h, h2.resolve_left h0]; rfl
theorem wb_end {s : ByteArray} (h : 0 < s.size) : wbAt s.data.toList s.size = true := by
  unfold wbAt
  rw [if_neg (by omega), List.drop_eq_nil_of_le (by rw [size_list]; exact Nat.le_refl _)]; rfl
theorem wb_nil {s : ByteArray} (h : s.size = 0) : wbAt s.data.toList s.size = false := by
  unfold wbAt
  rw [if_pos h, List.length_eq_zero_iff.1 ((size_list s).trans h)]; rfl

set_option maxHeartbeats 1000000 in
theorem rIsWord_any (s : ByteArray) (w : World) (hs : s.size ≤ maxLen) :
    Calls Try.prog 77 #[.string s] w fun e w' => e = .returned (.bool (wordB s.data.toList)) ∧ w = w' := by
  unfold maxLen at hs
  go_enter Try.func77, Try.ntmps77
  go_wp2
  go_loop [3] (fun i => ∃ k : Nat, k ≤ s.size ∧ i = .int .i64 k ∧ wordB s.data.toList = wbAt s.data.toList k) (fun i => s.size - (intOf i).toNat)
  case atStart => exact ⟨0, Nat.zero_le _, rfl, rfl⟩
  case round =>
    obtain ⟨k, hk, rfl, he⟩ := hrel
    have HE := Lib.hid he; clear he
    by_cases hlt : k < s.size
    · have CL := fun w => rletter_any s[k] w
      have CD := fun w => rdigit_any s[k] w
      cases hl : isLet s[k] with
      | true =>
        have HN := Lib.hid (HE.out.trans (wb_let hlt hl))
        rw [hl] at CL
        clear hl CD HE
        go_wp2_with (go_at_call 85; refine (CL _).mono ?_; rintro e w' ⟨rfl, rfl⟩)
        go_round
        case rel => exact ⟨k + 1, by omega, by go_num, HN.out⟩
        case measure => simp [intOf]; omega
      | false =>
        rw [hl] at CL
        by_cases h0 : k = 0
        · have HN := Lib.hid (HE.out.trans (wb_no hlt hl (.inl h0)))
          have h00 : ((k : Int) == 0) = true := by simp [h0]
          clear hl CD HE h0
          go_wp2_with (go_at_call 85; refine (CL _).mono ?_; rintro e w' ⟨rfl, rfl⟩)
          go_ret
          exact ⟨rb (by rw [HN.out]), rfl⟩
        · have h00 : ((k : Int) == 0) = false := by simp; omega
          cases hd : isDig s[k] with
          | true =>
            have HN := Lib.hid (HE.out.trans (wb_dig hlt h0 hd))
            rw [hd] at CD
            clear hl hd HE h0
            go_wp2_with (first | (go_at_call 85; refine (CL _).mono ?_; rintro e w' ⟨rfl, rfl⟩) | (go_at_call 86; refine (CD _).mono ?_; rintro e w' ⟨rfl, rfl⟩))
            go_round
            case rel => exact ⟨k + 1, by omega, by go_num, HN.out⟩
            case measure => simp [intOf]; omega
          | false =>
            have HN := Lib.hid (HE.out.trans (wb_no hlt hl (.inr hd)))
            rw [hd] at CD
            clear hl hd HE h0
            go_wp2_with (first | (go_at_call 85; refine (CL _).mono ?_; rintro e w' ⟨rfl, rfl⟩) | (go_at_call 86; refine (CD _).mono ?_; rintro e w' ⟨rfl, rfl⟩))
            go_ret
            exact ⟨rb (by rw [HN.out]), rfl⟩
    · obtain rfl : k = s.size := by omega
      by_cases hz : 0 < s.size
      · have HN := Lib.hid (HE.out.trans (wb_end hz))
        have hz2 : (0 : Int) < (s.size : Int) := by omega
        go_wp2
        go_ret
        exact ⟨rb (by rw [HN.out]), rfl⟩
      · have HN := Lib.hid (HE.out.trans (wb_nil (s := s) (by omega)))
        go_wp2
        go_ret
        exact ⟨rb (by rw [HN.out]), rfl⟩

/-! ### Numbers -/
theorem take_snoc {s : ByteArray} {j : Nat} (h : s.size = j + 1) : s.data.toList = s.data.toList.take j ++ [s[j]] := by
  conv => lhs; rw [← List.take_append_drop j s.data.toList]
  rw [data_drop s j (by omega), List.drop_eq_nil_of_le (by rw [size_list]; omega)]
theorem take_pair {s : ByteArray} {j : Nat} (h : s.size = j + 2) : s.data.toList = s.data.toList.take j ++ [s[j], s[j + 1]] := by
  conv => lhs; rw [← List.take_append_drop j s.data.toList]
  rw [data_drop s j (by omega), data_drop s (j + 1) (by omega), List.drop_eq_nil_of_le (by rw [size_list]; omega)]
theorem rn_one {s : ByteArray} (h : s.size = 1) : numF s.data.toList = isDig s[0] := by
  have := take_snoc (s := s) (j := 0) h
  rw [this, List.take_zero, List.nil_append, numF_one]
theorem rn_dot {s : ByteArray} (h : s.size = 2) (h0 : s[0] = 46) : numF s.data.toList = isDig s[1] := by
  have := take_pair (s := s) (j := 0) h
  rw [this, List.take_zero, List.nil_append, h0, numF_dot]
theorem rn_two {s : ByteArray} (h : s.size = 2) (h0 : s[0] ≠ 46) (h1 : isSgn s[1] = true) : numF s.data.toList = false := by
  have := take_pair (s := s) (j := 0) h
  rw [this, List.take_zero, List.nil_append, numF_two h0 h1]
theorem rn_pair {s : ByteArray} {j : Nat} (h : s.size = j + 3) (h1 : isSgn s[j + 2] = true) : numF s.data.toList = (isExp s[j + 1] && numF (s.data.toList.take (j + 1))) := by
  conv => lhs; rw [take_pair (s := s) (j := j + 1) h]
  refine numF_exp ?_ h1
  intro e
  have := congrArg List.length e
  rw [List.length_take, size_list, List.length_nil] at this
  omega
theorem rn_snoc {s : ByteArray} {j : Nat} (h : s.size = j + 2) (hx : j = 0 → s[0] ≠ 46) (h1 : isSgn s[j + 1] = false) : numF s.data.toList = (isNum s[j + 1] && numF (s.data.toList.take (j + 1))) := by
  conv => lhs; rw [take_snoc (s := s) (j := j + 1) h]
  refine numF_snoc ?_ ?_ h1
  · intro e
    have := congrArg List.length e
    rw [List.length_take, size_list, List.length_nil] at this
    omega
  · intro e
    have h2 := congrArg List.length e
    rw [List.length_take, size_list, List.length_cons, List.length_nil] at h2
    obtain rfl : j = 0 := by omega
    refine hx rfl ?_
    have h3 := data_drop s 0 (by omega)
    rw [List.drop_zero] at h3
    rw [h3] at e
    simpa using e

set_option maxHeartbeats 2000000 in
theorem rIsNumber_any : ∀ (m : Nat) (s : ByteArray), s.size ≤ m → ∀ (w : World), s.size ≤ maxLen →
    Calls Try.prog 78 #[.string s] w fun e w' => e = .returned (.bool (numF s.data.toList)) ∧ w = w' := by
  intro m
  induction m with
  | zero =>
    intro s hm w hs
    have h0 : s.size = 0 := by omega
    have HN : Hid (numF s.data.toList = false) := Lib.hid (by rw [List.length_eq_zero_iff.1 ((size_list s).trans h0)]; rfl)
    have h00 : ((s.size : Int) == 0) = true := by simp [h0]
    clear hm h0
    go_enter Try.func78, Try.ntmps78
    go_wp2_with fail
    go_ret
    exact ⟨rb (by rw [HN.out]), rfl⟩
  | succ m ih =>
    intro s hm w hs
    by_cases h0 : s.size = 0
    · exact ih s (by omega) w hs
    · have h00 : ((s.size : Int) == 0) = false := beq_eq_false_iff_ne.2 (by omega)
      by_cases h1 : s.size = 1
      · have HN := Lib.hid (rn_one h1)
        have h10 : ((s.size : Int) == 1) = true := by simp [h1]
        clear ih
        go_enter Try.func78, Try.ntmps78
        go_wp2_with (go_at_call 86; refine (rdigit_any _ _).mono ?_; rintro e w' ⟨rfl, rfl⟩)
        go_ret
        exact ⟨rb (by rw [HN.out]), rfl⟩
      · have h10 : ((s.size : Int) == 1) = false := beq_eq_false_iff_ne.2 (by omega)
        by_cases h2 : s.size = 2
        · have h20 : ((s.size : Int) == 2) = true := by simp [h2]
          have j0 : (0 : Int) < (s.size : Int) := by omega
          have j1 : (1 : Int) < (s.size : Int) := by omega
          by_cases hp : s[0] = 46
          · have HN := Lib.hid (rn_dot h2 hp)
            have hp0 : ((s[0].toNat : Int) == 46) = true := by rw [hp]; rfl
            clear ih hp
            go_enter Try.func78, Try.ntmps78
            go_wp2_with (go_at_call 86; refine (rdigit_any _ _).mono ?_; rintro e w' ⟨rfl, rfl⟩)
            go_ret
            exact ⟨rb (by rw [HN.out]), rfl⟩
          · have hp0 : ((s[0].toNat : Int) == 46) = false := beq_eq_false_iff_ne.2 (fun h => hp (UInt8.toNat_inj.1 (by simp; omega)))
            have CS := fun w => rsign_any s[1] w
            cases hsg : isSgn s[1] with
            | true =>
              have HN := Lib.hid (rn_two h2 hp hsg)
              rw [hsg] at CS
              clear ih hp hsg
              go_enter Try.func78, Try.ntmps78
              go_wp2_with (go_at_call 87; refine (CS _).mono ?_; rintro e w' ⟨rfl, rfl⟩)
              go_ret
              exact ⟨rb (by rw [HN.out]), rfl⟩
            | false =>
              have HN := Lib.hid (rn_snoc (j := 0) h2 (fun _ => hp) hsg)
              have IH := fun w => ih (s.extract 0 1) (by rw [ByteArray.size_extract]; omega) w (by rw [ByteArray.size_extract]; unfold maxLen; omega)
              rw [show (s.extract 0 1).data.toList = s.data.toList.take 1 from extract_list s 0 1] at IH
              rw [hsg] at CS
              clear ih hp hsg
              go_enter Try.func78, Try.ntmps78
              go_wp2_with (first | (go_at_call 87; refine (CS _).mono ?_; rintro e w' ⟨rfl, rfl⟩) | (go_at_call 86; refine (rdigit_any _ _).mono ?_; rintro e w' ⟨rfl, rfl⟩) | (go_at_call 85; refine (rletter_any _ _).mono ?_; rintro e w' ⟨rfl, rfl⟩) | (go_at_call 78; refine (IH _).mono ?_; rintro e w' ⟨rfl, rfl⟩))
              all_goals
                go_ret
                refine ⟨rb ?_, rfl⟩
                rw [HN.out]
                first
                  | (have hq : isDig s[0 + 1] = true := by assumption
                     rw [nD hq]; rfl)
                  | (have hq : isLet s[0 + 1] = true := by assumption
                     rw [nL hq]; rfl)
                  | (have hq : ((s[0 + 1].toNat : Int) == 46) = true := by first | assumption | exact beq_iff_eq.2 (by assumption)
                     rw [nP hq]; rfl)
                  | (have hq : isDig s[0 + 1] = false := by first | assumption | exact Bool.eq_false_iff.2 (by assumption)
                     have hq2 : isLet s[0 + 1] = false := by first | assumption | exact Bool.eq_false_iff.2 (by assumption)
                     have hq3 : ((s[0 + 1].toNat : Int) == 46) = false := by first | assumption | exact beq_eq_false_iff_ne.2 (by assumption)
                     rw [nN hq hq2 hq3]; rfl)
        · obtain ⟨j, hj⟩ : ∃ j, s.size = j + 3 := ⟨s.size - 3, by omega⟩
          have h20 : ((s.size : Int) == 2) = false := beq_eq_false_iff_ne.2 (by omega)
          have CS := fun w => rsign_any s[j + 2] w
          cases hsg : isSgn s[j + 2] with
          | true =>
            have HN := Lib.hid (rn_pair hj hsg)
            rw [hsg] at CS
            have IH := fun w => ih (s.extract 0 (j + 1)) (by rw [ByteArray.size_extract]; omega) w (by rw [ByteArray.size_extract]; omega)
            rw [show (s.extract 0 (j + 1)).data.toList = s.data.toList.take (j + 1) from extract_list s 0 (j + 1)] at IH
            unfold maxLen at hs
            have v1 : wrap64 ((j : Int) + 3 - 1) = (j : Int) + 2 := by rw [show (j : Int) + 3 - 1 = (j : Int) + 2 by omega]; exact IntWalk.wrap64_in _ (by omega)
            have v2 : wrap64 ((j : Int) + 3 - 2) = (j : Int) + 1 := by rw [show (j : Int) + 3 - 2 = (j : Int) + 1 by omega]; exact IntWalk.wrap64_in _ (by omega)
            have v3 : ((j : Int) + 2).toNat = j + 2 := by omega
            have v4 : ((j : Int) + 1).toNat = j + 1 := by omega
            have v5 : ((j : Int) + 3 == 2) = false := beq_eq_false_iff_ne.2 (by omega)
            have v6 : ((j : Int) + 3 == 1) = false := beq_eq_false_iff_ne.2 (by omega)
            have v7 : ((j : Int) + 3 == 0) = false := beq_eq_false_iff_ne.2 (by omega)
            have v8 : (2 : Int) < (j : Int) + 3 := by omega
            have CE := fun w => rexpo_any s[j + 1] w
            cases he : isExp s[j + 1] with
            | false =>
              rw [he] at CE
              have HN2 : Hid (numF s.data.toList = false) := Lib.hid (by rw [HN.out, he]; rfl)
              clear ih hsg h0 h1 h2 hm HN he h00 h10 h20 hs IH
              go_enter Try.func78, Try.ntmps78
              go_wp2_with (first | (go_at_call 87; refine (CS _).mono ?_; rintro e w' ⟨rfl, rfl⟩) | (go_at_call 88; refine (CE _).mono ?_; rintro e w' ⟨rfl, rfl⟩))
              go_ret
              exact ⟨rb (by rw [HN2.out]), rfl⟩
            | true =>
              rw [he] at CE
              have HN2 : Hid (numF s.data.toList = numF (s.data.toList.take (j + 1))) := Lib.hid (by rw [HN.out, he]; rfl)
              clear ih hsg h0 h1 h2 hm HN he h00 h10 h20 hs
              go_enter Try.func78, Try.ntmps78
              go_wp2_with (first | (go_at_call 87; refine (CS _).mono ?_; rintro e w' ⟨rfl, rfl⟩) | (go_at_call 88; refine (CE _).mono ?_; rintro e w' ⟨rfl, rfl⟩) | (go_at_call 78; refine (IH _).mono ?_; rintro e w' ⟨rfl, rfl⟩))
              go_ret
              exact ⟨rb (by rw [HN2.out]), rfl⟩
          | false =>
            have HN := Lib.hid (rn_snoc (s := s) (j := j + 1) hj (fun h => by omega) hsg)
            rw [hsg] at CS
            have IH := fun w => ih (s.extract 0 (j + 2)) (by rw [ByteArray.size_extract]; omega) w (by rw [ByteArray.size_extract]; omega)
            rw [show (s.extract 0 (j + 2)).data.toList = s.data.toList.take (j + 2) from extract_list s 0 (j + 2)] at IH
            unfold maxLen at hs
            have v1 : wrap64 ((j : Int) + 3 - 1) = (j : Int) + 2 := by rw [show (j : Int) + 3 - 1 = (j : Int) + 2 by omega]; exact IntWalk.wrap64_in _ (by omega)
            have v3 : ((j : Int) + 2).toNat = j + 2 := by omega
            have v5 : ((j : Int) + 3 == 2) = false := beq_eq_false_iff_ne.2 (by omega)
            have v6 : ((j : Int) + 3 == 1) = false := beq_eq_false_iff_ne.2 (by omega)
            have v7 : ((j : Int) + 3 == 0) = false := beq_eq_false_iff_ne.2 (by omega)
            clear ih hsg h0 h1 h2 hm h00 h10 h20 hs
            go_enter Try.func78, Try.ntmps78
            go_wp2_with (first | (go_at_call 87; refine (CS _).mono ?_; rintro e w' ⟨rfl, rfl⟩) | (go_at_call 86; refine (rdigit_any _ _).mono ?_; rintro e w' ⟨rfl, rfl⟩) | (go_at_call 85; refine (rletter_any _ _).mono ?_; rintro e w' ⟨rfl, rfl⟩) | (go_at_call 78; refine (IH _).mono ?_; rintro e w' ⟨rfl, rfl⟩))
            all_goals
              go_ret
              refine ⟨rb ?_, rfl⟩
              rw [HN.out]
              first
                | (have hq : isDig s[j + 1 + 1] = true := by assumption
                   rw [nD hq]; rfl)
                | (have hq : isLet s[j + 1 + 1] = true := by assumption
                   rw [nL hq]; rfl)
                | (have hq : ((s[j + 1 + 1].toNat : Int) == 46) = true := by first | assumption | exact beq_iff_eq.2 (by assumption)
                   rw [nP hq]; rfl)
                | (have hq : isDig s[j + 1 + 1] = false := by first | assumption | exact Bool.eq_false_iff.2 (by assumption)
                   have hq2 : isLet s[j + 1 + 1] = false := by first | assumption | exact Bool.eq_false_iff.2 (by assumption)
                   have hq3 : ((s[j + 1 + 1].toNat : Int) == 46) = false := by first | assumption | exact beq_eq_false_iff_ne.2 (by assumption)
                   rw [nN hq hq2 hq3]; rfl)

/-! ### Pieces -/
theorem pc_end {q : UInt8} {s : ByteArray} {k : Nat} (h : s.size ≤ k) : piecesB q (s.data.toList.drop k) = true := by
  rw [List.drop_eq_nil_of_le (by rw [size_list]; exact h), piecesB]
theorem pc_quote {q : UInt8} {s : ByteArray} {k : Nat} (hk : k < s.size) (h : s[k] = q ∨ s[k] = 10) : piecesB q (s.data.toList.drop k) = false := by
  rw [data_drop s k hk, piecesB_eq, if_pos]
  rcases h with h | h <;> simp [h]
theorem pc_plain {q : UInt8} {s : ByteArray} {k : Nat} (hk : k < s.size) (h : s[k] ≠ q) (h1 : s[k] ≠ 10) (h2 : s[k] ≠ 92) : piecesB q (s.data.toList.drop k) = piecesB q (s.data.toList.drop (k + 1)) := by
  rw [data_drop s k hk, piecesB_eq, if_neg (by simp [h, h1]), if_neg (by simp [h2])]
theorem pc_last {q : UInt8} {s : ByteArray} {k : Nat} (hk : k + 1 = s.size) (h2 : s[k] = 92) : piecesB q (s.data.toList.drop k) = false := by
  rw [data_drop s k (by omega), piecesB_eq, List.drop_eq_nil_of_le (by rw [size_list]; omega)]
  simp [h2]
theorem pc_bad {q : UInt8} {s : ByteArray} {k : Nat} (hk : k + 1 < s.size) (h2 : s[k] = 92) (h3 : s[k + 1] = 10) : piecesB q (s.data.toList.drop k) = false := by
  rw [data_drop s k (by omega), data_drop s (k + 1) hk, piecesB_eq]
  simp [h2, h3]
theorem pc_pair {q : UInt8} {s : ByteArray} {k : Nat} (hk : k + 1 < s.size) (h : s[k] ≠ q) (h2 : s[k] = 92) (h3 : s[k + 1] ≠ 10) : piecesB q (s.data.toList.drop k) = piecesB q (s.data.toList.drop (k + 2)) := by
  rw [data_drop s k (by omega), data_drop s (k + 1) hk, piecesB_eq, if_neg (by rw [h2] at h ⊢; simp [h]), if_pos (by simp [h2])]
  simp only
  rw [if_neg (by simp [h3])]
theorem u8_int {a b : UInt8} : a = b ↔ (a.toNat : Int) = (b.toNat : Int) := by
  rw [← UInt8.toNat_inj]; omega

set_option maxHeartbeats 2000000 in
theorem rpieces_any (s : ByteArray) (q : UInt8) (w : World) (hs : s.size ≤ maxLen) :
    Calls Try.prog 89 #[.string s, .int .u8 q.toNat] w fun e w' => e = .returned (.bool (piecesB q s.data.toList)) ∧ w = w' := by
  unfold maxLen at hs
  go_enter Try.func89, Try.ntmps89
  go_wp2
  go_loop [5] (fun i => ∃ k : Nat, k ≤ s.size ∧ i = .int .i64 k ∧ piecesB q s.data.toList = piecesB q (s.data.toList.drop k)) (fun i => s.size - (intOf i).toNat)
  case atStart => exact ⟨0, Nat.zero_le _, rfl, rfl⟩
  case round =>
    obtain ⟨k, hk, rfl, he⟩ := hrel
    have HE := Lib.hid he; clear he
    by_cases hlt : k < s.size
    · by_cases h1 : s[k] = q
      · have HN := Lib.hid (HE.out.trans (pc_quote hlt (.inl h1)))
        have b1 : ((s[k].toNat : Int) == (q.toNat : Int)) = true := by rw [h1]; simp
        clear h1 HE
        go_wp2
        go_ret
        exact ⟨rb (by rw [HN.out]), rfl⟩
      · have b1 : ((s[k].toNat : Int) == (q.toNat : Int)) = false := beq_eq_false_iff_ne.2 (fun h => h1 (u8_int.2 h))
        by_cases h2 : s[k] = 10
        · have HN := Lib.hid (HE.out.trans (pc_quote hlt (.inr h2)))
          have b2 : ((s[k].toNat : Int) == 10) = true := by rw [h2]; rfl
          clear h1 h2 HE
          go_wp2
          go_ret
          exact ⟨rb (by rw [HN.out]), rfl⟩
        · have b2 : ((s[k].toNat : Int) == 10) = false := beq_eq_false_iff_ne.2 (fun h => h2 (u8_int.2 h))
          by_cases h3 : s[k] = 92
          · have b3 : ((s[k].toNat : Int) == 92) = true := by rw [h3]; rfl
            by_cases h4 : k + 1 = s.size
            · have HN := Lib.hid (HE.out.trans (pc_last h4 h3))
              have b4 : ((k : Int) + 1 == (s.size : Int)) = true := by simp; omega
              clear h1 h2 h3 HE h4
              go_wp2
              go_ret
              exact ⟨rb (by rw [HN.out]), rfl⟩
            · have b4 : ((k : Int) + 1 == (s.size : Int)) = false := beq_eq_false_iff_ne.2 (by omega)
              have h5 : k + 1 < s.size := by omega
              have b5 : (k : Int) + 1 < (s.size : Int) := by omega
              have b6 : (0 : Int) ≤ (k : Int) + 1 := by omega
              have b7 : ((k : Int) + 1).toNat = k + 1 := by omega
              by_cases h6 : s[k + 1] = 10
              · have HN := Lib.hid (HE.out.trans (pc_bad h5 h3 h6))
                have b8 : ((s[k + 1].toNat : Int) == 10) = true := by rw [h6]; rfl
                clear h1 h2 h3 h4 h6 HE
                go_wp2
                go_ret
                exact ⟨rb (by rw [HN.out]), rfl⟩
              · have HN := Lib.hid (HE.out.trans (pc_pair h5 h1 h3 h6))
                have b8 : ((s[k + 1].toNat : Int) == 10) = false := beq_eq_false_iff_ne.2 (fun h => h6 (u8_int.2 h))
                clear h1 h2 h3 h4 h6 HE
                go_wp2
                go_round
                case rel => exact ⟨k + 2, by omega, by go_num, HN.out⟩
                case measure => simp [intOf]; omega
          · have HN := Lib.hid (HE.out.trans (pc_plain hlt h1 h2 h3))
            have b3 : ((s[k].toNat : Int) == 92) = false := beq_eq_false_iff_ne.2 (fun h => h3 (u8_int.2 h))
            clear h1 h2 h3 HE
            go_wp2
            go_round
            case rel => exact ⟨k + 1, by omega, by go_num, HN.out⟩
            case measure => simp [intOf]; omega
    · have HN := Lib.hid (HE.out.trans (pc_end (by omega)))
      go_wp2
      go_ret
      exact ⟨rb (by rw [HN.out]), rfl⟩

end Go.Proofs.Ytenmapahigbbeaa
