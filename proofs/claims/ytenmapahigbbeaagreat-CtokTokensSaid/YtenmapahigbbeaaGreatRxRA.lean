/- Several texts laid together. -/
import Derived.Test.YtenmapahigbbeaaGreatRun
import Derived.Test.YtenmapahigbbeaaGreatByteR
import Derived.Test.YtenmapahigbbeaaGreatNum
import Derived.IntWalk
import Derived.Test.YtenmapahigbbeaaGreatRefP
import Derived.BigQuiet
import Derived.Deep.QuietTactic
import Derived.Outline
import Derived.Test.YtenmapahigbbeaaGreatLong
import Derived.WalkSmall
import Derived.Test.YtenmapahigbbeaaGreatHead
import Derived.Test.YtenmapahigbbeaaGreatExtN

namespace Go.Proofs.YtenmapahigbbeaaGreat
open Go.RowKit

/-! ### Words -/
def wbAt (L : List UInt8) (k : Nat) : Bool := if k = 0 then wordB L else (L.drop k).all isAln
theorem all_yes {s : ByteArray} {k : Nat} {p : UInt8 → Bool} (hk : k < s.size) (h : p s[k] = true) : (s.data.toList.drop k).all p = (s.data.toList.drop (k + 1)).all p := by
  rw [data_drop s k hk, List.all_cons, h, Bool.true_and]
theorem all_no {s : ByteArray} {k : Nat} {p : UInt8 → Bool} (hk : k < s.size) (h : p s[k] = false) : (s.data.toList.drop k).all p = false := by
  rw [data_drop s k hk, List.all_cons, h, Bool.false_and]
theorem wordB_cons {s : ByteArray} (h : 0 < s.size) : wordB s.data.toList = (isLet s[0] && (s.data.toList.drop 1).all isAln) := by
  have hd := data_drop s 0 h
  rw [List.drop_zero] at hd
  rw [hd, wordB]; rfl
theorem wb_let {s : ByteArray} {k : Nat} (hk : k < s.size) (h : isLet s[k] = true) : wbAt s.data.toList k = wbAt s.data.toList (k + 1) := by
  unfold wbAt
  rw [if_neg (show ¬ k + 1 = 0 by omega)]
  by_cases h0 : k = 0
  · subst h0
    rw [if_pos rfl, wordB_cons hk, h, Bool.true_and]
  · rw [if_neg h0, all_yes hk (by unfold isAln; rw [h]; rfl)]
theorem wb_dig {s : ByteArray} {k : Nat} (hk : k < s.size) (h0 : k ≠ 0) (h : isDig s[k] = true) : wbAt s.data.toList k = wbAt s.data.toList (k + 1) := by
  unfold wbAt
  rw [if_neg (show ¬ k + 1 = 0 by omega), if_neg h0, all_yes hk (by unfold isAln; rw [h, Bool.or_true])]
theorem wb_no {s : ByteArray} {k : Nat} (hk : k < s.size) (h : isLet s[k] = false) (h2 : k = 0 ∨ isDig s[k] = false) : wbAt s.data.toList k = false := by
  unfold wbAt
  by_cases h0 : k = 0
  · subst h0
    rw [if_pos rfl, wordB_cons hk, h, Bool.false_and]
  · rw [if_neg h0, all_no hk]
    unfold isAln
    rw [h, h2.resolve_left h0]; rfl
theorem wb_end {s : ByteArray} (h : 0 < s.size) : wbAt s.data.toList s.size = true := by
  unfold wbAt
  rw [if_neg (by omega), List.drop_eq_nil_of_le (by rw [size_list]; exact Nat.le_refl _)]; rfl
theorem wb_nil {s : ByteArray} (h : s.size = 0) : wbAt s.data.toList s.size = false := by
  unfold wbAt
  rw [if_pos h, List.length_eq_zero_iff.1 ((size_list s).trans h)]; rfl

set_option maxHeartbeats 1000000 in
theorem rIsWord_any (s : ByteArray) (w : World) (hs : s.size ≤ maxLen) :
    Calls Tryz.prog 77 #[.string s] w fun e w' => e = .returned (.bool (wordB s.data.toList)) ∧ w = w' := by
  unfold maxLen at hs
  go_enter Tryz.func77, Tryz.ntmps77
  go_wp2
  go_loop [3] (fun i => ∃ k : Nat, k ≤ s.size ∧ i = .int .i64 k ∧ wordB s.data.toList = wbAt s.data.toList k) (fun i => s.size - (intOf i).toNat)
  case atStart => exact ⟨0, Nat.zero_le _, rfl, rfl⟩
  case round =>
    obtain ⟨k, hk, rfl, he⟩ := hrel
    have HE := Lib.hid he; clear he
    by_cases hlt : k < s.size
    · have CL := fun w => rletter_any s[k] w
      have CD := fun w => rdigit_any s[k] w
      cases hl : isLet s[k] with
      | true =>
        have HN := Lib.hid (HE.out.trans (wb_let hlt hl))
        rw [hl] at CL
        clear hl CD HE
        go_wp2_with (go_at_call 85; refine (CL _).mono ?_; rintro e w' ⟨rfl, rfl⟩)
        go_round
        case rel => exact ⟨k + 1, by omega, by go_num, HN.out⟩
        case measure => simp [intOf]; omega
      | false =>
        rw [hl] at CL
        by_cases h0 : k = 0
        · have HN := Lib.hid (HE.out.trans (wb_no hlt hl (.inl h0)))
          have h00 : ((k : Int) == 0) = true := by simp [h0]
          clear hl CD HE h0
          go_wp2_with (go_at_call 85; refine (CL _).mono ?_; rintro e w' ⟨rfl, rfl⟩)
          go_ret
          exact ⟨rb (by rw [HN.out]), rfl⟩
        · have h00 : ((k : Int) == 0) = false := by simp; omega
          cases hd : isDig s[k] with
          | true =>
            have HN := Lib.hid (HE.out.trans (wb_dig hlt h0 hd))
            rw [hd] at CD
            clear hl hd HE h0
            go_wp2_with (first | (go_at_call 85; refine (CL _).mono ?_; rintro e w' ⟨rfl, rfl⟩) | (go_at_call 86; refine (CD _).mono ?_; rintro e w' ⟨rfl, rfl⟩))
            go_round
            case rel => exact ⟨k + 1, by omega, by go_num, HN.out⟩
            case measure => simp [intOf]; omega
          | false =>
            have HN := Lib.hid (HE.out.trans (wb_no hlt hl (.inr hd)))
            rw [hd] at CD
            clear hl hd HE h0
            go_wp2_with (first | (go_at_call 85; refine (CL _).mono ?_; rintro e w' ⟨rfl, rfl⟩) | (go_at_call 86; refine (CD _).mono ?_; rintro e w' ⟨rfl, rfl⟩))
            go_ret
            exact ⟨rb (by rw [HN.out]), rfl⟩
    · obtain rfl : k = s.size := by omega
      by_cases hz : 0 < s.size
      · have HN := Lib.hid (HE.out.trans (wb_end hz))
        have hz2 : (0 : Int) < (s.size : Int) := by omega
        go_wp2
        go_ret
        exact ⟨rb (by rw [HN.out]), rfl⟩
      · have HN := Lib.hid (HE.out.trans (wb_nil (s := s) (by omega)))
        go_wp2
        go_ret
        exact ⟨rb (by rw [HN.out]), rfl⟩

/-! ### Numbers -/
theorem take_snoc {s : ByteArray} {j : Nat} (h : s.size = j + 1) : s.data.toList = s.data.toList.take j ++ [s[j]] := by
  conv => lhs; rw [← List.take_append_drop j s.data.toList]
  rw [data_drop s j (by omega), List.drop_eq_nil_of_le (by rw [size_list]; omega)]
theorem take_pair {s : ByteArray} {j : Nat} (h : s.size = j + 2) : s.data.toList = s.data.toList.take j ++ [s[j], s[j + 1]] := by
  conv => lhs; rw [← List.take_append_drop j s.data.toList]
  rw [data_drop s j (by omega), data_drop s (j + 1) (by omega), List.drop_eq_nil_of_le (by rw [size_list]; omega)]
theorem rn_one {s : ByteArray} (h : s.size = 1) : numF s.data.toList = isDig s[0] := by
  have := take_snoc (s := s) (j := 0) h
  rw [this, List.take_zero, List.nil_append, numF_one]
theorem rn_dot {s : ByteArray} (h : s.size = 2) (h0 : s[0] = 46) : numF s.data.toList = isDig s[1] := by
  have := take_pair (s := s) (j := 0) h
  rw [this, List.take_zero, List.nil_append, h0, numF_dot]
theorem rn_two {s : ByteArray} (h : s.size = 2) (h0 : s[0] ≠ 46) (h1 : isSgn s[1] = true) : numF s.data.toList = false := by
  have := take_pair (s := s) (j := 0) h
  rw [this, List.take_zero, List.nil_append, numF_two h0 h1]
theorem rn_pair {s : ByteArray} {j : Nat} (h : s.size = j + 3) (h1 : isSgn s[j + 2] = true) : numF s.data.toList = (isExp s[j + 1] && numF (s.data.toList.take (j + 1))) := by
  conv => lhs; rw [take_pair (s := s) (j := j + 1) h]
  refine numF_exp ?_ h1
  intro e
  have := congrArg List.length e
  rw [List.length_take, size_list, List.length_nil] at this
  omega
theorem rn_snoc {s : ByteArray} {j : Nat} (h : s.size = j + 2) (hx : j = 0 → s[0] ≠ 46) (h1 : isSgn s[j + 1] = false) : numF s.data.toList = (isNum s[j + 1] && numF (s.data.toList.take (j + 1))) := by
  conv => lhs; rw [take_snoc (s := s) (j := j + 1) h]
  refine numF_snoc ?_ ?_ h1
  · intro e
    have := congrArg List.length e
    rw [List.length_take, size_list, List.length_nil] at this
    omega
  · intro e
    have h2 := congrArg List.length e
    rw [List.length_take, size_list, List.length_cons, List.length_nil] at h2
    obtain rfl : j = 0 := by omega
    refine hx rfl ?_
    have h3 := data_drop s 0 (by omega)
    rw [List.drop_zero] at h3
    rw [h3] at e
    simpa using e

set_option maxHeartbeats 2000000 in
theorem rIsNumber_any : ∀ (m : Nat) (s : ByteArray), s.size ≤ m → ∀ (w : World), s.size ≤ maxLen →
    Calls Tryz.prog 78 #[.string s] w fun e w' => e = .returned (.bool (numF s.data.toList)) ∧ w = w' := by
  intro m
  induction m with
  | zero =>
    intro s hm w hs
    have h0 : s.size = 0 := by omega
    have HN : Hid (numF s.data.toList = false) := Lib.hid (by rw [List.length_eq_zero_iff.1 ((size_list s).trans h0)]; rfl)
    have h00 : ((s.size : Int) == 0) = true := by simp [h0]
    clear hm h0
    go_enter Tryz.func78, Tryz.ntmps78
    go_wp2_with fail
    go_ret
    exact ⟨rb (by rw [HN.out]), rfl⟩
  | succ m ih =>
    intro s hm w hs
    by_cases h0 : s.size = 0
    · exact ih s (by omega) w hs
    · have h00 : ((s.size : Int) == 0) = false := beq_eq_false_iff_ne.2 (by omega)
      by_cases h1 : s.size = 1
      · have HN := Lib.hid (rn_one h1)
        have h10 : ((s.size : Int) == 1) = true := by simp [h1]
        clear ih
        go_enter Tryz.func78, Tryz.ntmps78
        go_wp2_with (go_at_call 86; refine (rdigit_any _ _).mono ?_; rintro e w' ⟨rfl, rfl⟩)
        go_ret
        exact ⟨rb (by rw [HN.out]), rfl⟩
      · have h10 : ((s.size : Int) == 1) = false := beq_eq_false_iff_ne.2 (by omega)
        by_cases h2 : s.size = 2
        · have h20 : ((s.size : Int) == 2) = true := by simp [h2]
          have j0 : (0 : Int) < (s.size : Int) := by omega
          have j1 : (1 : Int) < (s.size : Int) := by omega
          by_cases hp : s[0] = 46
          · have HN := Lib.hid (rn_dot h2 hp)
            have hp0 : ((s[0].toNat : Int) == 46) = true := by rw [hp]; rfl
            clear ih hp
            go_enter Tryz.func78, Tryz.ntmps78
            go_wp2_with (go_at_call 86; refine (rdigit_any _ _).mono ?_; rintro e w' ⟨rfl, rfl⟩)
            go_ret
            exact ⟨rb (by rw [HN.out]), rfl⟩
          · have hp0 : ((s[0].toNat : Int) == 46) = false := beq_eq_false_iff_ne.2 (fun h => hp (UInt8.toNat_inj.1 (by simp; omega)))
            have CS := fun w => rsign_any s[1] w
            cases hsg : isSgn s[1] with
            | true =>
              have HN := Lib.hid (rn_two h2 hp hsg)
              rw [hsg] at CS
              clear ih hp hsg
              go_enter Tryz.func78, Tryz.ntmps78
              go_wp2_with (go_at_call 87; refine (CS _).mono ?_; rintro e w' ⟨rfl, rfl⟩)
              go_ret
              exact ⟨rb (by rw [HN.out]), rfl⟩
            | false =>
              have HN := Lib.hid (rn_snoc (j := 0) h2 (fun _ => hp) hsg)
              have IH := fun w => ih (s.extract 0 1) (by rw [ByteArray.size_extract]; omega) w (by rw [ByteArray.size_extract]; unfold maxLen; omega)
              rw [show (s.extract 0 1).data.toList = s.data.toList.take 1 from extract_list s 0 1] at IH
              rw [hsg] at CS
              clear ih hp hsg
              go_enter Tryz.func78, Tryz.ntmps78
              go_wp2_with (first | (go_at_call 87; refine (CS _).mono ?_; rintro e w' ⟨rfl, rfl⟩) | (go_at_call 86; refine (rdigit_any _ _).mono ?_; rintro e w' ⟨rfl, rfl⟩) | (go_at_call 85; refine (rletter_any _ _).mono ?_; rintro e w' ⟨rfl, rfl⟩) | (go_at_call 78; refine (IH _).mono ?_; rintro e w' ⟨rfl, rfl⟩))
              all_goals
                go_ret
                refine ⟨rb ?_, rfl⟩
                rw [HN.out]
                first
                  | (have hq : isDig s[0 + 1] = true := by assumption
                     rw [nD hq]; rfl)
                  | (have hq : isLet s[0 + 1] = true := by assumption
                     rw [nL hq]; rfl)
                  | (have hq : ((s[0 + 1].toNat : Int) == 46) = true := by first | assumption | exact beq_iff_eq.2 (by assumption)
                     rw [nP hq]; rfl)
                  | (have hq : isDig s[0 + 1] = false := by first | assumption | exact Bool.eq_false_iff.2 (by assumption)
                     have hq2 : isLet s[0 + 1] = false := by first | assumption | exact Bool.eq_false_iff.2 (by assumption)
                     have hq3 : ((s[0 + 1].toNat : Int) == 46) = false := by first | assumption | exact beq_eq_false_iff_ne.2 (by assumption)
                     rw [nN hq hq2 hq3]; rfl)
        · obtain ⟨j, hj⟩ : ∃ j, s.size = j + 3 := ⟨s.size - 3, by omega⟩
          have h20 : ((s.size : Int) == 2) = false := beq_eq_false_iff_ne.2 (by omega)
          have CS := fun w => rsign_any s[j + 2] w
          cases hsg : isSgn s[j + 2] with
          | true =>
            have HN := Lib.hid (rn_pair hj hsg)
            rw [hsg] at CS
            have IH := fun w => ih (s.extract 0 (j + 1)) (by rw [ByteArray.size_extract]; omega) w (by rw [ByteArray.size_extract]; omega)
            rw [show (s.extract 0 (j + 1)).data.toList = s.data.toList.take (j + 1) from extract_list s 0 (j + 1)] at IH
            unfold maxLen at hs
            have v1 : wrap64 ((j : Int) + 3 - 1) = (j : Int) + 2 := by rw [show (j : Int) + 3 - 1 = (j : Int) + 2 by omega]; exact IntWalk.wrap64_in _ (by omega)
            have v2 : wrap64 ((j : Int) + 3 - 2) = (j : Int) + 1 := by rw [show (j : Int) + 3 - 2 = (j : Int) + 1 by omega]; exact IntWalk.wrap64_in _ (by omega)
            have v3 : ((j : Int) + 2).toNat = j + 2 := by omega
            have v4 : ((j : Int) + 1).toNat = j + 1 := by omega
            have v5 : ((j : Int) + 3 == 2) = false := beq_eq_false_iff_ne.2 (by omega)
            have v6 : ((j : Int) + 3 == 1) = false := beq_eq_false_iff_ne.2 (by omega)
            have v7 : ((j : Int) + 3 == 0) = false := beq_eq_false_iff_ne.2 (by omega)
            have v8 : (2 : Int) < (j : Int) + 3 := by omega
            have CE := fun w => rexpo_any s[j + 1] w
            cases he : isExp s[j + 1] with
            | false =>
              rw [he] at CE
              have HN2 : Hid (numF s.data.toList = false) := Lib.hid (by rw [HN.out, he]; rfl)
              clear ih hsg h0 h1 h2 hm HN he h00 h10 h20 hs IH
              go_enter Tryz.func78, Tryz.ntmps78
              go_wp2_with (first | (go_at_call 87; refine (CS _).mono ?_; rintro e w' ⟨rfl, rfl⟩) | (go_at_call 88; refine (CE _).mono ?_; rintro e w' ⟨rfl, rfl⟩))
              go_ret
              exact ⟨rb (by rw [HN2.out]), rfl⟩
            | true =>
              rw [he] at CE
              have HN2 : Hid (numF s.data.toList = numF (s.data.toList.take (j + 1))) := Lib.hid (by rw [HN.out, he]; rfl)
              clear ih hsg h0 h1 h2 hm HN he h00 h10 h20 hs
              go_enter Tryz.func78, Tryz.ntmps78
              go_wp2_with (first | (go_at_call 87; refine (CS _).mono ?_; rintro e w' ⟨rfl, rfl⟩) | (go_at_call 88; refine (CE _).mono ?_; rintro e w' ⟨rfl, rfl⟩) | (go_at_call 78; refine (IH _).mono ?_; rintro e w' ⟨rfl, rfl⟩))
              go_ret
              exact ⟨rb (by rw [HN2.out]), rfl⟩
          | false =>
            have HN := Lib.hid (rn_snoc (s := s) (j := j + 1) hj (fun h => by omega) hsg)
            rw [hsg] at CS
            have IH := fun w => ih (s.extract 0 (j + 2)) (by rw [ByteArray.size_extract]; omega) w (by rw [ByteArray.size_extract]; omega)
            rw [show (s.extract 0 (j + 2)).data.toList = s.data.toList.take (j + 2) from extract_list s 0 (j + 2)] at IH
            unfold maxLen at hs
            have v1 : wrap64 ((j : Int) + 3 - 1) = (j : Int) + 2 := by rw [show (j : Int) + 3 - 1 = (j : Int) + 2 by omega]; exact IntWalk.wrap64_in _ (by omega)
            have v3 : ((j : Int) + 2).toNat = j + 2 := by omega
            have v5 : ((j : Int) + 3 == 2) = false := beq_eq_false_iff_ne.2 (by omega)
            have v6 : ((j : Int) + 3 == 1) = false := beq_eq_false_iff_ne.2 (by omega)
            have v7 : ((j : Int) + 3 == 0) = false := beq_eq_false_iff_ne.2 (by omega)
            clear ih hsg h0 h1 h2 hm h00 h10 h20 hs
            go_enter Tryz.func78, Tryz.ntmps78
            go_wp2_with (first | (go_at_call 87; refine (CS _).mono ?_; rintro e w' ⟨rfl, rfl⟩) | (go_at_call 86; refine (rdigit_any _ _).mono ?_; rintro e w' ⟨rfl, rfl⟩) | (go_at_call 85; refine (rletter_any _ _).mono ?_; rintro e w' ⟨rfl, rfl⟩) | (go_at_call 78; refine (IH _).mono ?_; rintro e w' ⟨rfl, rfl⟩))
            all_goals
              go_ret
              refine ⟨rb ?_, rfl⟩
              rw [HN.out]
              first
                | (have hq : isDig s[j + 1 + 1] = true := by assumption
                   rw [nD hq]; rfl)
                | (have hq : isLet s[j + 1 + 1] = true := by assumption
                   rw [nL hq]; rfl)
                | (have hq : ((s[j + 1 + 1].toNat : Int) == 46) = true := by first | assumption | exact beq_iff_eq.2 (by assumption)
                   rw [nP hq]; rfl)
                | (have hq : isDig s[j + 1 + 1] = false := by first | assumption | exact Bool.eq_false_iff.2 (by assumption)
                   have hq2 : isLet s[j + 1 + 1] = false := by first | assumption | exact Bool.eq_false_iff.2 (by assumption)
                   have hq3 : ((s[j + 1 + 1].toNat : Int) == 46) = false := by first | assumption | exact beq_eq_false_iff_ne.2 (by assumption)
                   rw [nN hq hq2 hq3]; rfl)

/-! ### Pieces -/
theorem pc_end {q : UInt8} {s : ByteArray} {k : Nat} (h : s.size ≤ k) : piecesB q (s.data.toList.drop k) = true := by
  rw [List.drop_eq_nil_of_le (by rw [size_list]; exact h), piecesB]
theorem pc_quote {q : UInt8} {s : ByteArray} {k : Nat} (hk : k < s.size) (h : s[k] = q ∨ s[k] = 10) : piecesB q (s.data.toList.drop k) = false := by
  rw [data_drop s k hk, piecesB_eq, if_pos]
  rcases h with h | h <;> simp [h]
theorem pc_plain {q : UInt8} {s : ByteArray} {k : Nat} (hk : k < s.size) (h : s[k] ≠ q) (h1 : s[k] ≠ 10) (h2 : s[k] ≠ 92) : piecesB q (s.data.toList.drop k) = piecesB q (s.data.toList.drop (k + 1)) := by
  rw [data_drop s k hk, piecesB_eq, if_neg (by simp [h, h1]), if_neg (by simp [h2])]
theorem pc_last {q : UInt8} {s : ByteArray} {k : Nat} (hk : k + 1 = s.size) (h2 : s[k] = 92) : piecesB q (s.data.toList.drop k) = false := by
  rw [data_drop s k (by omega), piecesB_eq, List.drop_eq_nil_of_le (by rw [size_list]; omega)]
  simp [h2]
theorem pc_bad {q : UInt8} {s : ByteArray} {k : Nat} (hk : k + 1 < s.size) (h2 : s[k] = 92) (h3 : s[k + 1] = 10) : piecesB q (s.data.toList.drop k) = false := by
  rw [data_drop s k (by omega), data_drop s (k + 1) hk, piecesB_eq]
  simp [h2, h3]
theorem pc_pair {q : UInt8} {s : ByteArray} {k : Nat} (hk : k + 1 < s.size) (h : s[k] ≠ q) (h2 : s[k] = 92) (h3 : s[k + 1] ≠ 10) : piecesB q (s.data.toList.drop k) = piecesB q (s.data.toList.drop (k + 2)) := by
  rw [data_drop s k (by omega), data_drop s (k + 1) hk, piecesB_eq, if_neg (by rw [h2] at h ⊢; simp [h]), if_pos (by simp [h2])]
  simp only
  rw [if_neg (by simp [h3])]
theorem u8_int {a b : UInt8} : a = b ↔ (a.toNat : Int) = (b.toNat : Int) := by
  rw [← UInt8.toNat_inj]; omega

set_option maxHeartbeats 2000000 in
theorem rpieces_any (s : ByteArray) (q : UInt8) (w : World) (hs : s.size ≤ maxLen) :
    Calls Tryz.prog 89 #[.string s, .int .u8 q.toNat] w fun e w' => e = .returned (.bool (piecesB q s.data.toList)) ∧ w = w' := by
  unfold maxLen at hs
  go_enter Tryz.func89, Tryz.ntmps89
  go_wp2
  go_loop [5] (fun i => ∃ k : Nat, k ≤ s.size ∧ i = .int .i64 k ∧ piecesB q s.data.toList = piecesB q (s.data.toList.drop k)) (fun i => s.size - (intOf i).toNat)
  case atStart => exact ⟨0, Nat.zero_le _, rfl, rfl⟩
  case round =>
    obtain ⟨k, hk, rfl, he⟩ := hrel
    have HE := Lib.hid he; clear he
    by_cases hlt : k < s.size
    · by_cases h1 : s[k] = q
      · have HN := Lib.hid (HE.out.trans (pc_quote hlt (.inl h1)))
        have b1 : ((s[k].toNat : Int) == (q.toNat : Int)) = true := by rw [h1]; simp
        clear h1 HE
        go_wp2
        go_ret
        exact ⟨rb (by rw [HN.out]), rfl⟩
      · have b1 : ((s[k].toNat : Int) == (q.toNat : Int)) = false := beq_eq_false_iff_ne.2 (fun h => h1 (u8_int.2 h))
        by_cases h2 : s[k] = 10
        · have HN := Lib.hid (HE.out.trans (pc_quote hlt (.inr h2)))
          have b2 : ((s[k].toNat : Int) == 10) = true := by rw [h2]; rfl
          clear h1 h2 HE
          go_wp2
          go_ret
          exact ⟨rb (by rw [HN.out]), rfl⟩
        · have b2 : ((s[k].toNat : Int) == 10) = false := beq_eq_false_iff_ne.2 (fun h => h2 (u8_int.2 h))
          by_cases h3 : s[k] = 92
          · have b3 : ((s[k].toNat : Int) == 92) = true := by rw [h3]; rfl
            by_cases h4 : k + 1 = s.size
            · have HN := Lib.hid (HE.out.trans (pc_last h4 h3))
              have b4 : ((k : Int) + 1 == (s.size : Int)) = true := by simp; omega
              clear h1 h2 h3 HE h4
              go_wp2
              go_ret
              exact ⟨rb (by rw [HN.out]), rfl⟩
            · have b4 : ((k : Int) + 1 == (s.size : Int)) = false := beq_eq_false_iff_ne.2 (by omega)
              have h5 : k + 1 < s.size := by omega
              have b5 : (k : Int) + 1 < (s.size : Int) := by omega
              have b6 : (0 : Int) ≤ (k : Int) + 1 := by omega
              have b7 : ((k : Int) + 1).toNat = k + 1 := by omega
              by_cases h6 : s[k + 1] = 10
              · have HN := Lib.hid (HE.out.trans (pc_bad h5 h3 h6))
                have b8 : ((s[k + 1].toNat : Int) == 10) = true := by rw [h6]; rfl
                clear h1 h2 h3 h4 h6 HE
                go_wp2
                go_ret
                exact ⟨rb (by rw [HN.out]), rfl⟩
              · have HN := Lib.hid (HE.out.trans (pc_pair h5 h1 h3 h6))
                have b8 : ((s[k + 1].toNat : Int) == 10) = false := beq_eq_false_iff_ne.2 (fun h => h6 (u8_int.2 h))
                clear h1 h2 h3 h4 h6 HE
                go_wp2
                go_round
                case rel => exact ⟨k + 2, by omega, by go_num, HN.out⟩
                case measure => simp [intOf]; omega
          · have HN := Lib.hid (HE.out.trans (pc_plain hlt h1 h2 h3))
            have b3 : ((s[k].toNat : Int) == 92) = false := beq_eq_false_iff_ne.2 (fun h => h3 (u8_int.2 h))
            clear h1 h2 h3 HE
            go_wp2
            go_round
            case rel => exact ⟨k + 1, by omega, by go_num, HN.out⟩
            case measure => simp [intOf]; omega
    · have HN := Lib.hid (HE.out.trans (pc_end (by omega)))
      go_wp2
      go_ret
      exact ⟨rb (by rw [HN.out]), rfl⟩

end Go.Proofs.YtenmapahigbbeaaGreat

namespace Go.Proofs.YtenmapahigbbeaaGreat
open Go.RowKit

theorem quiet_add {P : Program} {f : FuncId} {args : Array Value} {w : World} {m x : Nat} {v : Value} (h : Calls P f args (w.drewN (m + x)) fun e w' => e = .returned v ∧ w' = w.drewN (m + x)) :
    Calls P f args (w.drewN (m + x)) fun e w'' => e = .returned v ∧ ∃ n, w'' = w.drewN (m + n) := h.mono fun _ _ ⟨he, hm⟩ => ⟨he, x, hm⟩
theorem lit_step {q : UInt8} {f : Nat} {x p : List UInt8} {ps : List (List UInt8)} {k : Nat} (h : ps[k]? = some p) : litB q f x (ps.drop k) = if shapeB q x p then decide (p.length + 2 + f ≤ x.length) else litB q f x (ps.drop (k + 1)) := by
  have hk : k < ps.length := (List.getElem?_eq_some_iff.1 h).1
  rw [List.drop_eq_getElem_cons hk, litB, (List.getElem?_eq_some_iff.1 h).2]

/-- The five tests of a literal's form, on texts. -/
structure Shp (q : UInt8) (s T : ByteArray) (c1 c2 c3 c4 c5 : Bool) : Prop where
  h1 : decide (T.size + 2 ≤ s.size) = c1
  h2 : c1 = true → ((s.extract 0 T.size).toList == T.toList) = c2
  h3 : c1 = true → ∀ h : T.size < s.size, ((s[T.size].toNat : Int) == (q.toNat : Int)) = c3
  h4 : c1 = true → ∀ h : s.size - 1 < s.size, ((s[s.size - 1].toNat : Int) == (q.toNat : Int)) = c4
  h5 : c1 = true → piecesB q (s.extract (T.size + 1) (s.size - 1)).data.toList = c5
theorem shp_beq (a b : UInt8) : (a == b) = ((a.toNat : Int) == (b.toNat : Int)) := by
  rw [Bool.eq_iff_iff, beq_iff_eq, beq_iff_eq]; exact u8_int
theorem Shp.shape {q : UInt8} {s T : ByteArray} {c1 c2 c3 c4 c5 : Bool} (h : Shp q s T c1 c2 c3 c4 c5) : shapeB q s.data.toList T.data.toList = (c1 && c2 && c3 && c4 && c5) := by
  unfold shapeB
  rw [size_list, size_list, h.h1]
  cases hc : c1 with
  | false => rfl
  | true =>
    have h1 : T.size + 2 ≤ s.size := of_decide_eq_true (by rw [h.h1, hc])
    have e2 := h.h2 hc
    have e3 := h.h3 hc (by omega)
    have e4 := h.h4 hc (by omega)
    have e5 := h.h5 hc
    rw [ByteArray.toList_eq, ByteArray.toList_eq, extract_list, List.drop_zero] at e2
    rw [← shp_beq] at e3 e4
    rw [extract_list] at e5
    rw [e2, data_get s _ (by omega), data_get s _ (by omega), e5]
    simp only [Option.getD_some]
    rw [e3, e4]
theorem shp_any (q : UInt8) (s T : ByteArray) : ∃ c1 c2 c3 c4 c5, Shp q s T c1 c2 c3 c4 c5 := by
  by_cases h : T.size + 2 ≤ s.size
  · exact ⟨true, (s.extract 0 T.size).toList == T.toList, ((s[T.size].toNat : Int) == (q.toNat : Int)), ((s[s.size - 1].toNat : Int) == (q.toNat : Int)), piecesB q (s.extract (T.size + 1) (s.size - 1)).data.toList,
      ⟨decide_eq_true h, fun _ => rfl, fun _ _ => rfl, fun _ _ => rfl, fun _ => rfl⟩⟩
  · exact ⟨false, false, false, false, false, ⟨decide_eq_false h, (fun h => by cases h), (fun h => by cases h), (fun h => by cases h), (fun h => by cases h)⟩⟩

set_option maxRecDepth 100000 in
set_option maxHeartbeats 4000000 in
theorem rIsLiteral_any (s : ByteArray) (q : UInt8) (f : Nat) (ps : List ByteArray) (b n : Nat) (w : World) (hs : s.size ≤ maxLen) (hqf : q = 39 ∧ f = 1 ∨ q = 34 ∧ f = 0) (hn : ps.length = n) (hn2 : n ≤ 10)
    (hT : ∀ (j : Nat) T, ps[j]? = some T → w.cell? ⟨b, j, none⟩ = some (.string T)) (hp : ∀ T ∈ ps, T.size ≤ 2) :
    Calls Tryz.prog 79 #[.string s, .int .u8 q.toNat, .slice (some ⟨b, 0, none⟩) n n] w fun e w' => e = .returned (.bool (litB q f s.data.toList (ps.map (·.data.toList)))) ∧ ∃ m, w' = w.drewN m := by
  unfold maxLen at hs
  obtain ⟨psL, hpsL⟩ : ∃ l, ps.map (·.data.toList) = l := ⟨_, rfl⟩
  have HG := Lib.hid (fun (k : Nat) (T : ByteArray) (h : ps[k]? = some T) => show psL[k]? = some T.data.toList by rw [← hpsL, List.getElem?_map, h]; rfl)
  have HT := Lib.hid hT
  have HP := Lib.hid hp
  have HN := Lib.hid hn
  have HE0 := Lib.hid (show psL.length = n by rw [← hpsL, List.length_map, hn])
  rw [hpsL]
  clear hT hp hn hpsL
  go_enter Tryz.func79, Tryz.ntmps79
  go_wp2
  go_loopw [7] (fun i wx => ∃ k : Nat, k ≤ n ∧ i = .int .i64 k ∧ Hid (litB q f s.data.toList psL = litB q f s.data.toList (psL.drop k)) ∧ ∃ m, wx = w.drewN m) (fun i _ => n - (intOf i).toNat)
  case atStart => exact ⟨0, Nat.zero_le _, rfl, Lib.hid rfl, 0, rfl⟩
  case round =>
    obtain ⟨k, hk, rfl, HE, m, rfl⟩ := hrel
    by_cases hlt : k < n
    · obtain ⟨T, hTk⟩ : ∃ T, ps[k]? = some T := ⟨_, List.getElem?_eq_getElem (by rw [HN.out]; exact hlt)⟩
      have c0 := HT.out k T hTk
      have hsz := HP.out T (List.mem_of_getElem? hTk)
      obtain ⟨c1, c2, c3, c4, c5, hS⟩ := shp_any q s T
      have hst := HE.out.trans (lit_step (HG.out k T hTk))
      rw [hS.shape, size_list, size_list] at hst
      have HST := Lib.hid hst
      clear hst hTk HE
      have j2 : (k : Int) < (n : Int) := by omega
      have j3 : (0 : Int) ≤ (k : Int) := by omega
      have j4 : ((k : Int) : Int).toNat = k := Int.toNat_natCast k
      obtain ⟨h1, h2, h3, h4, h5⟩ := hS
      go_wp2
      cases c1 with
      | false =>
        have b0 : ¬ (T.size + 2 ≤ s.size) := of_decide_eq_false h1
        have b1 : decide ((T.size : Int) + 2 ≤ (s.size : Int)) = false := decide_eq_false (by omega)
        have HS2 := Lib.hid (HST.out.trans (if_neg (by simp)))
        clear h1 h2 h3 h4 h5 HST b0
        go_big_quiet (fail)
        go_wp2
        refine ⟨⟨k + 1, by omega, by go_num, HS2, _, rfl⟩, ?_⟩
        simp [intOf]; omega
      | true =>
        have b0 : T.size + 2 ≤ s.size := of_decide_eq_true h1
        have b1 : (T.size : Int) + 2 ≤ (s.size : Int) := by omega
        have b2 : (T.size : Int) ≤ (s.size : Int) := by omega
        have b3 : (T.size : Int) < (s.size : Int) := by omega
        have h2 := h2 rfl
        have h3 := h3 rfl (by omega)
        have h4 := h4 rfl (by omega)
        have h5 := h5 rfl
        have v1 : wrap64 ((s.size : Int) - 1) = (s.size : Int) - 1 := IntWalk.wrap64_in _ (by omega)
        have v2 : ((s.size : Int) - 1).toNat = s.size - 1 := by omega
        have v3 : ((T.size : Int) + 1).toNat = T.size + 1 := by omega
        have v4 : (0 : Int) ≤ (s.size : Int) - 1 := by omega
        have v9 : (1 : Int) ≤ (s.size : Int) := by omega
        have v5 : (s.size : Int) - 1 < (s.size : Int) := by omega
        have v6 : (T.size : Int) + 1 ≤ (s.size : Int) - 1 := by omega
        have v7 : (s.size : Int) - 1 ≤ (s.size : Int) := by omega
        have v8 : (0 : Int) ≤ (T.size : Int) + 1 := by omega
        clear h1
        cases c2 with
        | false =>
          have HS2 := Lib.hid (HST.out.trans (if_neg (by simp)))
          clear h3 h4 h5 HST v1 v2 v3 v4 v5 v6 v7 v8
          go_big_quiet (fail)
          go_wp2
          refine ⟨⟨k + 1, by omega, by go_num, HS2, _, rfl⟩, ?_⟩
          simp [intOf]; omega
        | true =>
          cases c3 with
          | false =>
            have HS2 := Lib.hid (HST.out.trans (if_neg (by simp)))
            clear h4 h5 HST v1 v2 v3 v4 v5 v6 v7 v8
            go_big_quiet (fail)
            go_wp2
            refine ⟨⟨k + 1, by omega, by go_num, HS2, _, rfl⟩, ?_⟩
            simp [intOf]; omega
          | true =>
            cases c4 with
            | false =>
              have HS2 := Lib.hid (HST.out.trans (if_neg (by simp)))
              clear h5 HST v3 v6 v7 v8
              go_big_quiet (fail)
              go_wp2
              refine ⟨⟨k + 1, by omega, by go_num, HS2, _, rfl⟩, ?_⟩
              simp [intOf]; omega
            | true =>
              have CQ : ∀ w : World, Calls Tryz.prog 89 #[.string (s.extract (T.size + 1) (s.size - 1)), .int .u8 q.toNat] w fun e w' => e = .returned (.bool c5) ∧ w' = w := fun w =>
                (rpieces_any (s.extract (T.size + 1) (s.size - 1)) q w (by rw [ByteArray.size_extract]; unfold maxLen; omega)).mono (by rintro e w' ⟨rfl, rfl⟩; rw [h5]; exact ⟨rfl, rfl⟩)
              cases c5 with
              | false =>
                have HS2 := Lib.hid (HST.out.trans (if_neg (by simp)))
                clear h5 HST
                go_big_quiet ((go_at_call 89; exact quiet_add (CQ _)))
                go_wp2
                refine ⟨⟨k + 1, by omega, by go_num, HS2, _, rfl⟩, ?_⟩
                simp [intOf]; omega
              | true =>
                have HS2 := Lib.hid (HST.out.trans (if_pos rfl))
                clear h5 HST
                rcases hqf with ⟨hq, rfl⟩ | ⟨hq, rfl⟩
                · have hq0 : ((q.toNat : Int) == 34) = false := by rw [hq]; rfl
                  clear hq
                  go_big_quiet ((go_at_call 89; exact quiet_add (CQ _)))
                  go_wp2
                  go_ret
                  exact ⟨rb (by rw [HS2.out, Bool.eq_iff_iff, decide_eq_true_iff, decide_eq_true_iff]; omega), _, rfl⟩
                · have hq0 : ((q.toNat : Int) == 34) = true := by rw [hq]; rfl
                  clear hq
                  go_big_quiet ((go_at_call 89; exact quiet_add (CQ _)))
                  go_wp2
                  go_ret
                  exact ⟨rb (by rw [HS2.out]; exact (decide_eq_true (by omega)).symm), _, rfl⟩
    · have HS2 := Lib.hid (HE.out.trans (show litB q f s.data.toList (psL.drop k) = false by rw [List.drop_eq_nil_of_le (by rw [HE0.out]; omega)]; rfl))
      go_wp2
      go_ret
      exact ⟨rb (by rw [HS2.out]), _, rfl⟩

end Go.Proofs.YtenmapahigbbeaaGreat

namespace Go.Proofs.YtenmapahigbbeaaGreat
open Go.RowKit

/-! ### Punctuators -/
def allL : List UInt8 := [32, 91, 32, 93, 32, 40, 32, 41, 32, 123, 32, 125, 32, 46, 32, 45, 62, 32, 43, 43, 32, 45, 45, 32, 38, 32, 42, 32, 43, 32, 45, 32, 126, 32, 33, 32, 47, 32, 37, 32, 60, 60, 32, 62, 62, 32, 60, 32, 62, 32, 60, 61, 32, 62, 61, 32, 61, 61, 32, 33, 61, 32, 94, 32, 124, 32, 38, 38, 32, 124, 124, 32, 63, 32, 58, 32, 59, 32, 46, 46, 46, 32, 61, 32, 42, 61, 32, 47, 61, 32, 37, 61, 32, 43, 61, 32, 45, 61, 32, 60, 60, 61, 32, 62, 62, 61, 32, 38, 61, 32, 94, 61, 32, 124, 61, 32, 44, 32, 35, 32, 35, 35, 32, 60, 58, 32, 58, 62, 32, 60, 37, 32, 37, 62, 32, 37, 58, 32, 37, 58, 37, 58, 32]
def wOf (x : List UInt8) : List UInt8 := 32 :: (x ++ [32])
theorem all_has : ∀ x ∈ puncts, ∃ i, i + (wOf x).length ≤ 143 ∧ (allL.drop i).take (wOf x).length = wOf x := by
  have : ∀ x ∈ puncts, ((List.range 143).any fun i => decide (i + (wOf x).length ≤ 143) && (allL.drop i).take (wOf x).length == wOf x) = true := by decide +kernel
  intro x hx
  obtain ⟨i, _, h⟩ := List.any_eq_true.1 (this x hx)
  rw [Bool.and_eq_true, decide_eq_true_eq, beq_iff_eq] at h
  exact ⟨i, h⟩
theorem all_only : ∀ i < 143, ∀ n < 5, ∀ x, x = (allL.drop (i + 1)).take n → (allL.drop i).take (n + 2) = wOf x → x.contains 32 = false → x ≠ [] → isPunctB x = true := by
  have : ∀ i < 143, ∀ n < 5, (allL.drop i).take (n + 2) = wOf ((allL.drop (i + 1)).take n) → ((allL.drop (i + 1)).take n).contains 32 = false → (allL.drop (i + 1)).take n ≠ [] → isPunctB ((allL.drop (i + 1)).take n) = true := by decide +kernel
  intro i hi n hn x hx
  subst hx
  exact this i hi n hn

theorem wOf_len (x : List UInt8) : (wOf x).length = x.length + 2 := by simp [wOf]
/-- The text between two blanks. -/
def wB (s : ByteArray) : ByteArray := (⟨#[32]⟩ : ByteArray) ++ s ++ (⟨#[32]⟩ : ByteArray)
theorem wB_list (s : ByteArray) : (wB s).data.toList = wOf s.data.toList := by
  unfold wB wOf; simp
theorem wB_size (s : ByteArray) : (wB s).size = s.size + 2 := by
  rw [← size_list, wB_list, wOf_len, size_list]
theorem ex_list (a : ByteArray) (i j : Nat) : (a.extract i j).data.toList = (a.data.toList.drop i).take (j - i) := by
  rw [extract_list, List.take_drop]
  by_cases h : i ≤ j
  · rw [show i + (j - i) = j by omega]
  · rw [show i + (j - i) = i by omega, List.drop_eq_nil_of_le (by rw [List.length_take]; omega), List.drop_eq_nil_of_le (by rw [List.length_take]; omega)]
theorem has32_step {s : ByteArray} {k : Nat} (h : k < s.size) : (s.data.toList.drop k).contains 32 = ((s[k] == 32) || (s.data.toList.drop (k + 1)).contains 32) := by
  rw [data_drop s k h, List.contains_cons]
  have : (32 == s[k]) = (s[k] == 32) := by rw [Bool.eq_iff_iff, beq_iff_eq, beq_iff_eq]; exact eq_comm
  rw [this]

set_option maxRecDepth 100000 in
set_option maxHeartbeats 4000000 in
theorem rIsPunct_any (s : ByteArray) (w : World) (hs : s.size ≤ 2000) :
    Calls Tryz.prog 80 #[.string s] w fun e w' => e = .returned (.bool (isPunctB s.data.toList)) ∧ w' = w := by
  obtain ⟨W, hW⟩ : ∃ W, wB s = W := ⟨_, rfl⟩
  have hWs : W.size = s.size + 2 := by rw [← hW, wB_size]
  by_cases h0 : s.size = 0
  · have HN : Hid (isPunctB s.data.toList = false) := Lib.hid (by rw [List.length_eq_zero_iff.1 ((size_list s).trans h0)]; rfl)
    have b0 : ((s.size : Int) == 0) = true := by simp [h0]
    clear h0 hW hWs
    go_enter Tryz.func80, Tryz.ntmps80
    go_wp2
    go_ret
    exact ⟨rb (by rw [HN.out]), rfl⟩
  · have b0 : ((s.size : Int) == 0) = false := beq_eq_false_iff_ne.2 (by omega)
    by_cases h4 : 4 < s.size
    · have HN : Hid (isPunctB s.data.toList = false) := Lib.hid (by
        cases hp : isPunctB s.data.toList with
        | false => rfl
        | true =>
          have := (isPunct_len hp).2
          rw [size_list] at this; omega)
      have b1 : (4 : Int) < (s.size : Int) := by omega
      clear h0 hW hWs h4
      go_enter Tryz.func80, Tryz.ntmps80
      go_wp2
      go_ret
      exact ⟨rb (by rw [HN.out]), rfl⟩
    · have b1 : ¬ (4 : Int) < (s.size : Int) := by omega
      have HW := Lib.hid hW
      unfold wB at hW
      go_enter Tryz.func80, Tryz.ntmps80
      go_wp2
      go_loop [4] (fun i => ∃ k : Nat, k ≤ s.size ∧ i = .int .i64 k ∧ s.data.toList.contains 32 = (s.data.toList.drop k).contains 32) (fun i => s.size - (intOf i).toNat)
      case atStart => exact ⟨0, Nat.zero_le _, rfl, rfl⟩
      case round =>
        obtain ⟨k, hk, rfl, he⟩ := hrel
        have HE := Lib.hid he; clear he
        by_cases hlt : k < s.size
        · by_cases h32 : s[k] = 32
          · have HN : Hid (isPunctB s.data.toList = false) := Lib.hid (by
              cases hp : isPunctB s.data.toList with
              | false => rfl
              | true =>
                have h5 := HE.out
                rw [has32_step hlt, h32] at h5
                have h6 : s.data.toList.contains 32 = true := by rw [h5]; rfl
                exact absurd rfl (puncts_stop _ (List.contains_iff_mem.1 hp) 32 (List.contains_iff_mem.1 h6)).1)
            have b2 : ((s[k].toNat : Int) == 32) = true := by rw [h32]; rfl
            clear h32 HE hW
            go_wp2
            go_ret
            exact ⟨rb (by rw [HN.out]), rfl⟩
          · have HN := Lib.hid (HE.out.trans (by rw [has32_step hlt, show (s[k] == 32) = false by simpa using h32, Bool.false_or]))
            have b2 : ((s[k].toNat : Int) == 32) = false := beq_eq_false_iff_ne.2 (fun h => h32 (u8_int.2 h))
            clear h32 HE hW
            go_wp2
            go_round
            case rel => exact ⟨k + 1, by omega, by go_num, HN.out⟩
            case measure => simp [intOf]; omega
        · have HC : Hid (s.data.toList.contains 32 = false) := Lib.hid (by rw [HE.out, List.drop_eq_nil_of_le (by rw [size_list]; omega)]; rfl)
          have HWL : Hid (W.data.toList = wOf s.data.toList) := Lib.hid (by rw [← HW.out, wB_list])
          have HS := Lib.hid hWs
          have hs3 : W.size ≤ 6 := by omega
          clear HE hW hWs
          go_wp2
          go_loop [5] (fun i => ∃ k : Nat, k ≤ 143 ∧ i = .int .i64 k ∧ Hid (∀ i < k, (allL.drop i).take W.size ≠ wOf s.data.toList)) (fun i => 143 - (intOf i).toNat)
          case atStart => exact ⟨0, Nat.zero_le _, rfl, Lib.hid (fun i h => by omega)⟩
          case round =>
            obtain ⟨k, hk, rfl, HE⟩ := hrel
            by_cases hlt : k + W.size ≤ 143
            · have b3 : (k : Int) + (W.size : Int) ≤ 143 := by omega
              have b4 : ((k : Int) + (W.size : Int)).toNat = k + W.size := by omega
              have b5 : (k : Int) ≤ (k : Int) + (W.size : Int) := by omega
              have b6 : (0 : Int) ≤ (k : Int) + (W.size : Int) := by omega
              have hx : ((⟨#[32, 91, 32, 93, 32, 40, 32, 41, 32, 123, 32, 125, 32, 46, 32, 45, 62, 32, 43, 43, 32, 45, 45, 32, 38, 32, 42, 32, 43, 32, 45, 32, 126, 32, 33, 32, 47, 32, 37, 32, 60, 60, 32, 62, 62, 32, 60, 32, 62, 32, 60, 61, 32, 62, 61, 32, 61, 61, 32, 33, 61, 32, 94, 32, 124, 32, 38, 38, 32, 124, 124, 32, 63, 32, 58, 32, 59, 32, 46, 46, 46, 32, 61, 32, 42, 61, 32, 47, 61, 32, 37, 61, 32, 43, 61, 32, 45, 61, 32, 60, 60, 61, 32, 62, 62, 61, 32, 38, 61, 32, 94, 61, 32, 124, 61, 32, 44, 32, 35, 32, 35, 35, 32, 60, 58, 32, 58, 62, 32, 60, 37, 32, 37, 62, 32, 37, 58, 32, 37, 58, 37, 58, 32]⟩ : ByteArray).extract k (k + W.size)).data.toList = (allL.drop k).take W.size := by rw [ex_list, show k + W.size - k = W.size by omega]; rfl
              cases hm : (((⟨#[32, 91, 32, 93, 32, 40, 32, 41, 32, 123, 32, 125, 32, 46, 32, 45, 62, 32, 43, 43, 32, 45, 45, 32, 38, 32, 42, 32, 43, 32, 45, 32, 126, 32, 33, 32, 47, 32, 37, 32, 60, 60, 32, 62, 62, 32, 60, 32, 62, 32, 60, 61, 32, 62, 61, 32, 61, 61, 32, 33, 61, 32, 94, 32, 124, 32, 38, 38, 32, 124, 124, 32, 63, 32, 58, 32, 59, 32, 46, 46, 46, 32, 61, 32, 42, 61, 32, 47, 61, 32, 37, 61, 32, 43, 61, 32, 45, 61, 32, 60, 60, 61, 32, 62, 62, 61, 32, 38, 61, 32, 94, 61, 32, 124, 61, 32, 44, 32, 35, 32, 35, 35, 32, 60, 58, 32, 58, 62, 32, 60, 37, 32, 37, 62, 32, 37, 58, 32, 37, 58, 37, 58, 32]⟩ : ByteArray).extract k (k + W.size)).toList == W.toList) with
              | true =>
                have HN : Hid (isPunctB s.data.toList = true) := Lib.hid (by
                  rw [ByteArray.toList_eq, ByteArray.toList_eq, hx, HWL.out, HS.out] at hm
                  have h7 := eq_of_beq hm
                  refine all_only k (by have := HS.out; omega) s.size (by omega) _ ?_ h7 HC.out (fun e => h0 ((size_list s).symm.trans (congrArg List.length e)))
                  have h8 := congrArg (fun l => (l.drop 1).take s.size) h7
                  simp only [wOf, List.drop_succ_cons, List.drop_zero] at h8
                  have h10 : List.take s.size s.data.toList = s.data.toList := List.take_of_length_le (by rw [size_list]; exact Nat.le_refl _)
                  rw [List.take_append_of_le_length (by rw [size_list]; exact Nat.le_refl _), h10] at h8
                  rw [← h8, List.drop_take, List.take_take, List.drop_drop, show min s.size (s.size + 2 - 1) = s.size by omega])
                clear HE hx
                go_wp2
                go_ret
                exact ⟨rb (by rw [HN.out]), rfl⟩
              | false =>
                have HN : Hid (∀ i < k + 1, (allL.drop i).take W.size ≠ wOf s.data.toList) := Lib.hid (fun i hi h => by
                  by_cases e : i = k
                  · subst e
                    rw [ByteArray.toList_eq, ByteArray.toList_eq, hx, HWL.out, h] at hm
                    simp at hm
                  · exact HE.out i (by omega) h)
                clear HE hx
                go_wp2
                go_round
                case rel => exact ⟨k + 1, by have := HS.out; omega, by go_num, HN⟩
                case measure => simp [intOf]; have := HS.out; omega
            · have b3 : ¬ (k : Int) + (W.size : Int) ≤ 143 := by omega
              have HN : Hid (isPunctB s.data.toList = false) := Lib.hid (by
                cases hp : isPunctB s.data.toList with
                | false => rfl
                | true =>
                  obtain ⟨i, h8, h9⟩ := all_has _ (List.contains_iff_mem.1 hp)
                  rw [wOf_len, size_list, ← HS.out] at h8 h9
                  exact absurd h9 (HE.out i (by omega)))
              clear HE
              go_wp2
              go_ret
              exact ⟨rb (by rw [HN.out]), rfl⟩

end Go.Proofs.YtenmapahigbbeaaGreat

namespace Go.Proofs.YtenmapahigbbeaaGreat
open Go.RowKit

/-- The kind of a text that is a token of the kinds 1 to 5 or 9; 0: it is none. -/
def kindR (x : List UInt8) : Nat :=
  if x == [10] then 9 else if wordB x then 1 else if numF x then 2 else if litB 39 1 x chPre then 3 else if litB 34 0 x stPre then 4 else if isPunctB x then 5 else 0

theorem chB4_get : ∀ (j : Nat) T, chB4[j]? = some T → (#[Value.string ⟨#[]⟩, .string ⟨#[117]⟩, .string ⟨#[85]⟩, .string ⟨#[76]⟩] : Array Value)[j]? = some (.string T) := by
  intro j T h
  match j, h with
  | 0, h => cases h; rfl
  | 1, h => cases h; rfl
  | 2, h => cases h; rfl
  | 3, h => cases h; rfl
  | j + 4, h => simp [chB4] at h
theorem stB5_get : ∀ (j : Nat) T, stB5[j]? = some T → (#[Value.string ⟨#[]⟩, .string ⟨#[117, 56]⟩, .string ⟨#[117]⟩, .string ⟨#[85]⟩, .string ⟨#[76]⟩] : Array Value)[j]? = some (.string T) := by
  intro j T h
  match j, h with
  | 0, h => cases h; rfl
  | 1, h => cases h; rfl
  | 2, h => cases h; rfl
  | 3, h => cases h; rfl
  | 4, h => cases h; rfl
  | j + 5, h => simp [stB5] at h

theorem lit3 (s : ByteArray) (w : World) (hs : s.size ≤ 2000) :
    Calls Tryz.prog 79 #[.string s, .int .u8 39, .slice (some ⟨w.heap.size, 0, none⟩) 4 4] (w.alloc (.cells #[.string ⟨#[]⟩, .string ⟨#[117]⟩, .string ⟨#[85]⟩, .string ⟨#[76]⟩] 9)) fun e w' => e = .returned (.bool (litB 39 1 s.data.toList chPre)) ∧ Below w.heap.size w w' :=
  (rIsLiteral_any s 39 1 chB4 w.heap.size 4 _ (by unfold maxLen; omega) (.inl ⟨rfl, rfl⟩) rfl (by decide) (fun j T h => mcells j _ (chB4_get j T h)) (by decide)).mono (by rintro e w' ⟨rfl, m, rfl⟩; exact ⟨rfl, below_drewN ((Below.refl _ _).alloc (Nat.le_refl _) _) _⟩)
theorem lit4 (s : ByteArray) (w : World) (hs : s.size ≤ 2000) :
    Calls Tryz.prog 79 #[.string s, .int .u8 34, .slice (some ⟨w.heap.size, 0, none⟩) 5 5] (w.alloc (.cells #[.string ⟨#[]⟩, .string ⟨#[117, 56]⟩, .string ⟨#[117]⟩, .string ⟨#[85]⟩, .string ⟨#[76]⟩] 9)) fun e w' => e = .returned (.bool (litB 34 0 s.data.toList stPre)) ∧ Below w.heap.size w w' :=
  (rIsLiteral_any s 34 0 stB5 w.heap.size 5 _ (by unfold maxLen; omega) (.inr ⟨rfl, rfl⟩) rfl (by decide) (fun j T h => mcells j _ (stB5_get j T h)) (by decide)).mono (by rintro e w' ⟨rfl, m, rfl⟩; exact ⟨rfl, below_drewN ((Below.refl _ _).alloc (Nat.le_refl _) _) _⟩)

set_option maxRecDepth 100000 in
set_option maxHeartbeats 1000000 in
theorem rKind_any (s : ByteArray) (w : World) (hs : s.size ≤ 2000) :
    Calls Tryz.prog 74 #[.string s] w fun e w' => e = .returned (.int .i64 (kindR s.data.toList : Nat)) ∧ Below w.heap.size w w' := by
  have hsm : s.size ≤ maxLen := by unfold maxLen; omega
  have CW := fun w => rIsWord_any s w hsm
  have CN := fun w => rIsNumber_any _ s (Nat.le_refl _) w hsm
  have C3 := fun w => lit3 s w hs
  have C4 := fun w => lit4 s w hs
  have C5 := fun w => rIsPunct_any s w hs
  have HK : Hid (kindR s.data.toList = if (s.toList == [10]) = true then 9 else if wordB s.data.toList then 1 else if numF s.data.toList then 2 else if litB 39 1 s.data.toList chPre then 3 else if litB 34 0 s.data.toList stPre then 4 else if isPunctB s.data.toList then 5 else 0) := Lib.hid (by rw [ByteArray.toList_eq]; rfl)
  generalize kindR s.data.toList = K at HK ⊢
  generalize wordB s.data.toList = c1 at HK CW
  generalize numF s.data.toList = c2 at HK CN
  generalize litB 39 1 s.data.toList chPre = c3 at HK C3
  generalize litB 34 0 s.data.toList stPre = c4 at HK C4
  generalize isPunctB s.data.toList = c5 at HK C5
  cases h0 : (s.toList == [10])
  · cases c1
    · cases c2
      · cases c3
        · cases c4
          · cases c5
            · have HK2 : Hid (K = 0) := Lib.hid (by rw [HK.out]; simp [h0])
              clear HK
              go_enter Tryz.func74, Tryz.ntmps74
              go_wp2_with fail
              refine (CW _).mono ?_
              rintro e w' ⟨rfl, rfl⟩
              go_wp2_with fail
              refine (CN _).mono ?_
              rintro e w' ⟨rfl, rfl⟩
              go_wp2_with fail
              refine (C3 _).mono ?_
              rintro e w3 ⟨rfl, b3⟩
              go_wp2_with fail
              refine (C4 _).mono ?_
              rintro e w4 ⟨rfl, b4⟩
              go_wp2_with fail
              refine (C5 _).mono ?_
              rintro e w' ⟨rfl, rfl⟩
              go_wp2
              go_ret
              exact ⟨ri (by rw [HK2.out]; rfl), b3.trans (b4.mono b3.size)⟩
            · have HK2 : Hid (K = 5) := Lib.hid (by rw [HK.out]; simp [h0])
              clear HK
              go_enter Tryz.func74, Tryz.ntmps74
              go_wp2_with fail
              refine (CW _).mono ?_
              rintro e w' ⟨rfl, rfl⟩
              go_wp2_with fail
              refine (CN _).mono ?_
              rintro e w' ⟨rfl, rfl⟩
              go_wp2_with fail
              refine (C3 _).mono ?_
              rintro e w3 ⟨rfl, b3⟩
              go_wp2_with fail
              refine (C4 _).mono ?_
              rintro e w4 ⟨rfl, b4⟩
              go_wp2_with fail
              refine (C5 _).mono ?_
              rintro e w' ⟨rfl, rfl⟩
              go_wp2
              go_ret
              exact ⟨ri (by rw [HK2.out]; rfl), b3.trans (b4.mono b3.size)⟩
          · have HK2 : Hid (K = 4) := Lib.hid (by rw [HK.out]; simp [h0])
            clear HK
            go_enter Tryz.func74, Tryz.ntmps74
            go_wp2_with fail
            refine (CW _).mono ?_
            rintro e w' ⟨rfl, rfl⟩
            go_wp2_with fail
            refine (CN _).mono ?_
            rintro e w' ⟨rfl, rfl⟩
            go_wp2_with fail
            refine (C3 _).mono ?_
            rintro e w3 ⟨rfl, b3⟩
            go_wp2_with fail
            refine (C4 _).mono ?_
            rintro e w4 ⟨rfl, b4⟩
            go_wp2
            go_ret
            exact ⟨ri (by rw [HK2.out]; rfl), b3.trans (b4.mono b3.size)⟩
        · have HK2 : Hid (K = 3) := Lib.hid (by rw [HK.out]; simp [h0])
          clear HK
          go_enter Tryz.func74, Tryz.ntmps74
          go_wp2_with fail
          refine (CW _).mono ?_
          rintro e w' ⟨rfl, rfl⟩
          go_wp2_with fail
          refine (CN _).mono ?_
          rintro e w' ⟨rfl, rfl⟩
          go_wp2_with fail
          refine (C3 _).mono ?_
          rintro e w3 ⟨rfl, b3⟩
          go_wp2
          go_ret
          exact ⟨ri (by rw [HK2.out]; rfl), b3⟩
      · have HK2 : Hid (K = 2) := Lib.hid (by rw [HK.out]; simp [h0])
        clear HK
        go_enter Tryz.func74, Tryz.ntmps74
        go_wp2_with fail
        refine (CW _).mono ?_
        rintro e w' ⟨rfl, rfl⟩
        go_wp2_with fail
        refine (CN _).mono ?_
        rintro e w' ⟨rfl, rfl⟩
        go_wp2
        go_ret
        exact ⟨ri (by rw [HK2.out]; rfl), Below.refl _ _⟩
    · have HK2 : Hid (K = 1) := Lib.hid (by rw [HK.out]; simp [h0])
      clear HK
      go_enter Tryz.func74, Tryz.ntmps74
      go_wp2_with fail
      refine (CW _).mono ?_
      rintro e w' ⟨rfl, rfl⟩
      go_wp2
      go_ret
      exact ⟨ri (by rw [HK2.out]; rfl), Below.refl _ _⟩
  · have HK2 : Hid (K = 9) := Lib.hid (by rw [HK.out]; simp [h0])
    clear HK
    go_enter Tryz.func74, Tryz.ntmps74
    go_wp2
    go_ret
    exact ⟨ri (by rw [HK2.out]; rfl), Below.refl _ _⟩

end Go.Proofs.YtenmapahigbbeaaGreat

namespace Go.Proofs.YtenmapahigbbeaaGreat
open Go.RowKit

set_option maxHeartbeats 2000000 in
theorem rnamed_any (s : ByteArray) (w : World) (hs : s.size ≤ maxLen) (h0 : 0 < s.size) :
    Calls Tryz.prog 67 #[.string s] w fun e w' => e = .returned (.int .i64 (headerLen s.data.toList : Nat)) ∧ w = w' := by
  unfold maxLen at hs
  have HH := Lib.hid (header_at h0)
  have h0i : (0 : Int) < (s.size : Int) := by omega
  by_cases h1 : s[0] = 34
  · have HL : Hid (headerLen s.data.toList = headOf (closeAt 34 s 1)) := Lib.hid (by rw [HH.out, if_pos (by simp [h1])])
    have e0 : (s[0].toNat : Int) = 34 := by rw [h1]; rfl
    clear h1 HH
    go_enter Tryz.func67, Tryz.ntmps67
    go_wp2
    go_loop [4] (fun i => ∃ k : Nat, 1 ≤ k ∧ k ≤ s.size ∧ i = .int .i64 k ∧ Hid (closeAt 34 s 1 = (closeAt 34 s k).map (· + (k - 1)))) (fun i => s.size - (intOf i).toNat)
    case atStart => exact ⟨1, Nat.le_refl _, h0, rfl, Lib.hid (by rw [Nat.sub_self, mapAdd0])⟩
    case round =>
      obtain ⟨k, hk1, hk, rfl, HE⟩ := hrel
      by_cases hlt : k < s.size
      · cases h3 : (s[k] == 10) with
        | true =>
          have HN : Hid (headerLen s.data.toList = 0) := Lib.hid (by rw [HL.out, HE.out, close_nl hlt h3]; rfl)
          have b3 : ((s[k].toNat : Int) != 10) = false := by rw [eq_of_beq h3]; rfl
          clear HE HL h3
          go_wp2
          go_ret
          exact ⟨ri (by rw [HN.out]; rfl), rfl⟩
        | false =>
          have b3 : ((s[k].toNat : Int) != 10) = true := by rw [bne_iff_ne]; exact fun h => (beq_eq_false_iff_ne.1 h3) (u8_int.2 h)
          cases h4 : (s[k] == 34) with
          | true =>
            have HN : Hid (headerLen s.data.toList = k + 1) := Lib.hid (by rw [HL.out, HE.out, close_hit hlt h3 h4]; show 0 + (k - 1) + 2 = k + 1; omega)
            have b4 : ((s[k].toNat : Int) == 34) = true := by rw [eq_of_beq h4]; rfl
            clear HE HL h3 h4
            go_wp2
            go_ret
            exact ⟨ri (by rw [HN.out]; rfl), rfl⟩
          | false =>
            have HN := Lib.hid (HE.out.trans (by rw [close_step hlt h3 h4, mapAdd2, show 1 + (k - 1) = k + 1 - 1 by omega] : _ = (closeAt 34 s (k + 1)).map (· + (k + 1 - 1))))
            have b4 : ((s[k].toNat : Int) == 34) = false := beq_eq_false_iff_ne.2 (fun h => (beq_eq_false_iff_ne.1 h4) (u8_int.2 h))
            clear HE h3 h4
            go_wp2
            go_round
            case rel => exact ⟨k + 1, by omega, by omega, by go_num, HN⟩
            case measure => simp [intOf]; omega
      · have HN : Hid (headerLen s.data.toList = 0) := Lib.hid (by rw [HL.out, HE.out, close_end (by omega)]; rfl)
        go_wp2
        go_ret
        exact ⟨ri (by rw [HN.out]; rfl), rfl⟩
  · by_cases h2 : s[0] = 60
    · have HL : Hid (headerLen s.data.toList = headOf (closeAt 62 s 1)) := Lib.hid (by rw [HH.out, if_neg (by simp [h2]), if_pos (by simp [h2])])
      have e0 : (s[0].toNat : Int) = 60 := by rw [h2]; rfl
      clear h1 h2 HH
      go_enter Tryz.func67, Tryz.ntmps67
      go_wp2
      go_loop [4] (fun i => ∃ k : Nat, 1 ≤ k ∧ k ≤ s.size ∧ i = .int .i64 k ∧ Hid (closeAt 62 s 1 = (closeAt 62 s k).map (· + (k - 1)))) (fun i => s.size - (intOf i).toNat)
      case atStart => exact ⟨1, Nat.le_refl _, h0, rfl, Lib.hid (by rw [Nat.sub_self, mapAdd0])⟩
      case round =>
        obtain ⟨k, hk1, hk, rfl, HE⟩ := hrel
        by_cases hlt : k < s.size
        · cases h3 : (s[k] == 10) with
          | true =>
            have HN : Hid (headerLen s.data.toList = 0) := Lib.hid (by rw [HL.out, HE.out, close_nl hlt h3]; rfl)
            have b3 : ((s[k].toNat : Int) != 10) = false := by rw [eq_of_beq h3]; rfl
            clear HE HL h3
            go_wp2
            go_ret
            exact ⟨ri (by rw [HN.out]; rfl), rfl⟩
          | false =>
            have b3 : ((s[k].toNat : Int) != 10) = true := by rw [bne_iff_ne]; exact fun h => (beq_eq_false_iff_ne.1 h3) (u8_int.2 h)
            cases h4 : (s[k] == 62) with
            | true =>
              have HN : Hid (headerLen s.data.toList = k + 1) := Lib.hid (by rw [HL.out, HE.out, close_hit hlt h3 h4]; show 0 + (k - 1) + 2 = k + 1; omega)
              have b4 : ((s[k].toNat : Int) == 62) = true := by rw [eq_of_beq h4]; rfl
              clear HE HL h3 h4
              go_wp2
              go_ret
              exact ⟨ri (by rw [HN.out]; rfl), rfl⟩
            | false =>
              have HN := Lib.hid (HE.out.trans (by rw [close_step hlt h3 h4, mapAdd2, show 1 + (k - 1) = k + 1 - 1 by omega] : _ = (closeAt 62 s (k + 1)).map (· + (k + 1 - 1))))
              have b4 : ((s[k].toNat : Int) == 62) = false := beq_eq_false_iff_ne.2 (fun h => (beq_eq_false_iff_ne.1 h4) (u8_int.2 h))
              clear HE h3 h4
              go_wp2
              go_round
              case rel => exact ⟨k + 1, by omega, by omega, by go_num, HN⟩
              case measure => simp [intOf]; omega
        · have HN : Hid (headerLen s.data.toList = 0) := Lib.hid (by rw [HL.out, HE.out, close_end (by omega)]; rfl)
          go_wp2
          go_ret
          exact ⟨ri (by rw [HN.out]; rfl), rfl⟩
    · have HL : Hid (headerLen s.data.toList = 0) := Lib.hid (by rw [HH.out, if_neg (by simp [h1]), if_neg (by simp [h2])])
      have b1 : ((s[0].toNat : Int) != 34) = true := by rw [bne_iff_ne]; exact fun h => h1 (u8_int.2 h)
      have b2 : ((s[0].toNat : Int) != 60) = true := by rw [bne_iff_ne]; exact fun h => h2 (u8_int.2 h)
      clear h1 h2 HH
      go_enter Tryz.func67, Tryz.ntmps67
      go_wp2
      go_ret
      exact ⟨ri (by rw [HL.out]; rfl), rfl⟩

end Go.Proofs.YtenmapahigbbeaaGreat

namespace Go.Proofs.YtenmapahigbbeaaGreat
open Go.RowKit

/-- How many bytes a comment at the beginning has; 0: there is none; -1: it does not end. -/
def remR (l : List UInt8) : Int := if isComment l then (if commentLen l = 0 then -1 else (commentLen l : Nat)) else 0
theorem two_at {s : ByteArray} (h : 2 ≤ s.size) : s.data.toList = s[0] :: s[1] :: s.data.toList.drop 2 := by
  have h0 := data_drop s 0 (by omega)
  have h1 := data_drop s 1 (by omega)
  rw [h1, List.drop_zero] at h0
  exact h0
theorem rem_short {s : ByteArray} (h : s.size < 2) : remR s.data.toList = 0 := by
  unfold remR
  rw [if_neg]
  intro hc
  rw [isComment, Bool.or_eq_true] at hc
  rcases hc with hc | hc <;> (have := (List.isPrefixOf_iff_prefix.1 hc).length_le; rw [size_list] at this; simp at this; omega)
theorem rem_no {s : ByteArray} (h : 2 ≤ s.size) (h1 : s[0] ≠ 47 ∨ (s[1] ≠ 47 ∧ s[1] ≠ 42)) : remR s.data.toList = 0 := by
  unfold remR
  rw [two_at h, isComment_cons, if_neg]
  rcases h1 with h1 | h1
  · simp [h1]
  · simp [h1.1, h1.2]
theorem rem_line {s : ByteArray} (h : 2 ≤ s.size) (h0 : s[0] = 47) (h1 : s[1] = 47) : remR s.data.toList = ((2 + runLen notNl (s.data.toList.drop 2) : Nat) : Int) := by
  have hc : isComment s.data.toList = true := by rw [two_at h, isComment_cons, h0, h1]; rfl
  have hl : commentLen s.data.toList = 2 + runLen notNl (s.data.toList.drop 2) := by
    unfold commentLen
    rw [if_pos]
    rw [two_at h, h0, h1]; rfl
  unfold remR
  rw [if_pos hc, hl, if_neg (by omega)]
def remC : Option Nat → Int
  | some n => (n : Int) + 4
  | none => -1
theorem rem_star {s : ByteArray} (h : 2 ≤ s.size) (h0 : s[0] = 47) (h1 : s[1] = 42) : remR s.data.toList = remC (closeC (s.data.toList.drop 2)) := by
  have hc : isComment s.data.toList = true := by rw [two_at h, isComment_cons, h0, h1]; rfl
  have hl : commentLen s.data.toList = match closeC (s.data.toList.drop 2) with | some n => n + 4 | none => 0 := by
    unfold commentLen
    rw [if_neg (show ¬ [47, 47].isPrefixOf s.data.toList = true by rw [two_at h, h0, h1]; simp [List.isPrefixOf])]
    cases closeC (s.data.toList.drop 2) <;> rfl
  unfold remR
  rw [if_pos hc, hl]
  cases closeC (s.data.toList.drop 2) <;> rfl
def closeS (s : ByteArray) (k : Nat) : Option Nat := closeC (s.data.toList.drop k)
theorem cs_end {s : ByteArray} {k : Nat} (h : s.size ≤ k + 1) : closeS s k = none := by
  unfold closeS
  rcases Nat.lt_or_ge k s.size with h1 | h1
  · rw [data_drop s k h1, List.drop_eq_nil_of_le (by rw [size_list]; exact h), closeC_cons]; simp [closeC]
  · rw [List.drop_eq_nil_of_le (by rw [size_list]; exact h1), closeC]
theorem cs_hit {s : ByteArray} {k : Nat} (h : k + 1 < s.size) (h1 : s[k] = 42) (h2 : s[k + 1] = 47) : closeS s k = some 0 := by
  unfold closeS
  rw [data_drop s k (by omega), data_drop s (k + 1) h, closeC_cons, if_pos (by simp [h1, h2])]
theorem cs_step {s : ByteArray} {k : Nat} (h : k + 1 < s.size) (h1 : s[k] ≠ 42 ∨ s[k + 1] ≠ 47) : closeS s k = (closeS s (k + 1)).map (· + 1) := by
  unfold closeS
  rw [data_drop s k (by omega), closeC_cons, if_neg]
  rw [data_drop s (k + 1) h]
  rcases h1 with h1 | h1 <;> simp [h1]

set_option maxHeartbeats 2000000 in
theorem rremark_any (s : ByteArray) (w : World) (hs : s.size ≤ maxLen) :
    Calls Tryz.prog 68 #[.string s] w fun e w' => e = .returned (.int .i64 (remR s.data.toList)) ∧ w = w' := by
  unfold maxLen at hs
  by_cases hz : s.size < 2
  · have HN := Lib.hid (rem_short hz)
    have b0 : (s.size : Int) < 2 := by omega
    clear hz
    go_enter Tryz.func68, Tryz.ntmps68
    go_wp2
    go_ret
    exact ⟨ri (by rw [HN.out]), rfl⟩
  · have hz2 : 2 ≤ s.size := by omega
    have b0 : ¬ (s.size : Int) < 2 := by omega
    have i0 : (0 : Int) < (s.size : Int) := by omega
    have i1 : (1 : Int) < (s.size : Int) := by omega
    by_cases h0 : s[0] = 47
    · have e0 : (s[0].toNat : Int) = 47 := by rw [h0]; rfl
      by_cases h1 : s[1] = 47
      · have HL := Lib.hid (rem_line hz2 h0 h1)
        have e1 : (s[1].toNat : Int) = 47 := by rw [h1]; rfl
        clear h0 h1
        go_enter Tryz.func68, Tryz.ntmps68
        go_wp2
        go_loop [3] (fun i => ∃ k : Nat, 2 ≤ k ∧ k ≤ s.size ∧ i = .int .i64 k ∧ Hid (runLen notNl (s.data.toList.drop 2) = (k - 2) + runLen notNl (s.data.toList.drop k))) (fun i => s.size - (intOf i).toNat)
        case atStart => exact ⟨2, Nat.le_refl _, hz2, rfl, Lib.hid (by simp)⟩
        case round =>
          obtain ⟨k, hk2, hk, rfl, HE⟩ := hrel
          by_cases hlt : k < s.size
          · by_cases h3 : s[k] = 10
            · have HN : Hid (remR s.data.toList = (k : Int)) := Lib.hid (by
                have h4 : notNl s[k] = false := by rw [h3]; rfl
                rw [HL.out, HE.out, runLen_no hlt h4]; omega)
              have b3 : ((s[k].toNat : Int) == 10) = true := by rw [h3]; rfl
              clear HE HL h3
              go_wp2
              go_ret
              exact ⟨ri (by rw [HN.out]), rfl⟩
            · have h4 : notNl s[k] = true := by unfold notNl; simp [h3]
              have HN := Lib.hid (HE.out.trans (show _ = (k + 1 - 2) + runLen notNl (s.data.toList.drop (k + 1)) by rw [runLen_yes hlt h4]; omega))
              have b3 : ((s[k].toNat : Int) == 10) = false := beq_eq_false_iff_ne.2 (fun h => h3 (u8_int.2 h))
              clear HE h3 h4
              go_wp2
              go_round
              case rel => exact ⟨k + 1, by omega, by omega, by go_num, HN⟩
              case measure => simp [intOf]; omega
          · have HN : Hid (remR s.data.toList = (s.size : Int)) := Lib.hid (by
              rw [HL.out, HE.out, runLen_end (by omega)]; omega)
            go_wp2
            go_ret
            exact ⟨ri (by rw [HN.out]), rfl⟩
      · by_cases h2 : s[1] = 42
        · have HL := Lib.hid (rem_star hz2 h0 h2)
          have e1 : (s[1].toNat : Int) = 42 := by rw [h2]; rfl
          clear h0 h1 h2
          go_enter Tryz.func68, Tryz.ntmps68
          go_wp2
          go_loop [3] (fun i => ∃ k : Nat, 2 ≤ k ∧ k ≤ s.size ∧ i = .int .i64 k ∧ ((k = 2 ∧ Hid (remR s.data.toList = remC (closeS s 2))) ∨ (2 < k ∧ Hid (closeS s 2 = (closeS s (k - 1)).map (· + (k - 3)))))) (fun i => s.size - (intOf i).toNat)
          case atStart => exact ⟨2, Nat.le_refl _, hz2, rfl, .inl ⟨rfl, HL⟩⟩
          case round =>
            obtain ⟨k, hk2, hk, rfl, HE⟩ := hrel
            by_cases hlt : k < s.size
            · rcases HE with ⟨rfl, HE⟩ | ⟨hk3, HE⟩
              · go_wp2
                go_round
                case rel => exact ⟨3, by omega, by omega, by go_num, .inr ⟨by omega, Lib.hid (by rw [mapAdd0])⟩⟩
                case measure => simp [intOf]; omega
              · obtain ⟨j, rfl⟩ : ∃ j, k = j + 1 := ⟨k - 1, by omega⟩
                have b5 : (2 : Int) < (j : Int) + 1 := by omega
                have v1 : wrap64 ((j : Int) + 1 - 1) = (j : Int) := by rw [show (j : Int) + 1 - 1 = (j : Int) by omega]; exact IntWalk.wrap64_in _ (by omega)
                have v2 : (j : Int) < (s.size : Int) := by omega
                have v3 : (j : Int) + 1 < (s.size : Int) := by omega
                have v4 : ((j : Int) + 1).toNat = j + 1 := by omega
                have v5 : (0 : Int) ≤ (j : Int) + 1 := by omega
                have v6 : (0 : Int) ≤ (j : Int) := by omega
                have v7 : (j : Int) + 1 - 1 = (j : Int) := by omega
                by_cases h3 : s[j + 1] = 47
                · have b3 : ((s[j + 1].toNat : Int) == 47) = true := by rw [h3]; rfl
                  by_cases h4 : s[j] = 42
                  · have HN : Hid (remR s.data.toList = (j : Int) + 1 + 1) := Lib.hid (by
                      have h5 := HE.out
                      rw [show j + 1 - 1 = j from rfl, cs_hit hlt h4 h3] at h5
                      rw [HL.out, show closeC (s.data.toList.drop 2) = closeS s 2 from rfl, h5]
                      show ((0 + (j + 1 - 3) : Nat) : Int) + 4 = _
                      omega)
                    have b4 : ((s[j].toNat : Int) == 42) = true := by rw [h4]; rfl
                    clear HE HL h3 h4
                    go_wp2
                    go_ret
                    exact ⟨ri (by rw [HN.out]), rfl⟩
                  · have HN := Lib.hid (HE.out.trans (show _ = (closeS s (j + 1 + 1 - 1)).map (· + (j + 1 + 1 - 3)) by rw [show j + 1 - 1 = j from rfl, cs_step hlt (.inl h4), mapAdd2, show 1 + (j + 1 - 3) = j + 1 + 1 - 3 by omega]; rfl))
                    have b4 : ((s[j].toNat : Int) == 42) = false := beq_eq_false_iff_ne.2 (fun h => h4 (u8_int.2 h))
                    clear HE h3 h4
                    go_wp2
                    go_round
                    case rel => exact ⟨j + 1 + 1, by omega, by omega, by go_num, .inr ⟨by omega, HN⟩⟩
                    case measure => simp [intOf]; omega
                · have HN := Lib.hid (HE.out.trans (show _ = (closeS s (j + 1 + 1 - 1)).map (· + (j + 1 + 1 - 3)) by rw [show j + 1 - 1 = j from rfl, cs_step hlt (.inr h3), mapAdd2, show 1 + (j + 1 - 3) = j + 1 + 1 - 3 by omega]; rfl))
                  have b3 : ((s[j + 1].toNat : Int) == 47) = false := beq_eq_false_iff_ne.2 (fun h => h3 (u8_int.2 h))
                  clear HE h3
                  go_wp2
                  go_round
                  case rel => exact ⟨j + 1 + 1, by omega, by omega, by go_num, .inr ⟨by omega, HN⟩⟩
                  case measure => simp [intOf]; omega
            · have HN : Hid (remR s.data.toList = -1) := Lib.hid (by
                rcases HE with ⟨h5, HE⟩ | ⟨hk3, HE⟩
                · rw [HE.out, cs_end (by omega)]; rfl
                · rw [HL.out, show closeC (s.data.toList.drop 2) = closeS s 2 from rfl, HE.out, cs_end (by omega)]; rfl)
              clear HE
              go_wp2
              go_ret
              exact ⟨ri (by rw [HN.out]), rfl⟩
        · have HN := Lib.hid (rem_no hz2 (.inr ⟨h1, h2⟩))
          have b1 : ((s[1].toNat : Int) != 47) = true := by rw [bne_iff_ne]; exact fun h => h1 (u8_int.2 h)
          have b2 : ((s[1].toNat : Int) != 42) = true := by rw [bne_iff_ne]; exact fun h => h2 (u8_int.2 h)
          clear h0 h1 h2
          go_enter Tryz.func68, Tryz.ntmps68
          go_wp2
          go_ret
          exact ⟨ri (by rw [HN.out]), rfl⟩
    · have HN := Lib.hid (rem_no hz2 (.inl h0))
      have b1 : ((s[0].toNat : Int) != 47) = true := by rw [bne_iff_ne]; exact fun h => h0 (u8_int.2 h)
      clear h0
      go_enter Tryz.func68, Tryz.ntmps68
      go_wp2
      go_ret
      exact ⟨ri (by rw [HN.out]), rfl⟩

end Go.Proofs.YtenmapahigbbeaaGreat
