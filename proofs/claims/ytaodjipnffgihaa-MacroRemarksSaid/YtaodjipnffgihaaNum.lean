/- scan.number. -/
import Derived.Test.YtaodjipnffgihaaRun
import Derived.Test.YtaodjipnffgihaaShelf
import Derived.Deep.LoopGhost
namespace Go.Proofs.Ytaodjipnffgihaa
open Go.RowKit

theorem nt_two {s : ByteArray} {k : Nat} (h : k + 1 < s.size) (h1 : isExp s[k] = true) (h2 : isSgn s[k + 1] = true) : numTail (s.data.toList.drop k) = numTail (s.data.toList.drop (k + 2)) + 2 := by
  rw [data_drop s k (by omega), data_drop s (k + 1) h, numTail, if_pos (by rw [h1, h2]; rfl)]
def notTwo (s : ByteArray) (k : Nat) : Prop := ∀ h : k + 1 < s.size, isExp s[k] = true → isSgn s[k + 1] = true → False
theorem nt_else {s : ByteArray} {k : Nat} (h : k < s.size) (hn : notTwo s k) : numTail (s.data.toList.drop k) = if isNum s[k] then numTail (s.data.toList.drop (k + 1)) + 1 else 0 := by
  rw [data_drop s k h]
  by_cases h2 : k + 1 < s.size
  · rw [data_drop s (k + 1) h2, numTail, if_neg]
    intro h3
    rw [Bool.and_eq_true] at h3
    exact hn h2 h3.1 h3.2
  · rw [List.drop_eq_nil_of_le (by rw [size_list]; omega), numTail]
    simp [numTail]
theorem nt_one {s : ByteArray} {k : Nat} (h : k < s.size) (hn : notTwo s k) (h1 : isNum s[k] = true) : numTail (s.data.toList.drop k) = numTail (s.data.toList.drop (k + 1)) + 1 := by
  rw [nt_else h hn, if_pos h1]
theorem nt_no {s : ByteArray} {k : Nat} (h : k < s.size) (hn : notTwo s k) (h1 : isNum s[k] = false) : numTail (s.data.toList.drop k) = 0 := by
  rw [nt_else h hn, if_neg (by rw [h1]; decide)]
theorem nt_end {s : ByteArray} {k : Nat} (h : s.size ≤ k) : numTail (s.data.toList.drop k) = 0 := by
  rw [List.drop_eq_nil_of_le (by rw [size_list]; exact h), numTail]

theorem ntA {s : ByteArray} {k : Nat} (hk : k < s.size) (h : ¬ isExp s[k] = true) : notTwo s k := fun _ h1 _ => h h1
theorem ntB {s : ByteArray} {k : Nat} (h : (s.size : Int) ≤ (k : Int) + 1) : notTwo s k := fun _ _ _ => by omega
theorem ntC {s : ByteArray} {k : Nat} (hk : k + 1 < s.size) (h : isSgn s[k + 1] = false) : notTwo s k := fun _ _ h2 => bt _ h2 h
theorem nD {c : UInt8} (h : isDig c = true) : isNum c = true := by unfold isNum; rw [h]; rfl
theorem nL {c : UInt8} (h : isLet c = true) : isNum c = true := by unfold isNum; rw [h, Bool.or_true]; rfl
theorem nP {c : UInt8} (h : ((c.toNat : Int) == 46) = true) : isNum c = true := by unfold isNum; rw [b_eq 46 h, Bool.or_true]
theorem nN {c : UInt8} (h : isDig c = false) (h2 : isLet c = false) (h3 : ((c.toNat : Int) == 46) = false) : isNum c = false := by unfold isNum; rw [h, h2, b_ne 46 h3]; rfl

theorem numTail_le : ∀ l : List UInt8, numTail l ≤ l.length
  | [] => Nat.le_refl _
  | [c] => by simp only [numTail]; split <;> simp
  | c :: d :: r => by
    have h1 := numTail_le r
    have h2 := numTail_le (d :: r)
    simp only [numTail]
    simp only [List.length_cons] at *
    split
    · omega
    · split <;> omega

/-- What is left behind a point. -/
def restOf (s : ByteArray) : ByteArray := ⟨(Lib.trimPrefix s.data.toList [46]).toArray⟩
theorem restOf_list (s : ByteArray) : (restOf s).data.toList = Lib.trimPrefix s.data.toList [46] := by simp [restOf]
theorem restOf_size {s : ByteArray} : (restOf s).size ≤ s.size ∧ s.size ≤ (restOf s).size + 1 := by
  rw [← size_list, ← size_list, restOf_list, Lib.trimPrefix]
  split
  · rw [List.length_drop]; simp only [List.length_cons, List.length_nil]; omega
  · omega
theorem numStart_rest {s : ByteArray} : numStart s.data.toList = match (restOf s).data.toList with | [] => 0 | d :: _ => if isDig d then s.size - (restOf s).size + 1 else 0 := by
  rw [← size_list s, ← size_list (restOf s), restOf_list]
  generalize s.data.toList = l
  match l with
  | [] => simp [numStart, Lib.trimPrefix, Lib.hasPrefix]
  | c :: r =>
    by_cases hc : c = 46
    · subst hc
      have : Lib.trimPrefix (46 :: r) [46] = r := by simp [Lib.trimPrefix, Lib.hasPrefix]
      rw [this]
      match r with
      | [] => decide
      | d :: r => simp [numStart, show isDig 46 = false by decide]
    · have : Lib.trimPrefix (c :: r) [46] = c :: r := by
        have h2 : Lib.hasPrefix (c :: r) [46] = false := by
          show (46 == c && _) = false
          rw [beq_eq_false_iff_ne.2 (Ne.symm hc)]; rfl
        simp [Lib.trimPrefix, h2]
      rw [this]
      simp [numStart, hc]
theorem num_none {s : ByteArray} (h : (restOf s).size = 0) : numLen s.data.toList = 0 := by
  have h2 : (restOf s).data.toList = [] := List.length_eq_zero_iff.1 (by rw [size_list]; exact h)
  have h3 : numStart s.data.toList = 0 := by rw [numStart_rest, h2]
  rw [numLen, if_pos h3]
theorem num_not {s : ByteArray} (h : 0 < (restOf s).size) (hd : isDig (restOf s)[0] = false) : numLen s.data.toList = 0 := by
  have h2 := data_drop (restOf s) 0 h
  rw [List.drop_zero] at h2
  have h3 : numStart s.data.toList = 0 := by rw [numStart_rest, h2]; simp [hd]
  rw [numLen, if_pos h3]
theorem num_yes {s : ByteArray} (h : 0 < (restOf s).size) (hd : isDig (restOf s)[0] = true) : numLen s.data.toList = (s.size - (restOf s).size + 1) + numTail (s.data.toList.drop (s.size - (restOf s).size + 1)) := by
  have h2 := data_drop (restOf s) 0 h
  rw [List.drop_zero] at h2
  have h3 : numStart s.data.toList = s.size - (restOf s).size + 1 := by rw [numStart_rest, h2]; simp [hd]
  rw [numLen, if_neg (by rw [h3]; exact Nat.succ_ne_zero _), h3]

theorem trim_any (s : ByteArray) (w : World) : Calls Try.prog 100 #[.string s, .string ⟨#[46]⟩] w fun e w' => e = .returned (.string (restOf s)) ∧ w = w' :=
  (Try.strings_TrimPrefix s ⟨#[46]⟩ w).mono fun _ _ ⟨h, h2⟩ => ⟨h, h2.symm⟩

set_option maxHeartbeats 1000000 in
theorem number_any (s : ByteArray) (w : World) (hs : s.size ≤ maxLen) (h0 : 0 < s.size) :
    Calls Try.prog 92 #[.string s] w fun e w' => e = .returned (.int .i64 (numLen s.data.toList : Nat)) ∧ w = w' := by
  unfold maxLen at hs
  have HT := fun w => trim_any s w
  have hr1 := (restOf_size (s := s)).1
  have hr2 := (restOf_size (s := s)).2
  by_cases hr0 : (restOf s).size = 0
  · have HL := Lib.hid (num_none hr0)
    have he : (restOf s).toList = [] := by rw [ByteArray.toList_eq]; exact List.length_eq_zero_iff.1 hr0
    generalize restOf s = r at *
    go_enter Try.func92, Try.ntmps92
    go_wp2
    go_step3
    go_wp2_with (go_at_call 100; refine (HT _).mono ?_; rintro e w' ⟨rfl, rfl⟩)
    rw [Exit.noGoto_ret]
    go_ret
    exact ⟨ri (by rw [HL.out]; rfl), rfl⟩
  · have hr0' : 0 < (restOf s).size := by omega
    have he : (restOf s).toList.isEmpty = false := by
      rw [ByteArray.toList_eq]
      cases h : (restOf s).data.toList with
      | nil => exact absurd (congrArg List.length h) hr0
      | cons a b => rfl
    cases hd : isDig (restOf s)[0] with
    | false =>
      have HL := Lib.hid (num_not hr0' hd)
      have C := fun w => isDigit_any (restOf s)[0] w
      rw [hd] at C
      clear hd
      generalize restOf s = r at *
      go_enter Try.func92, Try.ntmps92
      go_wp2
      go_step3
      go_wp2_with (first | (go_at_call 100; refine (HT _).mono ?_; rintro e w' ⟨rfl, rfl⟩) | (go_at_call 99; refine (C _).mono ?_; rintro e w' ⟨rfl, rfl⟩))
      rw [Exit.noGoto_ret]
      go_ret
      exact ⟨ri (by rw [HL.out]; rfl), rfl⟩
    | true =>
      have HL := Lib.hid (num_yes hr0' hd)
      have C := fun w => isDigit_any (restOf s)[0] w
      rw [hd] at C
      clear hd
      generalize restOf s = r at *
      go_enter Try.func92, Try.ntmps92
      go_wp2
      go_step3
      go_wp2_with (first | (go_at_call 100; refine (HT _).mono ?_; rintro e w' ⟨rfl, rfl⟩) | (go_at_call 99; refine (C _).mono ?_; rintro e w' ⟨rfl, rfl⟩))
      go_step3
      go_wp2
      clear C HT
      go_loop [4, 5, 29, 48] (fun n _ _ _ => ∃ k : Nat, 1 ≤ k ∧ k ≤ s.size ∧ n = .int .i64 k ∧ numLen s.data.toList = k + numTail (s.data.toList.drop k)) (fun n _ _ _ => s.size - (intOf n).toNat)
      case atStart => exact ⟨s.size - r.size + 1, by omega, by omega, by go_num, HL.out⟩
      case round =>
        obtain ⟨k, hk1, hk, rfl, he⟩ := hrel
        have HE := Lib.hid he; clear he HL
        by_cases hlt : k < s.size
        · go_wp2_with (first | (go_at_call 101; refine (isExponent_any _ _).mono ?_; rintro e w' ⟨rfl, rfl⟩) | (go_at_call 102; refine (isSign_any _ _).mono ?_; rintro e w' ⟨rfl, rfl⟩) | (go_at_call 99; refine (isDigit_any _ _).mono ?_; rintro e w' ⟨rfl, rfl⟩) | (go_at_call 98; refine (isLetter_any _ _).mono ?_; rintro e w' ⟨rfl, rfl⟩))
          all_goals first
            | exact (bt _ (by assumption) (by assumption)).elim
            | (have hl2 : k + 1 < s.size := by omega
               have h1 : isExp s[k] = true := by assumption
               have h2 : isSgn (s[k + 1]'hl2) = true := by assumption
               go_round
               case rel => exact ⟨k + 2, by omega, by omega, by go_num, by rw [HE.out, nt_two hl2 h1 h2]; omega⟩
               case measure => simp [intOf]; omega)
            | (have hn : notTwo s k := by first | exact ntA hlt (by assumption) | exact ntB (by assumption) | exact ntC (by omega) (by assumption)
               have h1 : isNum s[k] = true := by first | exact nD (by assumption) | exact nL (by assumption) | exact nP (by assumption)
               go_round
               case rel => exact ⟨k + 1, by omega, by omega, by go_num, by rw [HE.out, nt_one hlt hn h1]; omega⟩
               case measure => simp [intOf]; omega)
            | (have hn : notTwo s k := by first | exact ntA hlt (by assumption) | exact ntB (by assumption) | exact ntC (by omega) (by assumption)
               have h1 : isNum s[k] = false := nN (by assumption) (by assumption) (by assumption)
               rw [Exit.noGoto_ret]
               go_ret
               exact ⟨ri (by rw [HE.out, nt_no hlt hn h1]; rfl), rfl⟩)
        · go_wp2
          try rw [Exit.noGoto_ret]
          go_ret
          exact ⟨ri (by rw [HE.out, nt_end (by omega)]; rfl), rfl⟩

end Go.Proofs.Ytaodjipnffgihaa
