/- The kinds of bytes: the program's and the reference's. -/
import Derived.Test.YtaodjipnffgihaaProg
import Derived.Test.YtaodjipnffgihaaMyA
import Derived.WalkKit
import Derived.WalkSpells
import Derived.WalkLawsBesides
namespace Go.Proofs.Ytaodjipnffgihaa
open Go.RowKit

theorem rb {a b : Bool} (h : a = b) : Ending.returned (.bool a) = .returned (.bool b) := by rw [h]
theorem u8eq (c : UInt8) (k : Nat) (hk : k < 256) : (c == UInt8.ofNat k) = decide ((c.toNat : Int) = k) := by
  rw [Bool.eq_iff_iff, beq_iff_eq, decide_eq_true_iff]
  constructor
  · rintro rfl; simp; omega
  · intro h; exact UInt8.toNat_inj.1 (by simp; omega)
theorem u8le (c : UInt8) (k : Nat) (hk : k < 256) : decide (c ≤ UInt8.ofNat k) = decide ((c.toNat : Int) ≤ k) := by
  rw [Bool.eq_iff_iff, decide_eq_true_iff, decide_eq_true_iff, UInt8.le_iff_toNat_le]
  simp; omega
theorem u8ge (c : UInt8) (k : Nat) (hk : k < 256) : decide (UInt8.ofNat k ≤ c) = decide ((k : Int) ≤ (c.toNat : Int)) := by
  rw [Bool.eq_iff_iff, decide_eq_true_iff, decide_eq_true_iff, UInt8.le_iff_toNat_le]
  simp; omega

theorem b_eq {c : UInt8} (k : UInt8) (h : ((c.toNat : Int) == (k.toNat : Int)) = true) : (c == k) = true := by
  have := eq_of_beq h
  exact beq_iff_eq.2 (UInt8.toNat_inj.1 (by omega))
theorem b_ne {c : UInt8} (k : UInt8) (h : ((c.toNat : Int) == (k.toNat : Int)) = false) : (c == k) = false := by
  rw [beq_eq_false_iff_ne]
  rintro rfl
  simp at h
theorem p_eq {c : UInt8} (k : UInt8) (h : (c.toNat : Int) = (k.toNat : Int)) : (c == k) = true := b_eq k (beq_iff_eq.2 h)
theorem p_ne {c : UInt8} (k : UInt8) (h : ¬ (c.toNat : Int) = (k.toNat : Int)) : (c == k) = false := b_ne k (by rw [beq_eq_false_iff_ne]; exact h)
theorem bt (b : Bool) (h : b = true) (h2 : b = false) : False := by rw [h] at h2; cases h2

theorem isLet_int (c : UInt8) : isLet c = decide ((97 ≤ (c.toNat : Int) ∧ (c.toNat : Int) ≤ 122) ∨ (65 ≤ (c.toNat : Int) ∧ (c.toNat : Int) ≤ 90) ∨ (c.toNat : Int) = 95) := by
  have h := u8ge c 97 (by omega); have h2 := u8le c 122 (by omega); have h3 := u8ge c 65 (by omega); have h4 := u8le c 90 (by omega); have h5 := u8eq c 95 (by omega)
  unfold isLet
  rw [show decide ((97 : UInt8) ≤ c) = _ from h, show decide (c ≤ (122 : UInt8)) = _ from h2, show decide ((65 : UInt8) ≤ c) = _ from h3, show decide (c ≤ (90 : UInt8)) = _ from h4, show (c == (95 : UInt8)) = _ from h5]
  simp [Bool.or_assoc]
theorem isDig_int (c : UInt8) : isDig c = decide (48 ≤ (c.toNat : Int) ∧ (c.toNat : Int) ≤ 57) := by
  have h := u8ge c 48 (by omega); have h2 := u8le c 57 (by omega)
  unfold isDig
  rw [show decide ((48 : UInt8) ≤ c) = _ from h, show decide (c ≤ (57 : UInt8)) = _ from h2]
  simp
theorem isExp_int (c : UInt8) : isExp c = decide ((c.toNat : Int) = 101 ∨ (c.toNat : Int) = 69 ∨ (c.toNat : Int) = 112 ∨ (c.toNat : Int) = 80) := by
  have h := u8eq c 101 (by omega); have h2 := u8eq c 69 (by omega); have h3 := u8eq c 112 (by omega); have h4 := u8eq c 80 (by omega)
  unfold isExp
  rw [show (c == (101 : UInt8)) = _ from h, show (c == (69 : UInt8)) = _ from h2, show (c == (112 : UInt8)) = _ from h3, show (c == (80 : UInt8)) = _ from h4]
  simp [Bool.or_assoc]
theorem isSgn_int (c : UInt8) : isSgn c = decide ((c.toNat : Int) = 43 ∨ (c.toNat : Int) = 45) := by
  have h := u8eq c 43 (by omega); have h2 := u8eq c 45 (by omega)
  unfold isSgn
  rw [show (c == (43 : UInt8)) = _ from h, show (c == (45 : UInt8)) = _ from h2]
  simp
theorem isWS_int (c : UInt8) : isWS c = decide ((c.toNat : Int) = 32 ∨ (c.toNat : Int) = 9 ∨ (c.toNat : Int) = 11 ∨ (c.toNat : Int) = 12) := by
  have h := u8eq c 32 (by omega); have h2 := u8eq c 9 (by omega); have h3 := u8eq c 11 (by omega); have h4 := u8eq c 12 (by omega)
  unfold isWS
  rw [show (c == (32 : UInt8)) = _ from h, show (c == (9 : UInt8)) = _ from h2, show (c == (11 : UInt8)) = _ from h3, show (c == (12 : UInt8)) = _ from h4]
  simp [Bool.or_assoc]

set_option maxHeartbeats 400000 in
theorem isLetter_any (c : UInt8) (w : World) :
    Calls Try.prog 98 #[.int .u8 c.toNat] w fun e w' => e = .returned (.bool (isLet c)) ∧ w = w' := by
  go_enter Try.func98, Try.ntmps98
  go_wp2
  all_goals
    go_ret
    refine ⟨rb ?_, rfl⟩
    rw [isLet_int, Bool.eq_iff_iff]
    simp
    try omega

set_option maxHeartbeats 400000 in
theorem isDigit_any (c : UInt8) (w : World) :
    Calls Try.prog 99 #[.int .u8 c.toNat] w fun e w' => e = .returned (.bool (isDig c)) ∧ w = w' := by
  go_enter Try.func99, Try.ntmps99
  go_wp2
  all_goals
    go_ret
    refine ⟨rb ?_, rfl⟩
    rw [isDig_int, Bool.eq_iff_iff]
    simp
    try omega

set_option maxHeartbeats 400000 in
theorem isExponent_any (c : UInt8) (w : World) :
    Calls Try.prog 101 #[.int .u8 c.toNat] w fun e w' => e = .returned (.bool (isExp c)) ∧ w = w' := by
  go_enter Try.func101, Try.ntmps101
  go_wp2
  all_goals
    go_ret
    refine ⟨rb ?_, rfl⟩
    rw [isExp_int, Bool.eq_iff_iff]
    simp
    try omega

set_option maxHeartbeats 400000 in
theorem isSign_any (c : UInt8) (w : World) :
    Calls Try.prog 102 #[.int .u8 c.toNat] w fun e w' => e = .returned (.bool (isSgn c)) ∧ w = w' := by
  go_enter Try.func102, Try.ntmps102
  go_wp2
  all_goals
    go_ret
    refine ⟨rb ?_, rfl⟩
    rw [isSgn_int, Bool.eq_iff_iff]
    simp
    try omega

set_option maxHeartbeats 400000 in
theorem isWhiteSpace_any (c : UInt8) (w : World) :
    Calls Try.prog 76 #[.int .u8 c.toNat] w fun e w' => e = .returned (.bool (isWS c)) ∧ w = w' := by
  go_enter Try.func76, Try.ntmps76
  go_wp2
  all_goals
    go_ret
    refine ⟨rb ?_, rfl⟩
    rw [isWS_int, Bool.eq_iff_iff]
    simp
    try omega

end Go.Proofs.Ytaodjipnffgihaa
