/- Several texts laid together. -/
import Derived.Test.YtaodjipnffgihaaGreatProg
import Derived.Test.YtaodjipnffgihaaGreatMzA
import Derived.WalkKit
import Derived.WalkSpells
import Derived.WalkLawsBesides

namespace Go.Proofs.YtaodjipnffgihaaGreat
open Go.RowKit

theorem rb {a b : Bool} (h : a = b) : Ending.returned (.bool a) = .returned (.bool b) := by rw [h]
theorem u8eq (c : UInt8) (k : Nat) (hk : k < 256) : (c == UInt8.ofNat k) = decide ((c.toNat : Int) = k) := by
  rw [Bool.eq_iff_iff, beq_iff_eq, decide_eq_true_iff]
  constructor
  · rintro rfl; simp; omega
  · intro h; exact UInt8.toNat_inj.1 (by simp; omega)
theorem u8le (c : UInt8) (k : Nat) (hk : k < 256) : decide (c ≤ UInt8.ofNat k) = decide ((c.toNat : Int) ≤ k) := by
  rw [Bool.eq_iff_iff, decide_eq_true_iff, decide_eq_true_iff, UInt8.le_iff_toNat_le]
  simp; omega
theorem u8ge (c : UInt8) (k : Nat) (hk : k < 256) : decide (UInt8.ofNat k ≤ c) = decide ((k : Int) ≤ (c.toNat : Int)) := by
  rw [Bool.eq_iff_iff, decide_eq_true_iff, decide_eq_true_iff, UInt8.le_iff_toNat_le]
  simp; omega

theorem b_eq {c : UInt8} (k : UInt8) (h : ((c.toNat : Int) == (k.toNat : Int)) = true) : (c == k) = true := by
  have := eq_of_beq h
  exact beq_iff_eq.2 (UInt8.toNat_inj.1 (by omega))
theorem b_ne {c : UInt8} (k : UInt8) (h : ((c.toNat : Int) == (k.toNat : Int)) = false) : (c == k) = false := by
  rw [beq_eq_false_iff_ne]
  rintro rfl
  simp at h
theorem p_eq {c : UInt8} (k : UInt8) (h : (c.toNat : Int) = (k.toNat : Int)) : (c == k) = true := b_eq k (beq_iff_eq.2 h)
theorem p_ne {c : UInt8} (k : UInt8) (h : ¬ (c.toNat : Int) = (k.toNat : Int)) : (c == k) = false := b_ne k (by rw [beq_eq_false_iff_ne]; exact h)
theorem bt (b : Bool) (h : b = true) (h2 : b = false) : False := by rw [h] at h2; cases h2

theorem isLet_int (c : UInt8) : isLet c = decide ((97 ≤ (c.toNat : Int) ∧ (c.toNat : Int) ≤ 122) ∨ (65 ≤ (c.toNat : Int) ∧ (c.toNat : Int) ≤ 90) ∨ (c.toNat : Int) = 95) := by
  have h := u8ge c 97 (by omega); have h2 := u8le c 122 (by omega); have h3 := u8ge c 65 (by omega); have h4 := u8le c 90 (by omega); have h5 := u8eq c 95 (by omega)
  unfold isLet
  rw [show decide ((97 : UInt8) ≤ c) = _ from h, show decide (c ≤ (122 : UInt8)) = _ from h2, show decide ((65 : UInt8) ≤ c) = _ from h3, show decide (c ≤ (90 : UInt8)) = _ from h4, show (c == (95 : UInt8)) = _ from h5]
  simp [Bool.or_assoc]
theorem isDig_int (c : UInt8) : isDig c = decide (48 ≤ (c.toNat : Int) ∧ (c.toNat : Int) ≤ 57) := by
  have h := u8ge c 48 (by omega); have h2 := u8le c 57 (by omega)
  unfold isDig
  rw [show decide ((48 : UInt8) ≤ c) = _ from h, show decide (c ≤ (57 : UInt8)) = _ from h2]
  simp
theorem isExp_int (c : UInt8) : isExp c = decide ((c.toNat : Int) = 101 ∨ (c.toNat : Int) = 69 ∨ (c.toNat : Int) = 112 ∨ (c.toNat : Int) = 80) := by
  have h := u8eq c 101 (by omega); have h2 := u8eq c 69 (by omega); have h3 := u8eq c 112 (by omega); have h4 := u8eq c 80 (by omega)
  unfold isExp
  rw [show (c == (101 : UInt8)) = _ from h, show (c == (69 : UInt8)) = _ from h2, show (c == (112 : UInt8)) = _ from h3, show (c == (80 : UInt8)) = _ from h4]
  simp [Bool.or_assoc]
theorem isSgn_int (c : UInt8) : isSgn c = decide ((c.toNat : Int) = 43 ∨ (c.toNat : Int) = 45) := by
  have h := u8eq c 43 (by omega); have h2 := u8eq c 45 (by omega)
  unfold isSgn
  rw [show (c == (43 : UInt8)) = _ from h, show (c == (45 : UInt8)) = _ from h2]
  simp
theorem isWS_int (c : UInt8) : isWS c = decide ((c.toNat : Int) = 32 ∨ (c.toNat : Int) = 9 ∨ (c.toNat : Int) = 11 ∨ (c.toNat : Int) = 12) := by
  have h := u8eq c 32 (by omega); have h2 := u8eq c 9 (by omega); have h3 := u8eq c 11 (by omega); have h4 := u8eq c 12 (by omega)
  unfold isWS
  rw [show (c == (32 : UInt8)) = _ from h, show (c == (9 : UInt8)) = _ from h2, show (c == (11 : UInt8)) = _ from h3, show (c == (12 : UInt8)) = _ from h4]
  simp [Bool.or_assoc]

set_option maxHeartbeats 400000 in
theorem isLetter_any (c : UInt8) (w : World) :
    Calls Tryz.prog 123 #[.int .u8 c.toNat] w fun e w' => e = .returned (.bool (isLet c)) ∧ w = w' := by
  go_enter Tryz.func123, Tryz.ntmps123
  go_wp2
  all_goals
    go_ret
    refine ⟨rb ?_, rfl⟩
    rw [isLet_int, Bool.eq_iff_iff]
    simp
    try omega

set_option maxHeartbeats 400000 in
theorem isDigit_any (c : UInt8) (w : World) :
    Calls Tryz.prog 124 #[.int .u8 c.toNat] w fun e w' => e = .returned (.bool (isDig c)) ∧ w = w' := by
  go_enter Tryz.func124, Tryz.ntmps124
  go_wp2
  all_goals
    go_ret
    refine ⟨rb ?_, rfl⟩
    rw [isDig_int, Bool.eq_iff_iff]
    simp
    try omega

set_option maxHeartbeats 400000 in
theorem isExponent_any (c : UInt8) (w : World) :
    Calls Tryz.prog 126 #[.int .u8 c.toNat] w fun e w' => e = .returned (.bool (isExp c)) ∧ w = w' := by
  go_enter Tryz.func126, Tryz.ntmps126
  go_wp2
  all_goals
    go_ret
    refine ⟨rb ?_, rfl⟩
    rw [isExp_int, Bool.eq_iff_iff]
    simp
    try omega

set_option maxHeartbeats 400000 in
theorem isSign_any (c : UInt8) (w : World) :
    Calls Tryz.prog 127 #[.int .u8 c.toNat] w fun e w' => e = .returned (.bool (isSgn c)) ∧ w = w' := by
  go_enter Tryz.func127, Tryz.ntmps127
  go_wp2
  all_goals
    go_ret
    refine ⟨rb ?_, rfl⟩
    rw [isSgn_int, Bool.eq_iff_iff]
    simp
    try omega

set_option maxHeartbeats 400000 in
theorem isWhiteSpace_any (c : UInt8) (w : World) :
    Calls Tryz.prog 93 #[.int .u8 c.toNat] w fun e w' => e = .returned (.bool (isWS c)) ∧ w = w' := by
  go_enter Tryz.func93, Tryz.ntmps93
  go_wp2
  all_goals
    go_ret
    refine ⟨rb ?_, rfl⟩
    rw [isWS_int, Bool.eq_iff_iff]
    simp
    try omega

end Go.Proofs.YtaodjipnffgihaaGreat

namespace Go.Proofs.YtaodjipnffgihaaGreat
open Go.RowKit

set_option maxHeartbeats 400000 in
theorem rletter_any (c : UInt8) (w : World) :
    Calls Tryz.prog 110 #[.int .u8 c.toNat] w fun e w' => e = .returned (.bool (isLet c)) ∧ w = w' := by
  go_enter Tryz.func110, Tryz.ntmps110
  go_wp2
  all_goals
    go_ret
    refine ⟨rb ?_, rfl⟩
    rw [isLet_int, Bool.eq_iff_iff]
    simp
    try omega

set_option maxHeartbeats 400000 in
theorem rdigit_any (c : UInt8) (w : World) :
    Calls Tryz.prog 111 #[.int .u8 c.toNat] w fun e w' => e = .returned (.bool (isDig c)) ∧ w = w' := by
  go_enter Tryz.func111, Tryz.ntmps111
  go_wp2
  all_goals
    go_ret
    refine ⟨rb ?_, rfl⟩
    rw [isDig_int, Bool.eq_iff_iff]
    simp
    try omega

set_option maxHeartbeats 400000 in
theorem rsign_any (c : UInt8) (w : World) :
    Calls Tryz.prog 112 #[.int .u8 c.toNat] w fun e w' => e = .returned (.bool (isSgn c)) ∧ w = w' := by
  go_enter Tryz.func112, Tryz.ntmps112
  go_wp2
  all_goals
    go_ret
    refine ⟨rb ?_, rfl⟩
    rw [isSgn_int, Bool.eq_iff_iff]
    simp
    try omega

set_option maxHeartbeats 400000 in
theorem rexpo_any (c : UInt8) (w : World) :
    Calls Tryz.prog 113 #[.int .u8 c.toNat] w fun e w' => e = .returned (.bool (isExp c)) ∧ w = w' := by
  go_enter Tryz.func113, Tryz.ntmps113
  go_wp2
  all_goals
    go_ret
    refine ⟨rb ?_, rfl⟩
    rw [isExp_int, Bool.eq_iff_iff]
    simp
    try omega

set_option maxHeartbeats 400000 in
theorem rwhite_any (c : UInt8) (w : World) :
    Calls Tryz.prog 63 #[.int .u8 c.toNat] w fun e w' => e = .returned (.bool (isWS c)) ∧ w = w' := by
  go_enter Tryz.func63, Tryz.ntmps63
  go_wp2
  all_goals
    go_ret
    refine ⟨rb ?_, rfl⟩
    rw [isWS_int, Bool.eq_iff_iff]
    simp
    try omega

end Go.Proofs.YtaodjipnffgihaaGreat
