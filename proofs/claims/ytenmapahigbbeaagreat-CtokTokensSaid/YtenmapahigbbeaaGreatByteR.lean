/- The kinds of bytes: the reference's. -/
import Derived.Test.YtenmapahigbbeaaGreatByte
namespace Go.Proofs.YtenmapahigbbeaaGreat
open Go.RowKit

set_option maxHeartbeats 400000 in
theorem rletter_any (c : UInt8) (w : World) :
    Calls Tryz.prog 85 #[.int .u8 c.toNat] w fun e w' => e = .returned (.bool (isLet c)) ∧ w = w' := by
  go_enter Tryz.func85, Tryz.ntmps85
  go_wp2
  all_goals
    go_ret
    refine ⟨rb ?_, rfl⟩
    rw [isLet_int, Bool.eq_iff_iff]
    simp
    try omega

set_option maxHeartbeats 400000 in
theorem rdigit_any (c : UInt8) (w : World) :
    Calls Tryz.prog 86 #[.int .u8 c.toNat] w fun e w' => e = .returned (.bool (isDig c)) ∧ w = w' := by
  go_enter Tryz.func86, Tryz.ntmps86
  go_wp2
  all_goals
    go_ret
    refine ⟨rb ?_, rfl⟩
    rw [isDig_int, Bool.eq_iff_iff]
    simp
    try omega

set_option maxHeartbeats 400000 in
theorem rsign_any (c : UInt8) (w : World) :
    Calls Tryz.prog 87 #[.int .u8 c.toNat] w fun e w' => e = .returned (.bool (isSgn c)) ∧ w = w' := by
  go_enter Tryz.func87, Tryz.ntmps87
  go_wp2
  all_goals
    go_ret
    refine ⟨rb ?_, rfl⟩
    rw [isSgn_int, Bool.eq_iff_iff]
    simp
    try omega

set_option maxHeartbeats 400000 in
theorem rexpo_any (c : UInt8) (w : World) :
    Calls Tryz.prog 88 #[.int .u8 c.toNat] w fun e w' => e = .returned (.bool (isExp c)) ∧ w = w' := by
  go_enter Tryz.func88, Tryz.ntmps88
  go_wp2
  all_goals
    go_ret
    refine ⟨rb ?_, rfl⟩
    rw [isExp_int, Bool.eq_iff_iff]
    simp
    try omega

set_option maxHeartbeats 400000 in
theorem rwhite_any (c : UInt8) (w : World) :
    Calls Tryz.prog 66 #[.int .u8 c.toNat] w fun e w' => e = .returned (.bool (isWS c)) ∧ w = w' := by
  go_enter Tryz.func66, Tryz.ntmps66
  go_wp2
  all_goals
    go_ret
    refine ⟨rb ?_, rfl⟩
    rw [isWS_int, Bool.eq_iff_iff]
    simp
    try omega

end Go.Proofs.YtenmapahigbbeaaGreat
