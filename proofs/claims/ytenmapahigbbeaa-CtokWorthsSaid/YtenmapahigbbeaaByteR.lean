/- The kinds of bytes: the reference's. -/
import Derived.Test.YtenmapahigbbeaaByte
namespace Go.Proofs.Ytenmapahigbbeaa
open Go.RowKit

set_option maxHeartbeats 400000 in
theorem rletter_any (c : UInt8) (w : World) :
    Calls Try.prog 85 #[.int .u8 c.toNat] w fun e w' => e = .returned (.bool (isLet c)) ∧ w = w' := by
  go_enter Try.func85, Try.ntmps85
  go_wp2
  all_goals
    go_ret
    refine ⟨rb ?_, rfl⟩
    rw [isLet_int, Bool.eq_iff_iff]
    simp
    try omega

set_option maxHeartbeats 400000 in
theorem rdigit_any (c : UInt8) (w : World) :
    Calls Try.prog 86 #[.int .u8 c.toNat] w fun e w' => e = .returned (.bool (isDig c)) ∧ w = w' := by
  go_enter Try.func86, Try.ntmps86
  go_wp2
  all_goals
    go_ret
    refine ⟨rb ?_, rfl⟩
    rw [isDig_int, Bool.eq_iff_iff]
    simp
    try omega

set_option maxHeartbeats 400000 in
theorem rsign_any (c : UInt8) (w : World) :
    Calls Try.prog 87 #[.int .u8 c.toNat] w fun e w' => e = .returned (.bool (isSgn c)) ∧ w = w' := by
  go_enter Try.func87, Try.ntmps87
  go_wp2
  all_goals
    go_ret
    refine ⟨rb ?_, rfl⟩
    rw [isSgn_int, Bool.eq_iff_iff]
    simp
    try omega

set_option maxHeartbeats 400000 in
theorem rexpo_any (c : UInt8) (w : World) :
    Calls Try.prog 88 #[.int .u8 c.toNat] w fun e w' => e = .returned (.bool (isExp c)) ∧ w = w' := by
  go_enter Try.func88, Try.ntmps88
  go_wp2
  all_goals
    go_ret
    refine ⟨rb ?_, rfl⟩
    rw [isExp_int, Bool.eq_iff_iff]
    simp
    try omega

set_option maxHeartbeats 400000 in
theorem rwhite_any (c : UInt8) (w : World) :
    Calls Try.prog 63 #[.int .u8 c.toNat] w fun e w' => e = .returned (.bool (isWS c)) ∧ w = w' := by
  go_enter Try.func63, Try.ntmps63
  go_wp2
  all_goals
    go_ret
    refine ⟨rb ?_, rfl⟩
    rw [isWS_int, Bool.eq_iff_iff]
    simp
    try omega

end Go.Proofs.Ytenmapahigbbeaa
