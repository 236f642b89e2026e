/- phys.trigraph; the reference's tri and splice. -/
import Derived.Test.YtpomcdolpmbhdaaThird
import Derived.Test.YtpomcdolpmbhdaaBytes
import Derived.Lib.Hide
namespace Go.Proofs.Ytpomcdolpmbhdaa
open Go.RowKit

theorem trigraph_hit {s : ByteArray} (h : 3 ≤ s.size) (h2 : (!(s.extract 0 2).toList == [63, 63]) = false) : tri s.data.toList = third s[2] := by
  rw [extract02 h] at h2
  simp at h2
  rw [tri0 h, if_pos h2]

theorem trigraph_miss {s : ByteArray} (h : 3 ≤ s.size) (h2 : (!(s.extract 0 2).toList == [63, 63]) = true) : tri s.data.toList = none := by
  rw [extract02 h] at h2
  simp at h2
  rw [tri0 h, if_neg (fun h => by rcases h2 with h2 | h2; exact h2 h.1; exact h2 h.2)]

set_option maxHeartbeats 400000 in
/-- phys.trigraph AT EVERY TEXT. -/
theorem trigraph_any (s : ByteArray) (w : World) (hs : s.size ≤ maxLen) :
    Calls Try.prog 73 #[.string s] w fun e w' => e = .returned (.tuple #[.int .u8 (triOf s.data.toList).toNat, .bool (isTri s.data.toList)]) ∧ w = w' := by
  unfold maxLen at hs
  by_cases h : s.size < 3
  · have ht : tri s.data.toList = none := tri_short (by rw [size_list]; exact h)
    have H := Lib.hid ht; clear ht
    go_enter Try.func73, Try.ntmps73
    go_wp2
    go_ret2
    refine ⟨?_, rfl⟩
    simp [triOf, isTri, H.out]
  · have h' : 3 ≤ s.size := by omega
    go_enter Try.func73, Try.ntmps73
    go_wp2_with (go_at_call 81; refine (third_any _ _).mono ?_; rintro e w' ⟨rfl, rfl⟩)
    · have h2 : (s.size : Int) < 3 ∨ (!(s.extract 0 2).toList == [63, 63]) = true := by assumption
      go_ret2
      refine ⟨?_, rfl⟩
      simp [triOf, isTri, trigraph_miss h' (h2.resolve_left (by omega))]
    · have h2 : 3 ≤ (s.size : Int) ∧ (!(s.extract 0 2).toList == [63, 63]) = false := by assumption
      go_ret2
      refine ⟨?_, rfl⟩
      simp [triOf, isTri, thirdOf, isThird, trigraph_hit h' h2.2]

theorem ret_int {k : IntKind} {a b : Int} (h : a = b) : Ending.returned (.int k a) = .returned (.int k b) := by rw [h]
theorem ret_bool {a b : Bool} (h : a = b) : Ending.returned (.bool a) = .returned (.bool b) := by rw [h]

end Go.Proofs.Ytpomcdolpmbhdaa
