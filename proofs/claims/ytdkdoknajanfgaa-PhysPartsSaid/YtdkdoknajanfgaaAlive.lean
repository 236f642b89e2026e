/- The statements' own 'alive'. -/
import Derived.Test.YtdkdoknajanfgaaLogical
namespace Go.Proofs.Ytdkdoknajanfgaa
open Go.RowKit

def partsFuel : Nat → List UInt8 → Nat → List Part
  | 0, _, _ => []
  | f + 1, l, k => if k < l.length then partAt l k :: partsFuel f l (k + partN (l.drop k)) else []

theorem partsFrom_fuel (l : List UInt8) : ∀ (f k : Nat), l.length - k ≤ f → partsFrom l k = partsFuel f l k
  | 0, k, h => by rw [partsFrom, dif_neg (by omega)]; rfl
  | f + 1, k, h => by
    rw [partsFrom]
    unfold partsFuel
    by_cases hk : k < l.length
    · have hp := partN_pos (l.drop k)
      rw [dif_pos hk, if_pos hk, partsFrom_fuel l f _ (by omega)]
    · rw [dif_neg hk, if_neg hk]

theorem parts_fuel (l : List UInt8) : parts l = partsFuel l.length l 0 := partsFrom_fuel l _ 0 (by omega)

theorem alive_check : checkN [97, 63, 63, 61, 92, 10, 98, 10] = 0 := by
  unfold checkN wellB; rw [parts_fuel]; decide +kernel
theorem alive_logical : logicalOf [97, 63, 63, 61, 92, 10, 98, 10] = [97, 35, 98, 10] := by
  rw [logicalOf_ok alive_check, parts_fuel]; decide +kernel

set_option maxHeartbeats 400000 in
theorem alive_any (w : World) :
    Calls Try.prog 24 #[] w fun e w' => e = .returned (.bool true) ∧ Below w.heap.size w w' := by
  have H := (logical_any ⟨#[97, 63, 63, 61, 92, 10, 98, 10]⟩ w (by unfold maxLen; decide))
  rw [show (⟨#[97, 63, 63, 61, 92, 10, 98, 10]⟩ : ByteArray).data.toList = [97, 63, 63, 61, 92, 10, 98, 10] from rfl, alive_check, alive_logical] at H
  have HH := Lib.hid H
  clear H
  go_enter Try.func24, Try.ntmps24
  go_wp2_with (go_at_call 12; refine HH.out.mono ?_; rintro e w1 ⟨rfl, hb1⟩)
  go_ret
  exact ⟨rfl, hb1⟩

end Go.Proofs.Ytdkdoknajanfgaa
