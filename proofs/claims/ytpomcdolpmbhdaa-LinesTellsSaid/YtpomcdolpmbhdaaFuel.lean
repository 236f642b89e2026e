/- The parts of a text, by a number that bounds them. -/
import Derived.Test.YtpomcdolpmbhdaaSpec
namespace Go.Proofs.Ytpomcdolpmbhdaa

def partsFuel : Nat → List UInt8 → Nat → List Part
  | 0, _, _ => []
  | f + 1, l, k => if k < l.length then partAt l k :: partsFuel f l (k + partN (l.drop k)) else []

theorem partsFrom_fuel (l : List UInt8) : ∀ (f k : Nat), l.length - k ≤ f → partsFrom l k = partsFuel f l k
  | 0, k, h => by rw [partsFrom, dif_neg (by omega)]; rfl
  | f + 1, k, h => by
    rw [partsFrom]
    unfold partsFuel
    by_cases hk : k < l.length
    · have hp := partN_pos (l.drop k)
      rw [dif_pos hk, if_pos hk, partsFrom_fuel l f _ (by omega)]
    · rw [dif_neg hk, if_neg hk]

theorem parts_fuel (l : List UInt8) : parts l = partsFuel l.length l 0 := partsFrom_fuel l _ 0 (by omega)

end Go.Proofs.Ytpomcdolpmbhdaa
