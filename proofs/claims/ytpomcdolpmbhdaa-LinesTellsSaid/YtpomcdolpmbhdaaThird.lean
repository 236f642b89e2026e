/- phys.Third and the reference's Third: what they answer at every byte. -/
import Derived.Test.YtpomcdolpmbhdaaShelf
import Derived.Test.YtpomcdolpmbhdaaSpec
import Derived.WalkKit
import Derived.WalkSpells
import Derived.WalkLawsBesides
namespace Go.Proofs.Ytpomcdolpmbhdaa
open Go.RowKit

theorem all_u8 (p : UInt8 → Bool) (h : (List.range 256).all (fun n => p (UInt8.ofNat n)) = true) (c : UInt8) : p c = true := by
  have h1 := List.all_eq_true.1 h c.toNat (List.mem_range.2 c.toNat_lt)
  simpa using h1

def thirdCase (c : UInt8) : Bool :=
  c == 61 || c == 47 || c == 39 || c == 40 || c == 41 || c == 33 || c == 60 || c == 62 || c == 45 ||
    (decide (Lib.indexByte [61, 47, 39, 40, 41, 33, 60, 62, 45] c = -1) && decide (third c = none))

theorem third_cases (c : UInt8) : c = 61 ∨ c = 47 ∨ c = 39 ∨ c = 40 ∨ c = 41 ∨ c = 33 ∨ c = 60 ∨ c = 62 ∨ c = 45 ∨
    (Lib.indexByte [61, 47, 39, 40, 41, 33, 60, 62, 45] c = -1 ∧ third c = none) := by
  have h := all_u8 thirdCase (by decide +kernel) c
  simpa [thirdCase, Bool.or_eq_true, or_assoc] using h

theorem toNat_u8 (c : UInt8) : ((c.toNat : Int).toNat).toUInt8 = c := by simp

/-- strings.IndexByte over the third bytes, its answer laid. -/
theorem ib_at (c : UInt8) (k : Int) (w : World) (h : Lib.indexByte [61, 47, 39, 40, 41, 33, 60, 62, 45] c = k) :
    Calls Try.prog 70 #[.string ⟨#[61, 47, 39, 40, 41, 33, 60, 62, 45]⟩, .int .u8 c.toNat] w fun e w' => e = .returned (.int .i64 k) ∧ w = w' := by
  refine (Try.strings_IndexByte _ _ w).mono ?_
  rintro e w' ⟨rfl, rfl⟩
  rw [toNat_u8]
  exact ⟨by rw [← h], rfl⟩

set_option maxHeartbeats 400000 in
theorem third_none (c : UInt8) (w : World) (h : Lib.indexByte [61, 47, 39, 40, 41, 33, 60, 62, 45] c = -1) :
    Calls Try.prog 81 #[.int .u8 c.toNat] w fun e w' => e = .returned (.tuple #[.int .u8 0, .bool false]) ∧ w = w' := by
  have H := ib_at c (-1) w h
  clear h
  go_enter Try.func81, Try.ntmps81
  go_wp2_with (go_at_call 70; refine H.mono ?_; rintro e w' ⟨rfl, rfl⟩)
  go_ret2
  exact ⟨rfl, rfl⟩

set_option maxHeartbeats 400000 in
theorem third_some (c : UInt8) (k : Nat) (b : UInt8) (w : World) (h : Lib.indexByte [61, 47, 39, 40, 41, 33, 60, 62, 45] c = k) (hk : k < 9) (hb : [35, 92, 94, 91, 93, 124, 123, 125, 126][k]? = some b) :
    Calls Try.prog 81 #[.int .u8 c.toNat] w fun e w' => e = .returned (.tuple #[.int .u8 b.toNat, .bool true]) ∧ w = w' := by
  have H := ib_at c k w h
  clear h
  go_enter Try.func81, Try.ntmps81
  go_wp2_with (go_at_call 70; refine H.mono ?_; rintro e w' ⟨rfl, rfl⟩)
  go_ret2
  have hbb : (⟨#[35, 92, 94, 91, 93, 124, 123, 125, 126]⟩ : ByteArray)[k]'(by show k < 9; exact hk) = b := by
    have h2 : [35, 92, 94, 91, 93, 124, 123, 125, 126][k]'(by simpa using hk) = b := by
      rw [List.getElem?_eq_getElem (by simpa using hk)] at hb
      exact Option.some.inj hb
    rw [← h2]; rfl
  refine ⟨?_, rfl⟩
  rw [← hbb]
  rfl

/-- phys.Third AT EVERY BYTE. -/
theorem third_any (c : UInt8) (w : World) :
    Calls Try.prog 81 #[.int .u8 c.toNat] w fun e w' => e = .returned (.tuple #[.int .u8 (thirdOf c).toNat, .bool (isThird c)]) ∧ w = w' := by
  rcases third_cases c with rfl | rfl | rfl | rfl | rfl | rfl | rfl | rfl | rfl | ⟨h1, h2⟩
  · exact third_some 61 0 35 w (by decide) (by decide) rfl
  · exact third_some 47 1 92 w (by decide) (by decide) rfl
  · exact third_some 39 2 94 w (by decide) (by decide) rfl
  · exact third_some 40 3 91 w (by decide) (by decide) rfl
  · exact third_some 41 4 93 w (by decide) (by decide) rfl
  · exact third_some 33 5 124 w (by decide) (by decide) rfl
  · exact third_some 60 6 123 w (by decide) (by decide) rfl
  · exact third_some 62 7 125 w (by decide) (by decide) rfl
  · exact third_some 45 8 126 w (by decide) (by decide) rfl
  · have := third_none c w h1
    simpa [thirdOf, isThird, h2] using this

theorem eq_u8 {c : UInt8} (k : UInt8) (h : ((c.toNat : Int) == (k.toNat : Int)) = true) : c = k := by
  have := eq_of_beq h
  exact UInt8.toNat_inj.1 (by omega)
theorem ne_u8 {c : UInt8} (k : UInt8) (h : ((c.toNat : Int) == (k.toNat : Int)) = false) : ¬ c = k := by
  rintro rfl
  simp at h

end Go.Proofs.Ytpomcdolpmbhdaa
