/- ctok's integer constants. -/
import Derived.Test.YtenmapahigbbeaaCtM
import Derived.Test.YtenmapahigbbeaaQuot
import Derived.Test.YtenmapahigbbeaaComm
namespace Go.Proofs.Ytenmapahigbbeaa
open Go.RowKit Go.Shelf

set_option maxHeartbeats 1000000 in
theorem countDigits_any (s : ByteArray) (b : Nat) (w : World) (hs : s.size ≤ maxLen) (hb : 0 < b) (hb2 : b ≤ 16) :
    Calls Try.prog 51 #[.string s, .int .u64 b] w fun e w' => e = .returned (.int .i64 ((digitsC b s.data.toList).length : Nat)) ∧ Below w.heap.size w w' := by
  have C := fun w => ctNum_any s b 18446744073709551615 w hs hb hb2 (by decide) (Nat.le_refl _)
  go_enter Try.func51, Try.ntmps51
  go_wp2_with (go_at_call 25; refine (C _).mono ?_; rintro e w1 ⟨rfl, hb1⟩)
  go_ret
  exact ⟨rfl, hb1⟩

/-! ### The sign of a base -/
def hexB (l : List UInt8) : Bool := [48, 120].isPrefixOf l || [48, 88].isPrefixOf l
theorem base_hex {l : List UInt8} (h : hexB l = true) : baseC l = (16, l.drop 2) ∧ 2 ≤ l.length := by
  unfold hexB at h
  rw [Bool.or_eq_true] at h
  rcases h with h | h
  · obtain ⟨t, rfl⟩ := List.isPrefixOf_iff_prefix.1 h
    exact ⟨rfl, by simp⟩
  · obtain ⟨t, rfl⟩ := List.isPrefixOf_iff_prefix.1 h
    exact ⟨rfl, by simp⟩
theorem base_eight {l : List UInt8} (h : hexB l = false) (h2 : [48].isPrefixOf l = true) : baseC l = (8, l) := by
  obtain ⟨t, rfl⟩ := List.isPrefixOf_iff_prefix.1 h2
  cases t with
  | nil => rfl
  | cons c t =>
    unfold baseC
    rw [List.cons_append, List.nil_append, List.head?_cons, if_pos rfl, List.tail_cons, List.head?_cons, if_neg]
    simp only [Option.some.injEq]
    rintro (rfl | rfl)
    · exact absurd h (by simp [hexB])
    · exact absurd h (by simp [hexB])
theorem base_else {l : List UInt8} (h2 : [48].isPrefixOf l = false) : baseC l = (10, l) := by
  unfold baseC
  rw [if_neg]
  intro h
  cases l with
  | nil => cases h
  | cons c l =>
    have e : c = 48 := by simpa using h
    subst e
    simp at h2
theorem hex_zero {l : List UInt8} (h : [48].isPrefixOf l = false) : hexB l = false := by
  cases l with
  | nil => rfl
  | cons c l =>
    have : (48 == c) = false := by simpa [List.isPrefixOf] using h
    unfold hexB
    simp [List.isPrefixOf, this]

theorem rsu {s d : ByteArray} {b c : Nat} (h : s = d) (h2 : b = c) : Ending.returned (.tuple #[.string s, .int .u64 b]) = .returned (.tuple #[.string d, .int .u64 c]) := by rw [h, h2]
theorem rsb {s d : ByteArray} {b c : Bool} (h : s = d) (h2 : b = c) : Ending.returned (.tuple #[.string s, .bool b]) = .returned (.tuple #[.string d, .bool c]) := by rw [h, h2]

set_option maxHeartbeats 1000000 in
theorem cutHex_any (s : ByteArray) (w : World) (hs : s.size ≤ maxLen) :
    Calls Try.prog 36 #[.string s] w fun e w' => e = .returned (.tuple #[.string (if hexB s.data.toList then s.extract 2 s.size else s), .bool (hexB s.data.toList)]) ∧ w = w' := by
  unfold maxLen at hs
  have C1 := fun w => hasPre_any s ⟨#[48, 120]⟩ w
  have C2 := fun w => hasPre_any s ⟨#[48, 88]⟩ w
  have HS := Lib.hid (fun h => (base_hex (l := s.data.toList) h).2)
  have HB : Hid (hexB s.data.toList = (Lib.hasPrefix s.data.toList [48, 120] || Lib.hasPrefix s.data.toList [48, 88])) := Lib.hid rfl
  rw [show (⟨#[48, 120]⟩ : ByteArray).data.toList = [48, 120] from rfl] at C1
  rw [show (⟨#[48, 88]⟩ : ByteArray).data.toList = [48, 88] from rfl] at C2
  generalize hexB s.data.toList = x at *
  cases e1 : Lib.hasPrefix s.data.toList [48, 120] with
  | true =>
    rw [e1] at HB C1
    obtain rfl : x = true := by rw [HB.out]; rfl
    have h2 := HS.out rfl
    rw [size_list] at h2
    clear C2 HB e1
    go_enter Try.func36, Try.ntmps36
    go_wp2_with (go_at_call 43; refine (C1 _).mono ?_; rintro e w' ⟨rfl, rfl⟩)
    go_ret2
    exact ⟨rsb rfl rfl, rfl⟩
  | false =>
    rw [e1] at HB C1
    cases e2 : Lib.hasPrefix s.data.toList [48, 88] with
    | true =>
      rw [e2] at HB C2
      obtain rfl : x = true := by rw [HB.out]; rfl
      have h2 := HS.out rfl
      rw [size_list] at h2
      clear HB e1 e2
      go_enter Try.func36, Try.ntmps36
      go_wp2_with fail
      refine (C1 _).mono ?_
      rintro e w' ⟨rfl, rfl⟩
      go_wp2_with fail
      refine (C2 _).mono ?_
      rintro e w' ⟨rfl, rfl⟩
      go_wp2
      go_ret2
      exact ⟨rsb rfl rfl, rfl⟩
    | false =>
      rw [e2] at HB C2
      obtain rfl : x = false := by rw [HB.out]; rfl
      clear HB e1 e2 HS
      go_enter Try.func36, Try.ntmps36
      go_wp2_with fail
      refine (C1 _).mono ?_
      rintro e w' ⟨rfl, rfl⟩
      go_wp2_with fail
      refine (C2 _).mono ?_
      rintro e w' ⟨rfl, rfl⟩
      go_wp2
      go_ret2
      exact ⟨rsb rfl rfl, rfl⟩

set_option maxHeartbeats 1000000 in
theorem cutBase_any (s : ByteArray) (w : World) (hs : s.size ≤ maxLen) :
    Calls Try.prog 24 #[.string s] w fun e w' => (∃ d : ByteArray, e = .returned (.tuple #[.string d, .int .u64 ((baseC s.data.toList).1 : Nat)]) ∧ d.data.toList = (baseC s.data.toList).2 ∧ d.size ≤ s.size) ∧ w = w' := by
  have C1 := fun w => cutHex_any s w hs
  have C2 := fun w => hasPre_any s ⟨#[48]⟩ w
  rw [show (⟨#[48]⟩ : ByteArray).data.toList = [48] from rfl] at C2
  cases e1 : hexB s.data.toList with
  | true =>
    rw [e1, if_pos rfl] at C1
    have HB := Lib.hid (base_hex e1).1
    clear e1
    go_enter Try.func24, Try.ntmps24
    go_wp2_with (go_at_call 36; refine (C1 _).mono ?_; rintro e w' ⟨rfl, rfl⟩)
    go_ret2
    exact ⟨⟨s.extract 2 s.size, rsu rfl (by rw [HB.out]), by rw [HB.out]; exact extract_end s 2, by rw [ByteArray.size_extract]; omega⟩, rfl⟩
  | false =>
    rw [e1, if_neg (by decide)] at C1
    cases e2 : Lib.hasPrefix s.data.toList [48] with
    | true =>
      rw [e2] at C2
      have HB := Lib.hid (base_eight e1 e2)
      clear e1 e2
      go_enter Try.func24, Try.ntmps24
      go_wp2_with (first | (go_at_call 36; refine (C1 _).mono ?_; rintro e w' ⟨rfl, rfl⟩) | (go_at_call 43; refine (C2 _).mono ?_; rintro e w' ⟨rfl, rfl⟩))
      go_ret2
      exact ⟨⟨s, rsu rfl (by rw [HB.out]), by rw [HB.out], Nat.le_refl _⟩, rfl⟩
    | false =>
      rw [e2] at C2
      have HB := Lib.hid (base_else e2)
      clear e1 e2
      go_enter Try.func24, Try.ntmps24
      go_wp2_with (first | (go_at_call 36; refine (C1 _).mono ?_; rintro e w' ⟨rfl, rfl⟩) | (go_at_call 43; refine (C2 _).mono ?_; rintro e w' ⟨rfl, rfl⟩))
      go_ret2
      exact ⟨⟨s, rsu rfl (by rw [HB.out]), by rw [HB.out], Nat.le_refl _⟩, rfl⟩

end Go.Proofs.Ytenmapahigbbeaa
