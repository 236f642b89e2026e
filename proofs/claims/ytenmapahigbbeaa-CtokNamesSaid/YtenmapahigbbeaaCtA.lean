/- The statements' own helpers: worth, none, alive. -/
import Derived.Test.YtenmapahigbbeaaCtW
namespace Go.Proofs.Ytenmapahigbbeaa
open Go.RowKit Go.Shelf

set_option maxHeartbeats 1000000 in
/-- worth: what Int answers, held against a value. -/
theorem worth_yes (t : ByteArray) (v : Nat) (u : Bool) (w : World) (hs : t.size ≤ maxLen) (h : intR t.data.toList = (v, u, 0)) :
    Calls Try.prog 15 #[.string t, .int .u64 v, .bool u] w fun e w' => e = .returned (.bool true) ∧ Below w.heap.size w w' := by
  have C := fun w => Int_any t w hs
  simp only [h] at C
  clear h
  go_enter Try.func15, Try.ntmps15
  go_wp2_with (go_at_call 8; refine (C _).mono ?_; rintro e w1 ⟨rfl, hb1⟩)
  all_goals
    go_ret
    first
      | exact ⟨rfl, hb1⟩
      | (refine ⟨rb ?_, hb1⟩; simp)
theorem intR_or (l : List UInt8) : (intR l = (0, false, 40) ∧ intC l = none) ∨ (∃ v u, intR l = (v, u, 0) ∧ intC l ≠ none) := by
  unfold intR
  cases intC l with
  | none => exact .inl ⟨rfl, rfl⟩
  | some p => exact .inr ⟨p.1, p.2, rfl, by simp⟩
set_option maxHeartbeats 1000000 in
theorem none_any (t : ByteArray) (w : World) (hs : t.size ≤ maxLen) :
    Calls Try.prog 16 #[.string t] w fun e w' => e = .returned (.bool (intC t.data.toList).isNone) ∧ Below w.heap.size w w' := by
  have C := fun w => Int_any t w hs
  rcases intR_or t.data.toList with ⟨h, h2⟩ | ⟨v, u, h, h2⟩
  · simp only [h] at C
    rw [h2]
    clear h h2
    go_enter Try.func16, Try.ntmps16
    go_wp2_with (go_at_call 8; refine (C _).mono ?_; rintro e w1 ⟨rfl, hb1⟩)
    go_ret
    exact ⟨rfl, hb1⟩
  · simp only [h] at C
    have h3 : (intC t.data.toList).isNone = false := by
      cases hI : intC t.data.toList with
      | none => exact absurd hI h2
      | some p => rfl
    rw [h3]
    clear h h2 h3
    go_enter Try.func16, Try.ntmps16
    go_wp2_with (go_at_call 8; refine (C _).mono ?_; rintro e w1 ⟨rfl, hb1⟩)
    go_ret
    exact ⟨rfl, hb1⟩

theorem alive_cls : clsR 5 ⟨#[60, 37]⟩ = (7, ⟨#[123]⟩, 0) := by
  have h : clsN 5 ⟨#[60, 37]⟩ = 7 := rfl
  unfold clsR
  rw [h, if_neg (by decide), if_pos rfl]
  have : canB ⟨#[60, 37]⟩ = ⟨#[123]⟩ := by
    unfold canB
    simp only [ByteArray.toList_eq]
    rfl
  rw [this]
theorem alive_int : intR [48, 120, 49, 70] = (31, false, 0) := by decide +kernel

set_option maxRecDepth 100000 in
set_option maxHeartbeats 2000000 in
theorem alive4_any (w : World) (hL : LibVar w) :
    Calls Try.prog 22 #[] w fun e w' => e = .returned (.bool true) ∧ Below w.heap.size w w' := by
  have CC := Class_any 5 ⟨#[60, 37]⟩ w (by decide) hL
  rw [alive_cls] at CC
  have CW := fun w => worth_yes ⟨#[48, 120, 49, 70]⟩ 31 false w (by unfold maxLen; decide) alive_int
  have he : ∀ w : World, (binOp .eql 42 (.agg #[.int .i64 7, .string ⟨#[123]⟩]) (.agg #[.int .i64 7, .string ⟨#[123]⟩])).run Try.prog w = .ok (.bool true) w := fun _ => by kernel_rfl
  go_enter Try.func22, Try.ntmps22
  go_wp2_with fail
  refine CC.mono ?_
  rintro e w1 ⟨rfl, hb1⟩
  go_wp2_with fail
  refine (CW _).mono ?_
  rintro e w2 ⟨rfl, hb2⟩
  have hk := pair_below hb2
  obtain ⟨d0, d1, -, -⟩ := pair_cells hk
  have hB := hb1.trans (((below1 w1 (.cells #[.int .i64 7, .string ⟨#[123]⟩] 42)).mono (Nat.le_refl _) |>.trans (hb2.mono (by simp))).mono hb1.size)
  clear hk CC CW
  go_wp2
  go_ret
  exact ⟨rfl, hB⟩

end Go.Proofs.Ytenmapahigbbeaa
