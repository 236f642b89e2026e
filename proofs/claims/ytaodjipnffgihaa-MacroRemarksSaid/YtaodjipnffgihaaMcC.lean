/- macro's small functions: pastes, mayBeParameter, mayBeName. -/
import Derived.Test.YtaodjipnffgihaaMcB
namespace Go.Proofs.Ytaodjipnffgihaa
open Go.RowKit Go.Shelf

theorem among1 (a s : ByteArray) : amongS [a] s = (a.toList == s.toList) := by simp [amongS]
theorem pasteB_eq (t : Tz) : pasteB t = (t.k == 5 && amongS [⟨#[35, 35]⟩, ⟨#[37, 58, 37, 58]⟩] t.tx) := by
  unfold pasteB isP amongS
  simp only [List.any_cons, List.any_nil, Bool.or_false]
  rw [show (⟨#[35, 35]⟩ : ByteArray).toList = [35, 35] from Lib.toList_data _, show (⟨#[37, 58, 37, 58]⟩ : ByteArray).toList = [37, 58, 37, 58] from Lib.toList_data _, beq_turn [35, 35], beq_turn [37, 58, 37, 58], Bool.and_or_distrib_left]
theorem isP_eq (t : Tz) (a : ByteArray) (l : List UInt8) (h : a.toList = l) : isP t l = (t.k == 5 && amongS [a] t.tx) := by
  unfold isP
  rw [among1, h, beq_turn]
theorem hashP_eq (t : Tz) : hashP t = (t.k == 5 && amongS [⟨#[35]⟩, ⟨#[37, 58]⟩] t.tx) := by
  unfold hashP isP amongS
  simp only [List.any_cons, List.any_nil, Bool.or_false]
  rw [show (⟨#[35]⟩ : ByteArray).toList = [35] from Lib.toList_data _, show (⟨#[37, 58]⟩ : ByteArray).toList = [37, 58] from Lib.toList_data _, beq_turn [35], beq_turn [37, 58], Bool.and_or_distrib_left]
theorem vaL_eq : (⟨#[95, 95, 86, 65, 95, 65, 82, 71, 83, 95, 95]⟩ : ByteArray).toList = vaL := Lib.toList_data _
theorem isW_eq (t : Tz) : isW t vaL = (t.k == 1 && amongS [⟨#[95, 95, 86, 65, 95, 65, 82, 71, 83, 95, 95]⟩] t.tx) := by
  unfold isW
  rw [among1, vaL_eq, beq_turn]
theorem wordP_eq (t : Tz) : wordP t = (t.k == 1 && !(t.k == 1 && amongS [⟨#[95, 95, 86, 65, 95, 65, 82, 71, 83, 95, 95]⟩] t.tx)) := by
  unfold wordP
  rw [among1, vaL_eq, beq_turn]
  cases t.k == 1 <;> simp
theorem nameP_eq (t : Tz) : nameP t = (t.k == 1 && !(t.k == 1 && amongS [⟨#[100, 101, 102, 105, 110, 101, 100]⟩, ⟨#[95, 95, 86, 65, 95, 65, 82, 71, 83, 95, 95]⟩, ⟨#[95, 95, 76, 73, 78, 69, 95, 95]⟩, ⟨#[95, 80, 114, 97, 103, 109, 97]⟩] t.tx)) := by
  unfold nameP amongS
  simp only [List.any_cons, List.any_nil, Bool.or_false]
  rw [show (⟨#[100, 101, 102, 105, 110, 101, 100]⟩ : ByteArray).toList = [100, 101, 102, 105, 110, 101, 100] from Lib.toList_data _, vaL_eq, show (⟨#[95, 95, 76, 73, 78, 69, 95, 95]⟩ : ByteArray).toList = [95, 95, 76, 73, 78, 69, 95, 95] from Lib.toList_data _, show (⟨#[95, 80, 114, 97, 103, 109, 97]⟩ : ByteArray).toList = [95, 80, 114, 97, 103, 109, 97] from Lib.toList_data _, beq_turn [100, 101, 102, 105, 110, 101, 100], beq_turn vaL, beq_turn [95, 95, 76, 73, 78, 69, 95, 95], beq_turn [95, 80, 114, 97, 103, 109, 97]]
  cases t.k == 1 <;> simp [Bool.or_assoc]

set_option maxHeartbeats 2000000 in
theorem pastes_any (t : Tz) (w : World) :
    Calls Try.prog 48 #[.agg #[.int .i64 t.k, .string t.tx, .int .i64 t.a, .int .i64 t.e, .bool t.sp]] w fun e w' => e = .returned (.bool (pasteB t)) ∧ Below w.heap.size w w' := by
  rw [pasteB_eq]
  have hS := strIn_two w (.cells #[.int .i64 t.k, .string t.tx, .int .i64 t.a, .int .i64 t.e, .bool t.sp] 49) 9 #[.string ⟨#[35, 35]⟩, .string ⟨#[37, 58, 37, 58]⟩] [⟨#[35, 35]⟩, ⟨#[37, 58, 37, 58]⟩] rfl
  have CC := spells_any t 5 [⟨#[35, 35]⟩, ⟨#[37, 58, 37, 58]⟩] 2 2 _ _ rfl (by decide) hS
  have hb := below2 w (.cells #[.int .i64 t.k, .string t.tx, .int .i64 t.a, .int .i64 t.e, .bool t.sp] 49) (.cells #[.string ⟨#[35, 35]⟩, .string ⟨#[37, 58, 37, 58]⟩] 9)
  clear hS
  generalize (t.k == 5 && amongS [⟨#[35, 35]⟩, ⟨#[37, 58, 37, 58]⟩] t.tx) = C at *
  go_enter Try.func48, Try.ntmps48
  go_wp2_with fail
  refine CC.mono ?_
  rintro e w1 ⟨rfl, hb1⟩
  go_wp2
  go_ret
  exact ⟨rfl, hb.trans (hb1.mono hb.size)⟩

set_option maxHeartbeats 2000000 in
theorem mayParam_any (t : Tz) (w : World) :
    Calls Try.prog 68 #[.agg #[.int .i64 t.k, .string t.tx, .int .i64 t.a, .int .i64 t.e, .bool t.sp]] w fun e w' => e = .returned (.bool (wordP t)) ∧ Below w.heap.size w w' := by
  rw [wordP_eq]
  have hS := strIn_two w (.cells #[.int .i64 t.k, .string t.tx, .int .i64 t.a, .int .i64 t.e, .bool t.sp] 49) 9 #[.string ⟨#[95, 95, 86, 65, 95, 65, 82, 71, 83, 95, 95]⟩] [⟨#[95, 95, 86, 65, 95, 65, 82, 71, 83, 95, 95]⟩] rfl
  have CC := spells_any t 1 [⟨#[95, 95, 86, 65, 95, 65, 82, 71, 83, 95, 95]⟩] 1 1 _ _ rfl (by decide) hS
  have hb0 := below1 w (.cells #[.int .i64 t.k, .string t.tx, .int .i64 t.a, .int .i64 t.e, .bool t.sp] 49)
  have hb := below2 w (.cells #[.int .i64 t.k, .string t.tx, .int .i64 t.a, .int .i64 t.e, .bool t.sp] 49) (.cells #[.string ⟨#[95, 95, 86, 65, 95, 65, 82, 71, 83, 95, 95]⟩] 9)
  clear hS
  generalize (t.k == 1 && amongS [⟨#[95, 95, 86, 65, 95, 65, 82, 71, 83, 95, 95]⟩] t.tx) = C at *
  cases h1 : (t.k == 1)
  · go_enter Try.func68, Try.ntmps68
    go_wp2
    go_ret
    exact ⟨rfl, hb0⟩
  · go_enter Try.func68, Try.ntmps68
    go_wp2_with fail
    refine CC.mono ?_
    rintro e w1 ⟨rfl, hb1⟩
    go_wp2
    go_ret
    exact ⟨rb (by cases C <;> rfl), hb.trans (hb1.mono hb.size)⟩

set_option maxHeartbeats 2000000 in
theorem mayName_any (t : Tz) (w : World) :
    Calls Try.prog 45 #[.agg #[.int .i64 t.k, .string t.tx, .int .i64 t.a, .int .i64 t.e, .bool t.sp]] w fun e w' => e = .returned (.bool (nameP t)) ∧ Below w.heap.size w w' := by
  rw [nameP_eq]
  have hS := strIn_two w (.cells #[.int .i64 t.k, .string t.tx, .int .i64 t.a, .int .i64 t.e, .bool t.sp] 49) 9 #[.string ⟨#[100, 101, 102, 105, 110, 101, 100]⟩, .string ⟨#[95, 95, 86, 65, 95, 65, 82, 71, 83, 95, 95]⟩, .string ⟨#[95, 95, 76, 73, 78, 69, 95, 95]⟩, .string ⟨#[95, 80, 114, 97, 103, 109, 97]⟩] [⟨#[100, 101, 102, 105, 110, 101, 100]⟩, ⟨#[95, 95, 86, 65, 95, 65, 82, 71, 83, 95, 95]⟩, ⟨#[95, 95, 76, 73, 78, 69, 95, 95]⟩, ⟨#[95, 80, 114, 97, 103, 109, 97]⟩] rfl
  have CC := spells_any t 1 [⟨#[100, 101, 102, 105, 110, 101, 100]⟩, ⟨#[95, 95, 86, 65, 95, 65, 82, 71, 83, 95, 95]⟩, ⟨#[95, 95, 76, 73, 78, 69, 95, 95]⟩, ⟨#[95, 80, 114, 97, 103, 109, 97]⟩] 4 4 _ _ rfl (by decide) hS
  have hb0 := below1 w (.cells #[.int .i64 t.k, .string t.tx, .int .i64 t.a, .int .i64 t.e, .bool t.sp] 49)
  have hb := below2 w (.cells #[.int .i64 t.k, .string t.tx, .int .i64 t.a, .int .i64 t.e, .bool t.sp] 49) (.cells #[.string ⟨#[100, 101, 102, 105, 110, 101, 100]⟩, .string ⟨#[95, 95, 86, 65, 95, 65, 82, 71, 83, 95, 95]⟩, .string ⟨#[95, 95, 76, 73, 78, 69, 95, 95]⟩, .string ⟨#[95, 80, 114, 97, 103, 109, 97]⟩] 9)
  clear hS
  generalize (t.k == 1 && amongS [⟨#[100, 101, 102, 105, 110, 101, 100]⟩, ⟨#[95, 95, 86, 65, 95, 65, 82, 71, 83, 95, 95]⟩, ⟨#[95, 95, 76, 73, 78, 69, 95, 95]⟩, ⟨#[95, 80, 114, 97, 103, 109, 97]⟩] t.tx) = C at *
  cases h1 : (t.k == 1)
  · go_enter Try.func45, Try.ntmps45
    go_wp2
    go_ret
    exact ⟨rfl, hb0⟩
  · go_enter Try.func45, Try.ntmps45
    go_wp2_with fail
    refine CC.mono ?_
    rintro e w1 ⟨rfl, hb1⟩
    go_wp2
    go_ret
    exact ⟨rb (by cases C <;> rfl), hb.trans (hb1.mono hb.size)⟩

end Go.Proofs.Ytaodjipnffgihaa
