/- lines' small functions: a row's name, what stands ahead of its content, does a token begin a directive. -/
import Derived.Test.YtpomcdolpmbhdaaRowsR
namespace Go.Proofs.Ytpomcdolpmbhdaa
open Go.RowKit

/-- How many bare tokens of a row don't belong to its content. -/
def aheadS (r : Rz) : Nat := if r.d then (if r.nm.toList = [] then 1 else 2) else 0
def nameS (r : Rz) : ByteArray := if r.d then r.nm else ⟨#[]⟩
theorem aheadS_le (r : Rz) : aheadS r ≤ 2 := by
  unfold aheadS
  repeat (first | omega | split)
theorem size_zero_iff (s : ByteArray) : s.toList = [] ↔ s.size = 0 := by
  rw [← List.length_eq_zero_iff]
  have : s.toList = s.data.toList := Lib.toList_data s
  rw [this]
  exact Iff.rfl
theorem saysS_ahead (r : Rz) : saysS r = (bareL r).drop (aheadS r) := by
  unfold saysS aheadS
  cases r.d
  · rfl
  · simp only [if_true]
    by_cases h : r.nm.toList = []
    · have := (size_zero_iff _).1 h
      rw [if_neg (by omega), if_pos h]
    · have : r.nm.size ≠ 0 := fun e => h ((size_zero_iff _).2 e)
      rw [if_pos (by omega), if_neg h]

set_option maxHeartbeats 1000000 in
theorem nameOf_any (r : Rz) (v : Value) (w : World) :
    Calls Try.prog 32 #[.agg #[.bool r.d, .string r.nm, v]] w fun e w' => e = .returned (.string (nameS r)) ∧ Below w.heap.size w w' := by
  obtain ⟨d, nm, ts⟩ := r
  cases d
  · go_enter Try.func32, Try.ntmps32
    go_wp2
    go_ret
    exact ⟨rfl, below1 w _⟩
  · go_enter Try.func32, Try.ntmps32
    go_wp2
    go_ret
    exact ⟨rfl, below1 w _⟩

set_option maxHeartbeats 1000000 in
theorem ahead_any (r : Rz) (v : Value) (w : World) :
    Calls Try.prog 31 #[.agg #[.bool r.d, .string r.nm, v]] w fun e w' => e = .returned (.int .i64 (aheadS r : Nat)) ∧ Below w.heap.size w w' := by
  have HT : Hid (aheadS r = if r.d then (if r.nm.toList = [] then 1 else 2) else 0) := Lib.hid rfl
  obtain ⟨d, nm, ts⟩ := r
  cases d
  · go_enter Try.func31, Try.ntmps31
    go_wp2
    go_ret
    exact ⟨ri (by rw [HT.out]; rfl), below1 w _⟩
  · by_cases he : nm.toList = []
    · have HT2 := Lib.hid (HT.out.trans (by simp only [if_true]; rw [if_pos he]))
      have hb : (nm.toList == []) = true := by rw [he]; rfl
      clear HT
      go_enter Try.func31, Try.ntmps31
      go_wp2
      go_ret
      exact ⟨ri (by rw [HT2.out]; rfl), below1 w _⟩
    · have HT2 := Lib.hid (HT.out.trans (by simp only [if_true]; rw [if_neg he]))
      have hb : (nm.toList == []) = false := beq_eq_false_iff_ne.2 he
      have hb2 : (!nm.toList.isEmpty) = true := by
        cases h : nm.toList with
        | nil => exact absurd h he
        | cons a b => rfl
      clear HT
      go_enter Try.func31, Try.ntmps31
      go_wp2
      go_ret
      exact ⟨ri (by rw [HT2.out]; rfl), below1 w _⟩

/-- Is a token the one of a directive? -/
def begB (t : Tz) : Bool := t.k == 5 && (t.tx.toList == [35] || t.tx.toList == [37, 58])
theorem hashB_cons (t : Tz) (l : List Tz) : hashB (t :: l) = begB t := rfl

set_option maxHeartbeats 1000000 in
theorem begins_any (t : Tz) (w : World) :
    Calls Try.prog 43 #[.agg #[.int .i64 t.k, .string t.tx, .int .i64 t.a, .int .i64 t.e, .bool t.sp]] w fun e w' => e = .returned (.bool (begB t)) ∧ Below w.heap.size w w' := by
  have HH : Hid (begB t = (t.k == 5 && (t.tx.toList == [35] || t.tx.toList == [37, 58]))) := Lib.hid rfl
  cases h5 : (t.k == 5)
  · have HN : Hid (begB t = false) := Lib.hid (by rw [HH.out, h5]; rfl)
    clear HH
    go_enter Try.func43, Try.ntmps43
    go_wp2
    go_ret
    exact ⟨rb (by rw [HN.out]), below1 w _⟩
  · cases h1 : (t.tx.toList == [35])
    · cases h2 : (t.tx.toList == [37, 58])
      · have HN : Hid (begB t = false) := Lib.hid (by rw [HH.out, h5, h1, h2]; rfl)
        clear HH
        go_enter Try.func43, Try.ntmps43
        go_wp2
        go_ret
        exact ⟨rb (by rw [HN.out]), below1 w _⟩
      · have HN : Hid (begB t = true) := Lib.hid (by rw [HH.out, h5, h1, h2]; rfl)
        clear HH
        go_enter Try.func43, Try.ntmps43
        go_wp2
        go_ret
        exact ⟨rb (by rw [HN.out]), below1 w _⟩
    · have HN : Hid (begB t = true) := Lib.hid (by rw [HH.out, h5, h1]; rfl)
      clear HH
      go_enter Try.func43, Try.ntmps43
      go_wp2
      go_ret
      exact ⟨rb (by rw [HN.out]), below1 w _⟩

end Go.Proofs.Ytpomcdolpmbhdaa
