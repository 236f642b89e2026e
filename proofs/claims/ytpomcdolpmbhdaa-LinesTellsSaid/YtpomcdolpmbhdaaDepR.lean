/- How deep rows stand: the document's answer. -/
import Derived.Test.YtpomcdolpmbhdaaRowR
import Derived.Test.YtpomcdolpmbhdaaApart
namespace Go.Proofs.Ytpomcdolpmbhdaa
open Go.RowKit

/-- What a row does: 1 it opens, 2 another part, 3 the last part, 4 it closes, 0 nothing. -/
def turnL (l : List UInt8) : Nat :=
  if l == [105, 102] then 1 else if l == [105, 102, 100, 101, 102] then 1 else if l == [105, 102, 110, 100, 101, 102] then 1 else if l == [101, 108, 105, 102] then 2 else if l == [101, 108, 115, 101] then 3 else if l == [101, 110, 100, 105, 102] then 4 else 0
def turnS (r : Rz) : Nat := if r.d then turnL r.nm.toList else 0
theorem turnS_le (r : Rz) : turnS r ≤ 4 := by
  unfold turnS turnL
  repeat (first | omega | split)

set_option maxHeartbeats 1000000 in
theorem rturn_any (r : Rz) (v : Value) (w : World) :
    Calls Try.prog 33 #[.agg #[.bool r.d, .string r.nm, v]] w fun e w' => e = .returned (.int .i64 (turnS r : Nat)) ∧ Below w.heap.size w w' := by
  have HT : Hid (turnS r = if r.d then turnL r.nm.toList else 0) := Lib.hid rfl
  cases hd : r.d
  · rw [hd] at HT
    go_enter Try.func33, Try.ntmps33
    go_wp2
    go_ret
    exact ⟨ri (by rw [HT.out]; rfl), below1 w _⟩
  · rw [hd] at HT
    go_enter Try.func33, Try.ntmps33
    go_wp2
    all_goals
      go_ret
      refine ⟨ri ?_, below1 w _⟩
      rw [HT.out]
      unfold turnL
      clear HT
      simp_all

end Go.Proofs.Ytpomcdolpmbhdaa
