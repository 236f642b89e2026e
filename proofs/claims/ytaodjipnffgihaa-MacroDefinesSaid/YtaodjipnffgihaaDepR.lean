/- How deep rows stand: the document's answer. -/
import Derived.Test.YtaodjipnffgihaaRowR
import Derived.Test.YtaodjipnffgihaaApart
namespace Go.Proofs.Ytaodjipnffgihaa
open Go.RowKit

/-- What a row does: 1 it opens, 2 another part, 3 the last part, 4 it closes, 0 nothing. -/
def turnL (l : List UInt8) : Nat :=
  if l == [105, 102] then 1 else if l == [105, 102, 100, 101, 102] then 1 else if l == [105, 102, 110, 100, 101, 102] then 1 else if l == [101, 108, 105, 102] then 2 else if l == [101, 108, 115, 101] then 3 else if l == [101, 110, 100, 105, 102] then 4 else 0
def turnS (r : Rz) : Nat := if r.d then turnL r.nm.toList else 0
theorem turnS_le (r : Rz) : turnS r ≤ 4 := by
  unfold turnS turnL
  repeat (first | omega | split)

end Go.Proofs.Ytaodjipnffgihaa
