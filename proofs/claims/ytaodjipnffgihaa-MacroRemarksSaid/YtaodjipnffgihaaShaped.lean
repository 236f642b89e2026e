/- The library's own number, out of the world's shape. -/
import Derived.Test.YtaodjipnffgihaaComm
import Derived.Shelf.Vars
namespace Go.Proofs.Ytaodjipnffgihaa
open Go.RowKit

theorem libVar_shaped {W : World} (h : W.ShapedOpen Try.prog) : LibVar W :=
  Go.Proofs.cell_of_shapedOpen_int (zero := #[.int .i64 0]) (t := 3) h (of_decide_eq_true (by kernel_rfl)) (by kernel_rfl) rfl (by kernel_rfl) (by kernel_rfl) Try.underlying3

end Go.Proofs.Ytaodjipnffgihaa
