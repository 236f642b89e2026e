/- The library's own number, out of the world's shape. -/
import Derived.Test.YtenmapahigbbeaaGreatComm
import Derived.Shelf.Vars
namespace Go.Proofs.YtenmapahigbbeaaGreat
open Go.RowKit

theorem libVar_shaped {W : World} (h : W.ShapedOpen Tryz.prog) : LibVar W :=
  Go.Proofs.cell_of_shapedOpen_int (zero := #[.int .i64 0]) (t := 3) h (of_decide_eq_true (by kernel_rfl)) (by kernel_rfl) rfl (by kernel_rfl) (by kernel_rfl) Tryz.underlying3

end Go.Proofs.YtenmapahigbbeaaGreat
