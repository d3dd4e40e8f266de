/-
  The table of modes, as the text lays it, in memory. No function of the program is walked here. No conditions.
-/
import Derived.Test.YtdicmpniinjbpaaDoorLaid
import Derived.Test.YtdicmpniinjbpaaDoorStatusMode
import Derived.Test.YtdicmpniinjbpaaDoorRows
namespace Go.Proofs.YtdicmpniinjbpaaDoor
open Go.ChangeShapes Go.WideShapes Go.ChangeAt Go.RowKit Go.Deep
namespace Ss
/-- The row's list of variables says where the table is. -/
theorem tab_laid {W : World} (h : laidMetH Tryd.prog [("math/bits.deBruijn32tab", Rows.laid_math_bits_deBruijn32tab), ("math/bits.deBruijn64tab", Rows.laid_math_bits_deBruijn64tab), ("internal/strconv.uint64pow10", Rows.laid_internal_strconv_uint64pow10), ("rudder/status.modes", Rows.laid_rudder_status_modes)] W) : TabAt W := fun i hi =>
  La.table (g := 0) (n := 5) (t := 39) (e := 9) nms h (by kernel_rfl) (List.Mem.tail _ (List.Mem.tail _ (List.Mem.tail _ (List.Mem.head _)))) (by kernel_rfl) (by kernel_rfl)
    Tryd.underlying39 Tryd.underlying9 (by kernel_rfl) i hi
end Ss
end Go.Proofs.YtdicmpniinjbpaaDoor
