/- The table of the library's that Itoa reads, out of the row's own list. -/
import Derived.Test.YthaobhghbopgkaaDoorGapsI
import Derived.Lib.LaidTab
import Derived.Stop.LaidErr
namespace Go.Proofs.YthaobhghbopgkaaDoor
open Go.RowKit
theorem pow10_of {rest : List (String × DataW Unit)} {W : World} (h : laidMet Tryd.prog (("internal/strconv.uint64pow10", Rows.laid_internal_strconv_uint64pow10) :: rest) W) : Pow10 W :=
  Lib.tabIs_of_head (t := 82) (e := 70) (show Tryd.prog.globalNamed "internal/strconv.uint64pow10" = some 0 by kernel_rfl) (by kernel_rfl) Tryd.underlying82 Tryd.underlying70 (by kernel_rfl) (by kernel_rfl) h
end Go.Proofs.YthaobhghbopgkaaDoor
