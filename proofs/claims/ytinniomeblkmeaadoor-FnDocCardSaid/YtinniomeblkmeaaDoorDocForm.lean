/- The form of a document: docHasForm and l2Form. -/
import Derived.Test.YtinniomeblkmeaaDoorCels
import Derived.Test.YtinniomeblkmeaaDoorNameOk
import Derived.Test.YtinniomeblkmeaaDoorTextOk
namespace Go.Proofs.YtinniomeblkmeaaDoor
open Go.RowKit

end Go.Proofs.YtinniomeblkmeaaDoor
