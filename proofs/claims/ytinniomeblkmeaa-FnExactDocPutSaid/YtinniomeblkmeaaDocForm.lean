/- The form of a document: docHasForm and l2Form. -/
import Derived.Test.YtinniomeblkmeaaCels
import Derived.Test.YtinniomeblkmeaaNameOk
import Derived.Test.YtinniomeblkmeaaTextOk
namespace Go.Proofs.Ytinniomeblkmeaa
open Go.RowKit

end Go.Proofs.Ytinniomeblkmeaa
