/- The form of a document: docHasForm and l2Form. -/
import Derived.Test.YtldgadmaffpghaaCels
import Derived.Test.YtldgadmaffpghaaNameOk
import Derived.Test.YtldgadmaffpghaaTextOk
namespace Go.Proofs.Ytldgadmaffpghaa
open Go.RowKit

end Go.Proofs.Ytldgadmaffpghaa
