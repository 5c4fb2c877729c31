/- The form of a document: docHasForm and l2Form. -/
import Derived.Test.YtldgadmaffpghaaDoorCels
import Derived.Test.YtldgadmaffpghaaDoorNameOk
import Derived.Test.YtldgadmaffpghaaDoorTextOk
namespace Go.Proofs.YtldgadmaffpghaaDoor
open Go.RowKit

end Go.Proofs.YtldgadmaffpghaaDoor
