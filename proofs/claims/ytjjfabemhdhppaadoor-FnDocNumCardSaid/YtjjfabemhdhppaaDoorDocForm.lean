/- The form of a document: docHasForm and l2Form. -/
import Derived.Test.YtjjfabemhdhppaaDoorCels
import Derived.Test.YtjjfabemhdhppaaDoorNameOk
import Derived.Test.YtjjfabemhdhppaaDoorTextOk
namespace Go.Proofs.YtjjfabemhdhppaaDoor
open Go.RowKit

end Go.Proofs.YtjjfabemhdhppaaDoor
