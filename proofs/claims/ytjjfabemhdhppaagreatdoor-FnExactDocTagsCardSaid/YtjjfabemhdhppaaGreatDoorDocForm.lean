/- The form of a document: docHasForm and l2Form. -/
import Derived.Test.YtjjfabemhdhppaaGreatDoorCels
import Derived.Test.YtjjfabemhdhppaaGreatDoorNameOk
import Derived.Test.YtjjfabemhdhppaaGreatDoorTextOk
namespace Go.Proofs.YtjjfabemhdhppaaGreatDoor
open Go.RowKit

end Go.Proofs.YtjjfabemhdhppaaGreatDoor
