/- The walk of the law FnExactFieldsOk. -/
import Derived.Test.YtelkaieknliflaaDoorFldsOk3
namespace Go.Proofs.YtelkaieknliflaaDoor
open Go.RowKit
end Go.Proofs.YtelkaieknliflaaDoor
