/- DocNum of the program and of the model. -/
import Derived.Test.YtjjfabemhdhppaaGreatDoorDocTold
import Derived.Test.YtjjfabemhdhppaaGreatDoorDocOkS
import Derived.Test.YtjjfabemhdhppaaGreatDoorL2Add
namespace Go.Proofs.YtjjfabemhdhppaaGreatDoor
open Go.RowKit
set_option linter.unusedVariables false

def dnum (fs : List Fld) (key : ByteArray) (cs : List Cel) (n : ByteArray) : Int := cnum (toldK fs key cs n) (docT cs n)
def dhas (fs : List Fld) (key : ByteArray) (cs : List Cel) (n : ByteArray) : Bool := cisn (toldK fs key cs n) (docT cs n)

end Go.Proofs.YtjjfabemhdhppaaGreatDoor
