/- DocNum of the program and of the model. -/
import Derived.Test.YtjkimadnopeakaaGreatDoorMg0FnExactMeets
import Derived.Test.YtjkimadnopeakaaGreatDoorDocOkS
import Derived.Test.YtjkimadnopeakaaGreatDoorL2Add
namespace Go.Proofs.YtjkimadnopeakaaGreatDoor
open Go.RowKit
set_option linter.unusedVariables false

def dnum (fs : List Fld) (key : ByteArray) (cs : List Cel) (n : ByteArray) : Int := cnum (toldK fs key cs n) (docT cs n)
def dhas (fs : List Fld) (key : ByteArray) (cs : List Cel) (n : ByteArray) : Bool := cisn (toldK fs key cs n) (docT cs n)

set_option maxHeartbeats 1000000 in
set_option maxRecDepth 100000 in
theorem docNumI_any (a : Option Addr) (capf : Nat) (fs : List Fld) (key : ByteArray) (p : Option Addr) (capc : Nat) (cs : List Cel) (n : ByteArray) (w : World) (hzf : fs.length ≤ 1048576) (hcf : fs.length ≤ capf) (hsf : FldsSmall fs) (hrf : FldRow w a fs)
    (hk : key.size ≤ 1048576) (hzc : cs.length ≤ 1048576) (hsc : CelsSmall cs) (hrc : CelRow w p cs) (hm : MaxL w) :
    Calls Tryz.prog 33 #[.slice a fs.length capf, .agg #[.string key, .slice p cs.length capc], .string n] w fun e w' => e = .returned (.tuple #[.int .i64 (dnum fs key cs n), .bool (dhas fs key cs n)]) ∧ Below w.heap.size w w' := by
  have hb0 : Below w.heap.size w (w.alloc (.cells #[.string key, .slice p cs.length capc] 37)) := (Below.refl _ w).alloc (Nat.le_refl _) _
  have HT : Hid (∀ wx, Below w.heap.size w wx → Calls Tryz.prog 71 #[.slice a fs.length capf, .agg #[.string key, .slice p cs.length capc], .string n] wx fun e w' => ∃ v, e = .returned (.agg #[.int .i64 (dnum fs key cs n), .bool (dhas fs key cs n), v]) ∧ TagsV wx.heap.size w' (toldK fs key cs n) (docT cs n) v ∧ Below wx.heap.size wx w') := fun wx h => docTold_any a capf fs key p capc cs n wx hzf hcf hsf (hrf.below h) hk hzc hsc (hrc.below h) (hm.below h)
  clear hsf hrf hsc hrc hm
  generalize dnum fs key cs n = x at *
  generalize dhas fs key cs n = y at *
  go_enter Tryz.func33, Tryz.ntmps33
  go_wp2_with fail
  first
    | refine (HT.out _ hb0).mono ?_
    | refine (HT.out _ (Below.refl _ _)).mono ?_
  rintro e u1 ⟨v, rfl, htv, hb1⟩
  obtain ⟨vq, vl, vc, rfl⟩ := htv.slice
  have hw1 := below_trans hb0 hb1
  clear HT htv hb1 hb0
  go_wp2
  go_quiet ((fail))
  go_wp2
  go_ret2
  have h := hw1.alloc hw1.size (.cells #[.int .i64 x, .bool y, .slice vq vl vc] 105)
  exact ⟨rfl, ⟨h.os, h.tape, h.output, h.size, h.block⟩⟩
end Go.Proofs.YtjkimadnopeakaaGreatDoor
