/- spec.l1Dec writes a number in decimals. -/
import Derived.Test.YtjjfabemhdhppaaGreatDoorBase
import Derived.Test.YtjjfabemhdhppaaGreatDoorBlk
import Derived.Lib.ItoaNum
import Derived.Lib.ItoaLen
import Derived.Shelf.RegionOpen
namespace Go.Proofs.YtjjfabemhdhppaaGreatDoor
open Go.RowKit

def digD (k : Nat) : UInt8 := UInt8.ofNat (48 + k)
def decS (n : Nat) : ByteArray := ⟨(Lib.decDigits n).toArray⟩
theorem decS_small (n : Nat) (h : n < 10) : decS n = ⟨#[digD n]⟩ := by unfold decS; rw [Lib.decDigits_one h]; rfl
theorem decS_big (n : Nat) (h : ¬ n < 10) : decS n = decS (n / 10) ++ ⟨#[digD (n % 10)]⟩ := by
  unfold decS
  rw [Lib.decDigits, dif_neg h]
  apply ByteArray.ext
  simp [digD]
theorem decS_size (n : Nat) (h : n ≤ 999999999) : (decS n).size ≤ 20 := by
  have h1 : (decS n).size = (Lib.decDigits n).length := by simp [decS, ByteArray.size]
  rw [h1, Lib.decDigits_length]
  exact Lib.nDigits_le20 n (by omega)
theorem dig_toNat (k : Nat) (h : k < 10) : ((digD k).toNat : Int) = 48 + (k : Int) := by
  unfold digD
  rw [UInt8.toNat_ofNat']
  omega
/-- A slice of one byte as a string. -/
theorem back_one (W : World) (B C k : Nat) (hk : k < 10) (h : W.cell? ⟨B, 0, none⟩ = some (.int .u8 (48 + (k : Int)))) :
    (convert 82 9 (.slice (some ⟨B, 0, none⟩) 1 C)).run Tryz.prog W = .ok (.string ⟨#[digD k]⟩) W := by
  have hb := run_convert_bytes_back (P := Tryz.prog) W 82 9 5 ⟨B, 0, none⟩ C [digD k] Tryz.underlying82 Tryz.underlying5 Tryz.underlying9 (by
    intro i hi
    have hi0 : i = 0 := by simpa using hi
    subst hi0
    rw [addr_add0, h]
    simp [dig_toNat k hk])
  simpa using hb

end Go.Proofs.YtjjfabemhdhppaaGreatDoor
