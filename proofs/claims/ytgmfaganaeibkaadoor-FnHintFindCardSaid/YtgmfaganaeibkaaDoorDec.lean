/- spec.l1Dec writes a number in decimals. -/
import Derived.Test.YtgmfaganaeibkaaDoorBase
import Derived.Test.YtgmfaganaeibkaaDoorBlk
import Derived.Lib.ItoaNum
import Derived.Lib.ItoaLen
import Derived.Shelf.RegionOpen
namespace Go.Proofs.YtgmfaganaeibkaaDoor
open Go.RowKit

def digD (k : Nat) : UInt8 := UInt8.ofNat (48 + k)
def decS (n : Nat) : ByteArray := ⟨(Lib.decDigits n).toArray⟩
theorem decS_small (n : Nat) (h : n < 10) : decS n = ⟨#[digD n]⟩ := by unfold decS; rw [Lib.decDigits_one h]; rfl
theorem decS_big (n : Nat) (h : ¬ n < 10) : decS n = decS (n / 10) ++ ⟨#[digD (n % 10)]⟩ := by
  unfold decS
  rw [Lib.decDigits, dif_neg h]
  apply ByteArray.ext
  simp [digD]
theorem decS_size (n : Nat) (h : n ≤ 999999999) : (decS n).size ≤ 20 := by
  have h1 : (decS n).size = (Lib.decDigits n).length := by simp [decS, ByteArray.size]
  rw [h1, Lib.decDigits_length]
  exact Lib.nDigits_le20 n (by omega)
theorem dig_toNat (k : Nat) (h : k < 10) : ((digD k).toNat : Int) = 48 + (k : Int) := by
  unfold digD
  rw [UInt8.toNat_ofNat']
  omega
/-- A slice of one byte as a string. -/
theorem back_one (W : World) (B C k : Nat) (hk : k < 10) (h : W.cell? ⟨B, 0, none⟩ = some (.int .u8 (48 + (k : Int)))) :
    (convert 22 9 (.slice (some ⟨B, 0, none⟩) 1 C)).run Tryd.prog W = .ok (.string ⟨#[digD k]⟩) W := by
  have hb := run_convert_bytes_back (P := Tryd.prog) W 22 9 5 ⟨B, 0, none⟩ C [digD k] Tryd.underlying22 Tryd.underlying5 Tryd.underlying9 (by
    intro i hi
    have hi0 : i = 0 := by simpa using hi
    subst hi0
    rw [addr_add0, h]
    simp [dig_toNat k hk])
  simpa using hb

set_option maxHeartbeats 1000000 in
theorem dec_upto (m : Nat) : ∀ (n : Nat) (w : World), n ≤ m → n ≤ 999999999 →
    Calls Tryd.prog 63 #[.int .i64 n] w fun e w' => e = .returned (.string (decS n)) ∧ Below w.heap.size w w' := by
  induction m using Nat.strongRecOn with
  | ind m ih =>
    intro n w hm hn
    have h0 : decide ((n : Int) < -9223372036854775807) = false := by rw [decide_eq_false_iff_not]; omega
    have h1 : decide ((n : Int) < 0) = false := by simp
    by_cases h10 : n < 10
    · have hi : (n : Int) < 10 := by omega
      have hd := decS_small n h10
      have HD : Hid (decS n = ⟨#[digD n]⟩) := hd
      have hback := back_one (w.alloc (.cells #[.int .u8 (48 + (n : Int))] 5)) w.heap.size 1 n h10 (by rw [World.cell?_alloc_new]; rfl)
      clear hd ih
      go_enter Tryd.func63, Tryd.ntmps63
      go_wp2
      go_ret
      exact ⟨ret_string HD.out.symm, (Below.refl _ w).alloc (Nat.le_refl _) _⟩
    · have hi : decide ((n : Int) < 10) = false := by rw [decide_eq_false_iff_not]; omega
      have HD : Hid (decS n = decS (n / 10) ++ ⟨#[digD (n % 10)]⟩) := decS_big n h10
      have hk : n % 10 < 10 := Nat.mod_lt _ (by omega)
      have hX : IntKind.u8.wrap (IntKind.i64.wrap (48 + (n : Int).tmod 10)) = 48 + ((n % 10 : Nat) : Int) := by
        rw [Int.tmod_eq_emod_of_nonneg (by omega)]
        simp [IntKind.wrap, IntKind.bits, IntKind.signed]
        omega
      have hback : ∀ (W : World) (B : Nat), W.cell? ⟨B, 0, none⟩ = some (.int .u8 (IntKind.u8.wrap (IntKind.i64.wrap (48 + (n : Int).tmod 10)))) → (convert 22 9 (.slice (some ⟨B, 0, none⟩) 1 1)).run Tryd.prog W = .ok (.string ⟨#[digD (n % 10)]⟩) W := fun W B h => back_one W B 1 (n % 10) hk (by rw [h, hX])
      clear hX
      have IH : Hid (∀ w, Calls Tryd.prog 63 #[.int .i64 (IntKind.i64.wrap ((n : Int) / 10))] w fun e w' => e = .returned (.string (decS (n / 10))) ∧ Below w.heap.size w w') := fun w => by
        have h := ih (n / 10) (by omega) (n / 10) w (Nat.le_refl _) (by omega)
        rwa [show (((n / 10 : Nat) : Int)) = IntKind.i64.wrap ((n : Int) / 10) from by simp [IntKind.wrap, IntKind.bits, IntKind.signed]; omega] at h
      clear ih
      have hds := decS_size (n / 10) (by omega)
      generalize decS (n / 10) = q at *
      go_enter Tryd.func63, Tryd.ntmps63
      go_wp2
      go_cut [2] (fun s wx => s = .string (decS n) ∧ Below w.heap.size w wx)
      case first =>
        go_region_with (go_at_call 63; refine (IH.out _).mono ?_; rintro e w2 ⟨rfl, hb2⟩; obtain ⟨hcl, hfz⟩ := bcell hb2)
        all_goals
          clear hback
          go_wp2_with fail
          go_meet
          case rel =>
            refine ⟨by rw [HD.out], ?_⟩
            first
            | exact ((below_drew (Below.refl w.heap.size w)).trans (hb2.mono (Nat.le_refl _))).alloc hb2.size _
            | exact (below_drew ((Below.refl w.heap.size w).alloc (Nat.le_refl _) _)).trans (hb2.mono (by simp))
      case rest =>
        obtain ⟨rfl, hb⟩ := hcut
        clear hback
        go_wp2
        go_ret
        exact ⟨rfl, hb⟩
end Go.Proofs.YtgmfaganaeibkaaDoor
