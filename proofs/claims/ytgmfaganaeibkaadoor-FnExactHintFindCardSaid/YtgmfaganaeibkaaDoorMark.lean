/- The marks that the exact laws lay into an answer and look for again: markText. -/
import Derived.Test.YtgmfaganaeibkaaDoorStrRow
import Derived.Shelf.RegionOpen
namespace Go.Proofs.YtgmfaganaeibkaaDoor
open Go.RowKit

def digU (k : Nat) : UInt8 := UInt8.ofNat (48 + k % 10)
theorem digU_toNat (k : Nat) : ((digU k).toNat : Int) = 48 + (k : Int) % 10 := by
  unfold digU
  rw [UInt8.toNat_ofNat']
  omega
def decF : Nat → Nat → ByteArray → ByteArray
  | 0, _, o => o
  | f + 1, k, o => if k = 0 then o else decF f (k / 10) (⟨#[digU k]⟩ ++ o)
def markT (k : Nat) : ByteArray := ⟨#[109]⟩ ++ decF k k ⟨#[]⟩
theorem decF_step (f j : Nat) (o : ByteArray) (hj : j ≠ 0) (hf : j ≤ f) : ∃ f', j / 10 ≤ f' ∧ decF f j o = decF f' (j / 10) (⟨#[digU j]⟩ ++ o) := by
  cases f with
  | zero => omega
  | succ f' => exact ⟨f', by omega, by rw [decF, if_neg hj]⟩
theorem decF_zero (f : Nat) (o : ByteArray) : decF f 0 o = o := by
  cases f with
  | zero => rfl
  | succ f' => rw [decF, if_pos rfl]

set_option maxHeartbeats 400000 in
theorem markText_any (k : Nat) (w : World) (hk : k ≤ 1099511627776) (hk1 : 1 ≤ k) :
    Calls Tryd.prog 49 #[.int .i64 k] w fun e w' => e = .returned (.string (markT k)) ∧ Below w.heap.size w w' := by
  go_enter Tryd.func49, Tryd.ntmps49
  go_wp2
  go_loopw [0, 3] (fun i o wr => ∃ (j f : Nat) (t : ByteArray), i = .int .i64 j ∧ o = .string t ∧ t.size + j ≤ k ∧ j ≤ f ∧ decF f j t = decF k k ⟨#[]⟩ ∧ Below w.heap.size w wr) (fun i _ _ => (intOf i).toNat)
  case atStart => exact ⟨k, k, ⟨#[]⟩, rfl, rfl, by show 0 + k ≤ k; omega, Nat.le_refl _, rfl, Below.refl _ _⟩
  case round =>
    obtain ⟨j, f, t, rfl, rfl, hsz, hjf, hd, hbel⟩ := hrel
    by_cases hj : j = 0
    · subst hj
      rw [decF_zero] at hd
      have HD : Hid (t = decF k k ⟨#[]⟩) := hd
      clear hd
      go_wp2
      go_ret
      exact ⟨ret_string (by rw [HD.out]; rfl), hbel⟩
    · obtain ⟨f', hf', he⟩ := decF_step f j t hj hjf
      have HD : Hid (decF f' (j / 10) (⟨#[digU j]⟩ ++ t) = decF k k ⟨#[]⟩) := by unfold Hid; rw [← he]; exact hd
      clear hd he
      have hbs := hbel.size
      have hback := fun (W : World) (C : Nat) => run_convert_bytes_back (P := Tryd.prog) (W.alloc (.cells #[.int .u8 (48 + (j : Int) % 10)] 5)) 22 9 5 ⟨W.heap.size, 0, none⟩ C [digU j] Tryd.underlying22 Tryd.underlying5 Tryd.underlying9 (by
        intro i hi
        have hi0 : i = 0 := by simpa using hi
        subst hi0
        rw [addr_add0, World.cell?_alloc_new]
        simp [digU_toNat])
      simp only [List.length_singleton] at hback
      go_wp2
      go_roundw
      case rel => exact ⟨j / 10, f', ⟨#[digU j]⟩ ++ t, by go_num, rfl, by rw [ByteArray.size_append]; show 1 + t.size + j / 10 ≤ k; omega, hf', HD.out, hbel.alloc hbs _⟩
      case measure => simp [intOf]; omega
end Go.Proofs.YtgmfaganaeibkaaDoor
