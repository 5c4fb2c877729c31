/- FieldsPut of the model, and the walk of the law FnExactFieldsPut. -/
import Derived.Test.YtelkaieknliflaaDoorFldPut
namespace Go.Proofs.YtelkaieknliflaaDoor
open Go.RowKit

def wordOf (kd : Int) : ByteArray := if kd == 1 then ⟨#[116, 101, 120, 116]⟩ else if kd == 2 then ⟨#[110, 117, 109]⟩ else ⟨#[116, 97, 103]⟩
theorem put_text (o nm d : ByteArray) : o ++ nm ++ ⟨#[58]⟩ ++ ⟨#[116, 101, 120, 116]⟩ ++ ⟨#[58]⟩ ++ d = o ++ (nm ++ bText ++ d) := by
  apply ByteArray.ext
  simp [bText]
theorem put_num (o nm : ByteArray) : o ++ nm ++ ⟨#[58]⟩ ++ ⟨#[110, 117, 109]⟩ = o ++ (nm ++ bNum) := by
  apply ByteArray.ext
  simp [bNum]
theorem put_tag (o nm : ByteArray) : o ++ nm ++ ⟨#[58]⟩ ++ ⟨#[116, 97, 103]⟩ = o ++ (nm ++ bTag) := by
  apply ByteArray.ext
  simp [bTag]
/-- What stands ahead of the field at a place. -/
def lead (fs : List Fld) (k : Nat) : ByteArray := if k = 0 then putTo fs k else putTo fs k ++ ⟨#[32]⟩
theorem lead_put (fs : List Fld) (k : Nat) : putTo fs (k + 1) = lead fs k ++ fldS (fat fs k) := by
  unfold lead
  by_cases e : k = 0
  · subst e
    rw [if_pos rfl, putTo_zero, putTo_one]
    apply ByteArray.ext
    simp
  · rw [if_neg e, putTo_succ fs k e]

set_option maxHeartbeats 2000000 in
theorem l2Put_any (a : Option Addr) (cap : Nat) (fs : List Fld) (w : World) (hs : fieldsB fs = true) (hr : FldRow w a fs) :
    Calls Tryd.prog 21 #[.slice a fs.length cap] w fun e w' => e = .returned (.string (putTo fs fs.length)) ∧ Below w.heap.size w w' := by
  have hl : fs.length ≤ 4 := by
    have h := hs
    simp only [fieldsB, Bool.and_eq_true, decide_eq_true_eq] at h
    exact h.1.2
  have hb0 : Below w.heap.size w (w.alloc (.cells #[.string ⟨#[]⟩, .string ⟨#[116, 101, 120, 116]⟩, .string ⟨#[110, 117, 109]⟩, .string ⟨#[116, 97, 103]⟩] 9)) := (Below.refl _ w).alloc (Nat.le_refl _) _
  have B0 := Blk.new w #[.string ⟨#[]⟩, .string ⟨#[116, 101, 120, 116]⟩, .string ⟨#[110, 117, 109]⟩, .string ⟨#[116, 97, 103]⟩] 9
  have HB0 : Hid (Blk (w.alloc (.cells #[.string ⟨#[]⟩, .string ⟨#[116, 101, 120, 116]⟩, .string ⟨#[110, 117, 109]⟩, .string ⟨#[116, 97, 103]⟩] 9)) w.heap.size #[.string ⟨#[]⟩, .string ⟨#[116, 101, 120, 116]⟩, .string ⟨#[110, 117, 109]⟩, .string ⟨#[116, 97, 103]⟩] 9) := B0
  clear B0
  go_enter Tryd.func21, Tryd.ntmps21
  go_wp2
  go_loopw [4, 5] (fun o i wr => ∃ k : Nat, k ≤ fs.length ∧ i = .int .i64 k ∧ o = .string (putTo fs k) ∧ Blk wr w.heap.size #[.string ⟨#[]⟩, .string ⟨#[116, 101, 120, 116]⟩, .string ⟨#[110, 117, 109]⟩, .string ⟨#[116, 97, 103]⟩] 9 ∧ Below w.heap.size w wr) (fun _ i _ => fs.length - (intOf i).toNat)
  case atStart => exact ⟨0, Nat.zero_le _, rfl, rfl, HB0.out, hb0⟩
  case round =>
    clear HB0 hb0
    obtain ⟨k, hk, rfl, rfl, hblk, hbel⟩ := hrel
    by_cases hlt : k < fs.length
    · have hkl : (k : Int) < (fs.length : Int) := by omega
      obtain ⟨g, off, rfl, hg, hc⟩ := (hr.below hbel) (by omega)
      obtain ⟨c0, c1, c2⟩ := hc k hlt
      obtain ⟨_, h8, hkw⟩ := fld_of fs hs k hlt
      have hps := putTo_size fs hs k (by omega)
      have HLP : Hid (putTo fs (k + 1) = lead fs k ++ fldS (fat fs k)) := lead_put fs k
      have e1 : wr.cell? ⟨w.heap.size, 1, none⟩ = some (.string ⟨#[116, 101, 120, 116]⟩) := hblk.cell 1
      have e2 : wr.cell? ⟨w.heap.size, 2, none⟩ = some (.string ⟨#[110, 117, 109]⟩) := hblk.cell 2
      have e3 : wr.cell? ⟨w.heap.size, 3, none⟩ = some (.string ⟨#[116, 97, 103]⟩) := hblk.cell 3
      have hbl := hblk.lt
      have HBK : Hid (Blk wr w.heap.size #[.string ⟨#[]⟩, .string ⟨#[116, 101, 120, 116]⟩, .string ⟨#[110, 117, 109]⟩, .string ⟨#[116, 97, 103]⟩] 9) := hblk
      have HLE : Hid (lead fs k = if k = 0 then putTo fs k else putTo fs k ++ ⟨#[32]⟩) := rfl
      have hgw : g < wr.heap.size := hg
      clear hblk
      rcases hkw with ⟨ek, hw1, hw2⟩ | ek | ek
      · have HF : Hid (fldS (fat fs k) = (fat fs k).name ++ bText ++ decS (fat fs k).weight.toNat) := fldS_text _ ek
        generalize fat fs k = fd at *
        obtain ⟨nm, kd, wt⟩ := fd
        simp only at c0 c1 c2 ek h8 hw1 hw2 HF
        subst ek
        obtain ⟨i, rfl⟩ := Int.eq_ofNat_of_zero_le (show 0 ≤ wt by omega)
        have hds := decS_size i (by omega)
        have HD : Hid (∀ w, Calls Tryd.prog 44 #[.int .i64 (i : Int)] w fun e w' => e = .returned (.string (decS i)) ∧ Below w.heap.size w w') := fun w => dec_upto i i w (Nat.le_refl _) (by omega)
        simp only [Int.toNat_natCast] at HF
        generalize decS i = ds at *
        generalize putTo fs k = ps at *
        clear hr hc hs
        by_cases ez : k = 0
        · subst ez
          rw [Nat.zero_mul, Nat.add_zero] at c0
          simp only [Nat.zero_mul, Nat.add_zero] at c1 c2
          have HN : Hid (putTo fs (0 + 1) = ps ++ nm ++ ⟨#[58]⟩ ++ ⟨#[116, 101, 120, 116]⟩ ++ ⟨#[58]⟩ ++ ds) := by unfold Hid; rw [HLP.out, HF.out, put_text, HLE.out, if_pos rfl]
          go_wp2
          go_quiet (fail)
          go_wp2_with fail
          refine (HD.out _).mono ?_
          rintro e w2 ⟨rfl, hb2⟩
          have hb2' : Below wr.heap.size wr w2 := ⟨hb2.os, hb2.tape, hb2.output, hb2.size, hb2.block⟩
          go_wp2
          go_roundw
          case rel => exact ⟨0 + 1, by omega, by go_num, by rw [HN.out], HBK.out.below hb2' hbl, hbel.trans (hb2'.mono hbel.size)⟩
          case measure => simp [intOf]; omega
        · have hki : (0 : Int) < (k : Int) := by omega
          have HN : Hid (putTo fs (k + 1) = ps ++ ⟨#[32]⟩ ++ nm ++ ⟨#[58]⟩ ++ ⟨#[116, 101, 120, 116]⟩ ++ ⟨#[58]⟩ ++ ds) := by unfold Hid; rw [HLP.out, HF.out, put_text, HLE.out, if_neg ez]
          go_wp2
          go_quiet (fail)
          go_wp2_with fail
          refine (HD.out _).mono ?_
          rintro e w2 ⟨rfl, hb2⟩
          have hb2' : Below wr.heap.size wr w2 := ⟨hb2.os, hb2.tape, hb2.output, hb2.size, hb2.block⟩
          go_wp2
          go_roundw
          case rel => exact ⟨k + 1, by omega, by go_num, by rw [HN.out], HBK.out.below hb2' hbl, hbel.trans (hb2'.mono hbel.size)⟩
          case measure => simp [intOf]; omega
      · have HF : Hid (fldS (fat fs k) = (fat fs k).name ++ bNum) := fldS_num _ ek
        generalize fat fs k = fd at *
        obtain ⟨nm, kd, wt⟩ := fd
        simp only at c0 c1 c2 ek h8 HF
        subst ek
        generalize putTo fs k = ps at *
        clear hr hc hs
        by_cases ez : k = 0
        · subst ez
          rw [Nat.zero_mul, Nat.add_zero] at c0
          simp only [Nat.zero_mul, Nat.add_zero] at c1 c2
          have HN : Hid (putTo fs (0 + 1) = ps ++ nm ++ ⟨#[58]⟩ ++ ⟨#[110, 117, 109]⟩) := by unfold Hid; rw [HLP.out, HF.out, put_num, HLE.out, if_pos rfl]
          go_wp2
          go_quiet (fail)
          go_wp2
          go_roundw
          case rel => exact ⟨0 + 1, by omega, by go_num, by rw [HN.out], HBK.out, below_drewN hbel _⟩
          case measure => simp [intOf]; omega
        · have hki : (0 : Int) < (k : Int) := by omega
          have HN : Hid (putTo fs (k + 1) = ps ++ ⟨#[32]⟩ ++ nm ++ ⟨#[58]⟩ ++ ⟨#[110, 117, 109]⟩) := by unfold Hid; rw [HLP.out, HF.out, put_num, HLE.out, if_neg ez]
          go_wp2
          go_quiet (fail)
          go_wp2
          go_roundw
          case rel => exact ⟨k + 1, by omega, by go_num, by rw [HN.out], HBK.out, below_drewN hbel _⟩
          case measure => simp [intOf]; omega
      · have HF : Hid (fldS (fat fs k) = (fat fs k).name ++ bTag) := fldS_tag _ ek
        generalize fat fs k = fd at *
        obtain ⟨nm, kd, wt⟩ := fd
        simp only at c0 c1 c2 ek h8 HF
        subst ek
        generalize putTo fs k = ps at *
        clear hr hc hs
        by_cases ez : k = 0
        · subst ez
          rw [Nat.zero_mul, Nat.add_zero] at c0
          simp only [Nat.zero_mul, Nat.add_zero] at c1 c2
          have HN : Hid (putTo fs (0 + 1) = ps ++ nm ++ ⟨#[58]⟩ ++ ⟨#[116, 97, 103]⟩) := by unfold Hid; rw [HLP.out, HF.out, put_tag, HLE.out, if_pos rfl]
          go_wp2
          go_quiet (fail)
          go_wp2
          go_roundw
          case rel => exact ⟨0 + 1, by omega, by go_num, by rw [HN.out], HBK.out, below_drewN hbel _⟩
          case measure => simp [intOf]; omega
        · have hki : (0 : Int) < (k : Int) := by omega
          have HN : Hid (putTo fs (k + 1) = ps ++ ⟨#[32]⟩ ++ nm ++ ⟨#[58]⟩ ++ ⟨#[116, 97, 103]⟩) := by unfold Hid; rw [HLP.out, HF.out, put_tag, HLE.out, if_neg ez]
          go_wp2
          go_quiet (fail)
          go_wp2
          go_roundw
          case rel => exact ⟨k + 1, by omega, by go_num, by rw [HN.out], HBK.out, below_drewN hbel _⟩
          case measure => simp [intOf]; omega
    · have hkl : k = fs.length := by omega
      subst hkl
      clear hr hs hblk
      go_wp2
      go_ret
      exact ⟨rfl, hbel⟩

theorem putS_any (a : Option Addr) (cap : Nat) (fs : List Fld) (w : World) (hz : fs.length ≤ 1048576) (hsm : FldsSmall fs) (hr : FldRow w a fs) :
    Calls Tryd.prog 8 #[.slice a fs.length cap] w fun e w' => e = .returned (.string (putB fs)) ∧ Below w.heap.size w w' := by
  cases hs : fieldsB fs with
  | false =>
    have HB : Hid (putB fs = ⟨#[]⟩) := by unfold Hid putB; rw [hs]; rfl
    go_enter Tryd.func8, Tryd.ntmps8
    go_wp2_with fail
    refine (fieldsS_any a cap fs _ hz hsm hr).mono ?_
    rintro e w1 ⟨rfl, hb1⟩
    rw [hs]
    clear hr hsm
    go_wp2
    go_ret
    exact ⟨ret_string HB.out.symm, hb1⟩
  | true =>
    have HB : Hid (putB fs = putTo fs fs.length) := by unfold Hid putB; rw [hs]; rfl
    go_enter Tryd.func8, Tryd.ntmps8
    go_wp2_with fail
    refine (fieldsS_any a cap fs _ hz hsm hr).mono ?_
    rintro e w1 ⟨rfl, hb1⟩
    rw [hs]
    go_wp2_with fail
    refine (l2Put_any a cap fs _ hs (hr.below hb1)).mono ?_
    rintro e w2 ⟨rfl, hb2⟩
    clear hr hsm
    go_wp2
    go_ret
    exact ⟨ret_string HB.out.symm, below_trans hb1 hb2⟩
end Go.Proofs.YtelkaieknliflaaDoor
