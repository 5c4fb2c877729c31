/- QueryFits of both sides. -/
import Derived.Test.YtjkimadnopeakaaGreatDoorQyOk
import Derived.Test.YtjkimadnopeakaaGreatDoorQyFitsS
namespace Go.Proofs.YtjkimadnopeakaaGreatDoor
open Go.RowKit
set_option linter.unusedVariables false

/-- A question fits fields; its parts are at most D deep. -/
def fitsB (fs : List Fld) (D : Nat) (k : Int) (f t : ByteArray) (lo hi : Int) (ps : List Qy) : Bool := fieldsB fs && queryB k f t lo hi ps && fitS fs D (.mk k f t lo hi ps)
theorem fitsB_I (fs : List Fld) (D : Nat) (k : Int) (f t : ByteArray) (lo hi : Int) (ps : List Qy) (h : queryB k f t lo hi ps = true) : fitI fs D (.mk k f t lo hi ps) = fitS fs D (.mk k f t lo hi ps) := fit_same fs D 4 _ h
set_option maxRecDepth 100000 in
set_option maxHeartbeats 1000000 in
theorem queryFitsS_any (fa : Option Addr) (cap : Nat) (fs : List Fld) (k : Int) (f t : ByteArray) (lo hi : Int) (ps : List Qy) (a : Option Addr) (c D : Nat) (w : World) (hzf : fs.length ≤ 1048576) (hsf : FldsSmall fs) (hrf : FldRow w fa fs) (ha : QAt w 0 D a ps) (hsz : QSz 1048576 D ps) (hfs : f.size ≤ 1048576) (hts : t.size ≤ 1048576) :
    Calls Tryz.prog 23 #[.slice fa fs.length cap, .agg #[.int .i64 k, .string f, .string t, .int .i64 lo, .int .i64 hi, .slice a ps.length c]] w fun e w' => e = .returned (.bool (fitsB fs D k f t lo hi ps)) ∧ Below w.heap.size w w' := by
  have hb0 : Below w.heap.size w (w.alloc (.cells #[.int .i64 k, .string f, .string t, .int .i64 lo, .int .i64 hi, .slice a ps.length c] 41)) := (Below.refl _ w).alloc (Nat.le_refl _) _
  have B0 := Blk.new w #[.int .i64 k, .string f, .string t, .int .i64 lo, .int .i64 hi, .slice a ps.length c] 41
  have HFB : Hid (fitsB fs D k f t lo hi ps = (fieldsB fs && queryB k f t lo hi ps && fitS fs D (.mk k f t lo hi ps))) := rfl
  have HA : Hid (∀ wx, Below w.heap.size w wx → QAt wx 0 D a ps) := fun wx h => ha.below h
  have HRF : Hid (∀ wx, Below w.heap.size w wx → FldRow wx fa fs) := fun wx h => hrf.below h
  clear ha hrf
  go_enter Tryz.func23, Tryz.ntmps23
  go_wp2_with fail
  refine (fieldsS_any fa cap fs _ hzf hsf (HRF.out _ hb0)).mono ?_
  rintro e w1 ⟨rfl, hb1⟩
  have B1 := B0.below hb1 B0.lt
  have hw1 := hb0.trans (hb1.mono hb0.size)
  clear B0 hb0 hb1
  cases h1 : fieldsB fs
  all_goals rw [h1] at HFB
  · go_wp2
    go_ret
    exact ⟨ret_bool (by rw [HFB.out]; rfl), hw1⟩
  have k0 := B1.cell 0
  have k1 := B1.cell 1
  have k2 := B1.cell 2
  have k3 := B1.cell 3
  have k4 := B1.cell 4
  have k5 := B1.cell 5
  simp at k0 k1 k2 k3 k4 k5
  go_wp2_with fail
  refine (queryOkS_any k f t lo hi ps a c D _ (HA.out _ hw1) hsz hfs hts).mono ?_
  rintro e w2 ⟨rfl, hb2⟩
  have B2 := B1.below hb2 B1.lt
  have hw2 := hw1.trans (hb2.mono hw1.size)
  clear B1 hw1 hb2 k0 k1 k2 k3 k4 k5
  cases h2 : queryB k f t lo hi ps
  all_goals rw [h2] at HFB
  · go_wp2
    go_ret
    exact ⟨ret_bool (by rw [HFB.out]; rfl), hw2⟩
  have k0 := B2.cell 0
  have k1 := B2.cell 1
  have k2 := B2.cell 2
  have k3 := B2.cell 3
  have k4 := B2.cell 4
  have k5 := B2.cell 5
  simp at k0 k1 k2 k3 k4 k5
  go_wp2_with fail
  refine (l5Fits_any D fa cap fs k f t lo hi ps a c _ hzf (HRF.out _ hw2) (HA.out _ hw2) hsz).mono ?_
  rintro e w3 ⟨rfl, hb3⟩
  have hw3 := hw2.trans (hb3.mono hw2.size)
  clear B2 hw2 hb3 k0 k1 k2 k3 k4 k5
  generalize fitS fs D (.mk k f t lo hi ps) = b at *
  go_wp2
  go_ret
  exact ⟨ret_bool (by rw [HFB.out]; rfl), hw3⟩
set_option maxRecDepth 100000 in
set_option maxHeartbeats 1000000 in
theorem queryFitsI_any (fa : Option Addr) (cap : Nat) (fs : List Fld) (k : Int) (f t : ByteArray) (lo hi : Int) (ps : List Qy) (a : Option Addr) (c D : Nat) (w : World) (hzf : fs.length ≤ 1048576) (hcf : fs.length ≤ cap) (hsf : FldsSmall fs) (hrf : FldRow w fa fs) (ha : QAt w 0 D a ps) (hsz : QSz 1048576 D ps) (hfs : f.size ≤ 1048576) (hts : t.size ≤ 1048576) (hm : MaxL w) :
    Calls Tryz.prog 27 #[.slice fa fs.length cap, .agg #[.int .i64 k, .string f, .string t, .int .i64 lo, .int .i64 hi, .slice a ps.length c]] w fun e w' => e = .returned (.bool (fitsB fs D k f t lo hi ps)) ∧ Below w.heap.size w w' := by
  have hb0 : Below w.heap.size w (w.alloc (.cells #[.int .i64 k, .string f, .string t, .int .i64 lo, .int .i64 hi, .slice a ps.length c] 41)) := (Below.refl _ w).alloc (Nat.le_refl _) _
  have B0 := Blk.new w #[.int .i64 k, .string f, .string t, .int .i64 lo, .int .i64 hi, .slice a ps.length c] 41
  have HFB : Hid (fitsB fs D k f t lo hi ps = (fieldsB fs && queryB k f t lo hi ps && fitS fs D (.mk k f t lo hi ps))) := rfl
  have HA : Hid (∀ wx, Below w.heap.size w wx → QAt wx 0 D a ps) := fun wx h => ha.below h
  have HRF : Hid (∀ wx, Below w.heap.size w wx → FldRow wx fa fs) := fun wx h => hrf.below h
  have HM : Hid (∀ wx, Below w.heap.size w wx → MaxL wx) := fun wx h => hm.below h
  clear ha hrf hm
  go_enter Tryz.func27, Tryz.ntmps27
  go_wp2_with fail
  refine (fieldsI_any fa cap fs _ hzf hcf hsf (HRF.out _ hb0)).mono ?_
  rintro e w1 ⟨rfl, hb1⟩
  have B1 := B0.below hb1 B0.lt
  have hw1 := hb0.trans (hb1.mono hb0.size)
  clear B0 hb0 hb1
  cases h1 : fieldsB fs
  all_goals rw [h1] at HFB
  · go_wp2
    go_ret
    exact ⟨ret_bool (by rw [HFB.out]; rfl), hw1⟩
  have k0 := B1.cell 0
  have k1 := B1.cell 1
  have k2 := B1.cell 2
  have k3 := B1.cell 3
  have k4 := B1.cell 4
  have k5 := B1.cell 5
  simp at k0 k1 k2 k3 k4 k5
  go_wp2_with fail
  refine (queryOkI_any k f t lo hi ps a c D _ (HA.out _ hw1) hsz hfs hts (HM.out _ hw1)).mono ?_
  rintro e w2 ⟨rfl, hb2⟩
  have B2 := B1.below hb2 B1.lt
  have hw2 := hw1.trans (hb2.mono hw1.size)
  clear B1 hw1 hb2 k0 k1 k2 k3 k4 k5
  cases h2 : queryB k f t lo hi ps
  all_goals rw [h2] at HFB
  · go_wp2
    go_ret
    exact ⟨ret_bool (by rw [HFB.out]; rfl), hw2⟩
  have k0 := B2.cell 0
  have k1 := B2.cell 1
  have k2 := B2.cell 2
  have k3 := B2.cell 3
  have k4 := B2.cell 4
  have k5 := B2.cell 5
  simp at k0 k1 k2 k3 k4 k5
  rw [← fitsB_I fs D k f t lo hi ps h2] at HFB
  go_wp2_with fail
  refine (kindsFit_any D fa cap fs k f t lo hi ps a c _ hzf (HRF.out _ hw2) (HA.out _ hw2) hsz).mono ?_
  rintro e w3 ⟨rfl, hb3⟩
  have hw3 := hw2.trans (hb3.mono hw2.size)
  clear B2 hw2 hb3 k0 k1 k2 k3 k4 k5
  generalize fitI fs D (.mk k f t lo hi ps) = b at *
  go_wp2
  go_ret
  exact ⟨ret_bool (by rw [HFB.out]; rfl), hw3⟩
end Go.Proofs.YtjkimadnopeakaaGreatDoor
