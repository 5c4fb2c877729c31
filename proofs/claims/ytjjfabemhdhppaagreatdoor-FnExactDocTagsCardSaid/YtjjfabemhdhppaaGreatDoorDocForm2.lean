/- docHasForm and l2Form answer the same. -/
import Derived.Test.YtjjfabemhdhppaaGreatDoorDocForm
namespace Go.Proofs.YtjjfabemhdhppaaGreatDoor
open Go.RowKit

/-- A cell stands behind the one ahead. -/
def ordB (cs : List Cel) (k : Nat) : Bool := decide (k = 0) || Op.bytesLess (cat cs (k - 1)).name.toList (cat cs k).name.toList
def celOk (cs : List Cel) (k : Nat) : Bool := ordB cs k && nameI (cat cs k).name && textB (cat cs k).text
def formB (key : ByteArray) (cs : List Cel) : Bool := nameI key && decide (cs.length ≤ 4) && allTo (celOk cs) cs.length
theorem formB_no (key : ByteArray) (cs : List Cel) (k : Nat) (h : k < cs.length) (hf : celOk cs k = false) : formB key cs = false := by
  unfold formB
  rw [allTo_false _ _ k h hf]
  simp

set_option maxHeartbeats 2000000 in
theorem form_any (key : ByteArray) (a : Option Addr) (cap : Nat) (cs : List Cel) (w : World) (hk : key.size ≤ 1048576) (hz : cs.length ≤ 1048576) (hsm : CelsSmall cs) (hr : CelRow w a cs) :
    Calls Tryz.prog 49 #[.agg #[.string key, .slice a cs.length cap]] w fun e w' => e = .returned (.bool (formB key cs)) ∧ Below w.heap.size w w' := by
  have hb0 : Below w.heap.size w (w.alloc (.cells #[.string key, .slice a cs.length cap] 34)) := (Below.refl _ w).alloc (Nat.le_refl _) _
  cases hn : nameI key with
  | false =>
    have HB : Hid (formB key cs = false) := by unfold Hid formB; rw [hn]; rfl
    clear hr hsm
    go_enter Tryz.func49, Tryz.ntmps49
    go_wp2_with fail
    refine (nameI_any key _ (by unfold maxLen; omega)).mono ?_
    rintro e w5 ⟨rfl, rfl⟩
    rw [hn]
    go_wp2
    go_ret
    exact ⟨ret_bool HB.out.symm, hb0⟩
  | true =>
    by_cases h4 : 4 < (cs.length : Int)
    · have HB : Hid (formB key cs = false) := by unfold Hid formB; rw [show decide (cs.length ≤ 4) = false from by simp; omega]; simp
      clear hr hsm
      go_enter Tryz.func49, Tryz.ntmps49
      go_wp2_with fail
      refine (nameI_any key _ (by unfold maxLen; omega)).mono ?_
      rintro e w5 ⟨rfl, rfl⟩
      rw [hn]
      go_wp2
      go_ret
      exact ⟨ret_bool HB.out.symm, hb0⟩
    have d4 : decide (4 < (cs.length : Int)) = false := by simpa using h4
    have B0 := Blk.new w #[.string key, .slice a cs.length cap] 34
    have HB0 : Hid (Blk (w.alloc (.cells #[.string key, .slice a cs.length cap] 34)) w.heap.size #[.string key, .slice a cs.length cap] 34) := B0
    have HN : Hid (nameI key = true) := hn
    clear B0
    go_enter Tryz.func49, Tryz.ntmps49
    go_wp2_with fail
    refine (nameI_any key _ (by unfold maxLen; omega)).mono ?_
    rintro e w5 ⟨rfl, rfl⟩
    rw [hn]
    clear hn
    go_wp2
    go_loopw [18] (fun i wr => ∃ k : Nat, k ≤ cs.length ∧ i = .int .i64 k ∧ allTo (celOk cs) k = true ∧ Blk wr w.heap.size #[.string key, .slice a cs.length cap] 34 ∧ Below w.heap.size w wr) (fun i _ => cs.length - (intOf i).toNat)
    case atStart => exact ⟨0, Nat.zero_le _, rfl, rfl, HB0.out, hb0⟩
    case round =>
      clear HB0 hb0
      obtain ⟨k, hkk, rfl, ha, hblk, hbel⟩ := hrel
      have HA : Hid (allTo (celOk cs) k = true) := ha
      clear ha
      have hsz := hbel.size
      have hbl := hblk.lt
      by_cases hlt : k < cs.length
      · have hkl : (k : Int) < (cs.length : Int) := by omega
        obtain ⟨g, off, rfl, hg, hc⟩ := (hr.below hbel) (by omega)
        obtain ⟨c0, c1⟩ := hc k hlt
        obtain ⟨hs0, hs1⟩ := hsm k hlt
        have e1 : wr.cell? ⟨w.heap.size, 1, none⟩ = some (.slice (some ⟨g, off, none⟩) cs.length cap) := hblk.cell 1
        have HBK : Hid (Blk wr w.heap.size #[.string key, .slice (some ⟨g, off, none⟩) cs.length cap] 34) := hblk
        have HNO : Hid (celOk cs k = false → formB key cs = false) := formB_no key cs k hlt
        have HCO : Hid (celOk cs k = (ordB cs k && nameI (cat cs k).name && textB (cat cs k).text)) := rfl
        have hbA : Below w.heap.size w (wr.alloc (.cells #[.string (cat cs k).name, .string (cat cs k).text] 66)) := hbel.alloc hsz _
        have HBA : Hid (Blk (wr.alloc (.cells #[.string (cat cs k).name, .string (cat cs k).text] 66)) w.heap.size #[.string key, .slice (some ⟨g, off, none⟩) cs.length cap] 34) := HBK.out.alloc _
        clear hblk HBK
        cases ho : ordB cs k with
        | false =>
          have hb : Hid (formB key cs = false) := HNO.out (by rw [HCO.out, ho]; rfl)
          obtain ⟨j, rfl⟩ : ∃ j, k = j + 1 := ⟨k - 1, by cases k with | zero => simp [ordB] at ho | succ j => simp⟩
          have ho' : Op.bytesLess (cat cs j).name.toList (cat cs (j + 1)).name.toList = false := by simpa [ordB] using ho
          have p0 := (hc j (by omega)).1
          have i1 : (j : Int) + 1 < (cs.length : Int) := by omega
          have i2 : (j : Int) < (cs.length : Int) := by omega
          have i3 : (0 : Int) < (j : Int) + 1 := by omega
          generalize (cat cs j).name = pn at *
          generalize cat cs (j + 1) = cl at *
          obtain ⟨nm, tx⟩ := cl
          simp only at c0 c1 hs0 hs1 ho' HBA hbA
          clear hr hc hsm ho HCO HNO HA HBA
          go_wp2
          go_quiet (fail)
          go_wp2
          go_ret
          exact ⟨ret_bool hb.out.symm, below_drewN hbA _⟩
        | true =>
          have fin : ∀ b : Bool, nameI (cat cs k).name = true → textB (cat cs k).text = b → celOk cs k = b := fun b h1 h2 => by rw [HCO.out, ho, h1, h2]; simp
          have FIN : Hid (∀ b : Bool, nameI (cat cs k).name = true → textB (cat cs k).text = b → celOk cs k = b) := fin
          have HNN : Hid (nameI (cat cs k).name = false → celOk cs k = false) := fun h => by rw [HCO.out, h]; simp
          clear fin HCO
          rcases Nat.eq_zero_or_pos k with rfl | hkp
          · generalize cat cs 0 = cl at *
            obtain ⟨nm, tx⟩ := cl
            simp only [Nat.zero_mul, Nat.add_zero] at c0 c1 hs0 hs1 HBA hbA FIN HNN
            clear hr hc hsm ho
            have i3 : decide ((0 : Int) < ((0 : Nat) : Int)) = false := by simp
            go_wp2
            go_quiet (fail)
            go_wp2_with fail
            refine (nameI_any nm _ (by unfold maxLen; omega)).mono ?_
            rintro e w5 ⟨rfl, rfl⟩
            cases h1 : nameI nm with
            | false =>
              have hb : Hid (formB key cs = false) := HNO.out (HNN.out h1)
              go_wp2
              go_ret
              exact ⟨ret_bool hb.out.symm, below_drewN hbA _⟩
            | true =>
              go_wp2_with fail
              refine (textOk_any tx _ (by unfold maxLen; omega)).mono ?_
              rintro e w5 ⟨rfl, rfl⟩
              cases h2 : textB tx with
              | false =>
                have hb : Hid (formB key cs = false) := HNO.out (FIN.out _ h1 h2)
                go_wp2
                go_ret
                exact ⟨ret_bool hb.out.symm, below_drewN hbA _⟩
              | true =>
                have HS : Hid (allTo (celOk cs) (0 + 1) = true) := allTo_snoc _ 0 HA.out (FIN.out _ h1 h2)
                go_wp2
                go_roundw
                case rel => exact ⟨0 + 1, by omega, by go_num, HS.out, HBA.out, below_drewN hbA _⟩
                case measure => simp [intOf]; omega
          · obtain ⟨j, rfl⟩ : ∃ j, k = j + 1 := ⟨k - 1, by omega⟩
            have ho' : Op.bytesLess (cat cs j).name.toList (cat cs (j + 1)).name.toList = true := by simpa [ordB] using ho
            have p0 := (hc j (by omega)).1
            have i1 : (j : Int) + 1 < (cs.length : Int) := by omega
            have i2 : (j : Int) < (cs.length : Int) := by omega
            have i3 : (0 : Int) < (j : Int) + 1 := by omega
            generalize (cat cs j).name = pn at *
            generalize cat cs (j + 1) = cl at *
            obtain ⟨nm, tx⟩ := cl
            simp only at c0 c1 hs0 hs1 ho' HBA hbA FIN HNN
            clear hr hc hsm ho
            go_wp2
            go_quiet (fail)
            go_wp2_with fail
            refine (nameI_any nm _ (by unfold maxLen; omega)).mono ?_
            rintro e w5 ⟨rfl, rfl⟩
            cases h1 : nameI nm with
            | false =>
              have hb : Hid (formB key cs = false) := HNO.out (HNN.out h1)
              go_wp2
              go_ret
              exact ⟨ret_bool hb.out.symm, below_drewN hbA _⟩
            | true =>
              go_wp2_with fail
              refine (textOk_any tx _ (by unfold maxLen; omega)).mono ?_
              rintro e w5 ⟨rfl, rfl⟩
              cases h2 : textB tx with
              | false =>
                have hb : Hid (formB key cs = false) := HNO.out (FIN.out _ h1 h2)
                go_wp2
                go_ret
                exact ⟨ret_bool hb.out.symm, below_drewN hbA _⟩
              | true =>
                have HS : Hid (allTo (celOk cs) (j + 1 + 1) = true) := allTo_snoc _ (j + 1) HA.out (FIN.out _ h1 h2)
                go_wp2
                go_roundw
                case rel => exact ⟨j + 1 + 1, by omega, by go_num, HS.out, HBA.out, below_drewN hbA _⟩
                case measure => simp [intOf]; omega
      · have hkl : k = cs.length := by omega
        subst hkl
        have hb : Hid (formB key cs = true) := by unfold Hid formB; rw [HA.out, HN.out]; simp; omega
        clear hr hsm hblk
        go_wp2
        go_ret
        exact ⟨ret_bool hb.out.symm, hbel⟩
end Go.Proofs.YtjjfabemhdhppaaGreatDoor
