/- HintsOk of the program and of the model: the loops. -/
import Derived.Test.YtgmfaganaeibkaaDoorHintOk
namespace Go.Proofs.YtgmfaganaeibkaaDoor
open Go.RowKit
set_option linter.unusedVariables false

def hnOk (hs : List Hn) (i : Nat) : Bool := hintTI (hnat hs i).text && hnW (hnat hs i).weight && (i == 0 || Op.bytesLess (hnat hs (i - 1)).text.toList (hnat hs i).text.toList)
def hintsB (hs : List Hn) : Bool := decide (hs.length ≤ 10) && allTo (hnOk hs) hs.length
theorem hintsB_no (hs : List Hn) (k : Nat) (h : k < hs.length) (hf : hnOk hs k = false) : hintsB hs = false := by
  unfold hintsB
  rw [allTo_false _ _ k h hf]
  simp

set_option maxRecDepth 100000 in
set_option maxHeartbeats 800000 in
theorem hintsI_any (a : Option Addr) (cap : Nat) (hs : List Hn) (w : World) (hz : hs.length ≤ 1048576) (hsm : HnsSmall hs) (hm : MaxL w) (hr : HnRow w a hs) :
    Calls Tryd.prog 15 #[.slice a hs.length cap] w fun e w' => e = .returned (.bool (hintsB hs)) ∧ Below w.heap.size w w' := by
  by_cases h10 : 10 < (hs.length : Int)
  · have HB : Hid (hintsB hs = false) := by unfold Hid hintsB; rw [show decide (hs.length ≤ 10) = false from by simp; omega]; rfl
    clear hr hsm hm
    go_enter Tryd.func15, Tryd.ntmps15
    go_wp2
    go_ret
    exact ⟨ret_bool HB.out.symm, Below.refl _ _⟩
  have h10d : decide (10 < (hs.length : Int)) = false := by simpa using h10
  have HB : Hid (hintsB hs = allTo (hnOk hs) hs.length) := by unfold Hid hintsB; rw [show decide (hs.length ≤ 10) = true from by simp; omega]; rfl
  have HM : Hid (MaxL w) := hm
  have HR : Hid (HnRow w a hs) := hr
  have HSM : Hid (HnsSmall hs) := hsm
  clear hm hr hsm
  go_enter Tryd.func15, Tryd.ntmps15
  go_wp2
  go_loopw [10] (fun i wr => ∃ k : Nat, k ≤ hs.length ∧ i = .int .i64 k ∧ allTo (hnOk hs) k = true ∧ Below w.heap.size w wr) (fun i _ => hs.length - (intOf i).toNat)
  case atStart => exact ⟨0, Nat.zero_le _, rfl, rfl, Below.refl _ _⟩
  case round =>
    obtain ⟨k, hk, rfl, ha, hbel⟩ := hrel
    have HA : Hid (allTo (hnOk hs) k = true) := ha
    clear ha
    by_cases hlt : k < hs.length
    · have hks : (k : Int) < (hs.length : Int) := by omega
      have hmr := HM.out.below hbel
      have hrr := HR.out.below hbel
      obtain ⟨g, off, rfl, hg, hc⟩ := hrr (by omega)
      obtain ⟨c0, c1⟩ := hc k hlt
      have hsz := HSM.out k hlt
      have HNO : Hid (hnOk hs k = false → hintsB hs = false) := hintsB_no hs k hlt
      have HYS : Hid (hnOk hs k = true → allTo (hnOk hs) (k + 1) = true) := fun h => allTo_snoc _ k HA.out h
      have HDF : Hid (hnOk hs k = (hintTI (hnat hs k).text && hnW (hnat hs k).weight && (k == 0 || Op.bytesLess (hnat hs (k - 1)).text.toList (hnat hs k).text.toList))) := rfl
      generalize hnat hs k = h0 at *
      obtain ⟨t, x⟩ := h0
      simp only at c0 c1 hsz HDF
      have HBA : Hid (Below w.heap.size w (wr.alloc (.cells #[.string t, .int .i64 x] 31))) := hbel.alloc hbel.size _
      have hba : Below wr.heap.size wr (wr.alloc (.cells #[.string t, .int .i64 x] 31)) := (Below.refl _ wr).alloc (Nat.le_refl _) _
      have HMA : Hid (MaxL (wr.alloc (.cells #[.string t, .int .i64 x] 31))) := hmr.below hba
      have HRA : Hid (HnRow (wr.alloc (.cells #[.string t, .int .i64 x] 31)) (some ⟨g, off, none⟩) hs) := hrr.below hba
      have B0 := Blk.new wr #[.string t, .int .i64 x] 31
      have hbl := B0.lt
      have b0 := B0.cell 0
      have b1 := B0.cell 1
      simp at b0 b1
      clear hc hrr hmr hba
      go_wp2
      refine wp_region_still_one 1 (by kernel_rfl) (by kernel_rfl) rfl ?_
      simp only [List.take_succ_cons, List.take_zero]
      still_step
      refine wpStill_nil ?_
      unfold OneK
      go_simp
      go_at_call 31
      refine (hintOk_any t x _ hsz (by exact HMA.out)).mono ?_
      rintro e w2 ⟨rfl, hb2d⟩
      have hb2 : Below (wr.alloc (.cells #[.string t, .int .i64 x] 31)).heap.size (wr.alloc (.cells #[.string t, .int .i64 x] 31)) w2 := ⟨hb2d.os, hb2d.tape, hb2d.output, hb2d.size, hb2d.block⟩
      have B2 := B0.below hb2 hbl
      have y0 := B2.cell 0
      simp at y0
      have HB2 : Hid (Below w.heap.size w w2) := HBA.out.trans (hb2.mono HBA.out.size)
      have HR2 : Hid (HnRow w2 (some ⟨g, off, none⟩) hs) := HRA.out.below hb2
      clear B0 B2 b0 b1 hb2d hb2 HMA HRA HBA
      unfold RestK
      simp only [List.drop_succ_cons, List.drop_zero]
      cases hb : (hintTI t && hnW x) with
      | false =>
        have HF : Hid (hintsB hs = false) := HNO.out (by rw [HDF.out, hb]; rfl)
        clear HNO HYS HDF
        repeat (go_big_quiet_step (fail))
        refine wpQuiet_nil ?_
        intro _ hw'
        obtain ⟨nq, hw''⟩ := hw'
        subst hw''
        go_wp2
        go_ret
        exact ⟨ret_bool HF.out.symm, below_drewN HB2.out nq⟩
      | true =>
        cases k with
        | zero =>
          have HY : Hid (allTo (hnOk hs) (0 + 1) = true) := HYS.out (by rw [HDF.out, hb]; rfl)
          clear HNO HYS HDF
          repeat (go_big_quiet_step (fail))
          refine wpQuiet_nil ?_
          intro _ hw'
          obtain ⟨nq, hw''⟩ := hw'
          subst hw''
          go_wp2
          exact ⟨⟨1, by omega, rfl, HY.out, below_drewN HB2.out nq⟩, by simp [intOf]; omega⟩
        | succ j =>
          obtain ⟨g', off', e, hg', hc'⟩ := HR2.out (by omega)
          cases e
          obtain ⟨p0, _⟩ := hc' j (by omega)
          rw [show j + 1 - 1 = j by omega] at HDF
          generalize (hnat hs j).text = pt at *
          have hj1 : (j : Int) < (hs.length : Int) := by omega
          have hj2 : (0 : Int) < ((j + 1 : Nat) : Int) := by omega
          have hj3 : j < hs.length := by omega
          clear hc' HR2
          cases hl : Op.bytesLess pt.toList t.toList with
          | false =>
            have HF : Hid (hintsB hs = false) := HNO.out (by rw [HDF.out, hb, hl]; rfl)
            clear HNO HYS HDF
            repeat (go_big_quiet_step (fail))
            refine wpQuiet_nil ?_
            intro _ hw'
            obtain ⟨nq, hw''⟩ := hw'
            subst hw''
            go_wp2
            go_ret
            exact ⟨ret_bool HF.out.symm, below_drewN HB2.out nq⟩
          | true =>
            have HY : Hid (allTo (hnOk hs) (j + 1 + 1) = true) := HYS.out (by rw [HDF.out, hb, hl]; simp)
            clear HNO HYS HDF
            repeat (go_big_quiet_step (fail))
            refine wpQuiet_nil ?_
            intro _ hw'
            obtain ⟨nq, hw''⟩ := hw'
            subst hw''
            go_wp2
            go_roundw
            case rel => exact ⟨j + 1 + 1, by omega, by go_num, HY.out, below_drewN HB2.out nq⟩
            case measure => simp [intOf]; omega
    · have hkl : k = hs.length := by omega
      subst hkl
      have HBT : Hid (hintsB hs = true) := by unfold Hid; rw [HB.out]; exact HA.out
      go_wp2
      go_ret
      exact ⟨ret_bool HBT.out.symm, hbel⟩

theorem l1In_is (x : Int) (b : Bool) (h : hnW x = b) (w : World) : Calls Tryd.prog 37 #[.int .i64 x, .int .i64 1, .int .i64 999999999] w fun e w' => e = .returned (.bool b) ∧ w' = w := by
  rw [← h]
  exact l1In_any x 1 999999999 w

set_option maxRecDepth 100000 in
set_option maxHeartbeats 2000000 in
theorem hintsS_any (a : Option Addr) (cap : Nat) (hs : List Hn) (w : World) (hz : hs.length ≤ 1048576) (hsm : HnsSmall hs) (hr : HnRow w a hs) :
    Calls Tryd.prog 16 #[.slice a hs.length cap] w fun e w' => e = .returned (.bool (hintsB hs)) ∧ Below w.heap.size w w' := by
  have HR : Hid (HnRow w a hs) := hr
  have HSM : Hid (HnsSmall hs) := hsm
  clear hr hsm
  go_enter Tryd.func16, Tryd.ntmps16
  go_wp2
  go_loopw [3] (fun i wr => ∃ k : Nat, k ≤ hs.length ∧ i = .int .i64 k ∧ allTo (hnOk hs) k = true ∧ Below w.heap.size w wr) (fun i _ => hs.length - (intOf i).toNat)
  case atStart => exact ⟨0, Nat.zero_le _, rfl, rfl, Below.refl _ _⟩
  case round =>
    obtain ⟨k, hk, rfl, ha, hbel⟩ := hrel
    have HA : Hid (allTo (hnOk hs) k = true) := ha
    clear ha
    by_cases hlt : k < hs.length
    · have hks : (k : Int) < (hs.length : Int) := by omega
      have hrr := HR.out.below hbel
      obtain ⟨g, off, rfl, hg, hc⟩ := hrr (by omega)
      obtain ⟨c0, c1⟩ := hc k hlt
      have hsz := HSM.out k hlt
      have HNO : Hid (hnOk hs k = false → hintsB hs = false) := hintsB_no hs k hlt
      have HYS : Hid (hnOk hs k = true → allTo (hnOk hs) (k + 1) = true) := fun h => allTo_snoc _ k HA.out h
      have HDF : Hid (hnOk hs k = (hintTI (hnat hs k).text && hnW (hnat hs k).weight && (k == 0 || Op.bytesLess (hnat hs (k - 1)).text.toList (hnat hs k).text.toList))) := rfl
      have HRR : Hid (HnRow wr (some ⟨g, off, none⟩) hs) := hrr
      have HC : Hid (∀ wx, HnRow wx (some ⟨g, off, none⟩) hs → wx.cell? ⟨g, off + k * 2, none⟩ = some (.string (hnat hs k).text) ∧ wx.cell? ⟨g, off + k * 2 + 1, none⟩ = some (.int .i64 (hnat hs k).weight)) := fun wx h => by
        obtain ⟨g', off', e, _, hc'⟩ := h (by omega)
        cases e
        exact hc' k hlt
      generalize hnat hs k = h0 at *
      obtain ⟨t, x⟩ := h0
      simp only at c0 c1 hsz HDF HC
      clear hc hrr
      go_wp2
      refine wp_region_still_one 5 (by kernel_rfl) (by kernel_rfl) rfl ?_
      simp only [List.take_succ_cons, List.take_zero]
      still_step
      still_step
      still_step
      still_step
      still_step
      refine wpStill_nil ?_
      unfold OneK
      go_simp
      go_at_call 36
      refine (l9Ok_any t _ hsz).mono ?_
      rintro e w2 ⟨rfl, hb2d⟩
      have hb2 : Below wr.heap.size wr w2 := ⟨hb2d.os, hb2d.tape, hb2d.output, hb2d.size, hb2d.block⟩
      have HB2 : Hid (Below w.heap.size w w2) := hbel.trans (hb2.mono hbel.size)
      have HR2 : Hid (HnRow w2 (some ⟨g, off, none⟩) hs) := HRR.out.below hb2
      obtain ⟨y0, y1⟩ := HC.out w2 HR2.out
      clear hb2d hb2 HRR HC c0 c1
      unfold RestK
      simp only [List.drop_succ_cons, List.drop_zero]
      cases hb : hintTI t with
      | false =>
        have HF : Hid (hintsB hs = false) := HNO.out (by rw [HDF.out, hb]; rfl)
        clear HNO HYS HDF
        repeat (go_big_quiet_step (fail))
        refine wpQuiet_nil ?_
        intro _ hw'
        obtain ⟨nq, hw''⟩ := hw'
        subst hw''
        go_wp2
        go_ret
        exact ⟨ret_bool HF.out.symm, below_drewN HB2.out nq⟩
      | true =>
        cases hw2b : hnW x with
        | false =>
          have HF : Hid (hintsB hs = false) := HNO.out (by rw [HDF.out, hb, hw2b]; rfl)
          clear HNO HYS HDF
          repeat (go_big_quiet_step ((go_at_call 37; exact Calls.quiet_of_same (l1In_is x false hw2b _))))
          refine wpQuiet_nil ?_
          intro _ hw'
          obtain ⟨nq, hw''⟩ := hw'
          subst hw''
          go_wp2
          go_ret
          exact ⟨ret_bool HF.out.symm, below_drewN HB2.out nq⟩
        | true =>
          cases k with
          | zero =>
            have HY : Hid (allTo (hnOk hs) (0 + 1) = true) := HYS.out (by rw [HDF.out, hb, hw2b]; rfl)
            clear HNO HYS HDF
            repeat (go_big_quiet_step ((go_at_call 37; exact Calls.quiet_of_same (l1In_is x true hw2b _))))
            refine wpQuiet_nil ?_
            intro _ hw'
            obtain ⟨nq, hw''⟩ := hw'
            subst hw''
            go_wp2
            exact ⟨⟨1, by omega, rfl, HY.out, below_drewN HB2.out nq⟩, by simp [intOf]; omega⟩
          | succ j =>
            obtain ⟨g', off', e, hg', hc'⟩ := HR2.out (by omega)
            cases e
            obtain ⟨p0, _⟩ := hc' j (by omega)
            rw [show j + 1 - 1 = j by omega] at HDF
            generalize (hnat hs j).text = pt at *
            have hj1 : (j : Int) < (hs.length : Int) := by omega
            have hj2 : (0 : Int) < ((j + 1 : Nat) : Int) := by omega
            have hj3 : j < hs.length := by omega
            clear hc' HR2
            cases hl : Op.bytesLess pt.toList t.toList with
            | false =>
              have HF : Hid (hintsB hs = false) := HNO.out (by rw [HDF.out, hb, hw2b, hl]; rfl)
              clear HNO HYS HDF
              repeat (go_big_quiet_step ((go_at_call 37; exact Calls.quiet_of_same (l1In_is x true hw2b _))))
              refine wpQuiet_nil ?_
              intro _ hw'
              obtain ⟨nq, hw''⟩ := hw'
              subst hw''
              go_wp2
              go_ret
              exact ⟨ret_bool HF.out.symm, below_drewN HB2.out nq⟩
            | true =>
              have HY : Hid (allTo (hnOk hs) (j + 1 + 1) = true) := HYS.out (by rw [HDF.out, hb, hw2b, hl]; simp)
              clear HNO HYS HDF
              repeat (go_big_quiet_step ((go_at_call 37; exact Calls.quiet_of_same (l1In_is x true hw2b _))))
              refine wpQuiet_nil ?_
              intro _ hw'
              obtain ⟨nq, hw''⟩ := hw'
              subst hw''
              go_wp2
              go_roundw
              case rel => exact ⟨j + 1 + 1, by omega, by go_num, HY.out, below_drewN HB2.out nq⟩
              case measure => simp [intOf]; omega
    · have hkl : k = hs.length := by omega
      subst hkl
      have HBT : Hid (hintsB hs = decide ((hs.length : Int) ≤ 10)) := by
        unfold Hid hintsB
        rw [HA.out, Bool.and_true]
        exact decide_eq_decide.2 (by omega)
      go_wp2
      go_ret
      exact ⟨ret_bool HBT.out.symm, hbel⟩
end Go.Proofs.YtgmfaganaeibkaaDoor
