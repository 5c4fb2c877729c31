/- l2Form answers as docHasForm does. -/
import Derived.Test.YtjkimadnopeakaaGreatDoorMg0FnExactMeets
namespace Go.Proofs.YtjkimadnopeakaaGreatDoor
open Go.RowKit

theorem nameS_val (s : ByteArray) (v : Bool) (w : World) (hs : s.size ≤ 1048576) (hv : nameI s = v) : Calls Tryz.prog 100 #[.string s] w fun e w' => e = .returned (.bool v) ∧ w' = w := by
  refine (nameS_any s w (by unfold maxLen; omega)).mono ?_
  rintro e w' ⟨rfl, rfl⟩
  rw [← hv, name_same]
  exact ⟨rfl, rfl⟩
theorem textS_val (s : ByteArray) (v : Bool) (w : World) (hs : s.size ≤ 1048576) (hv : textB s = v) : Calls Tryz.prog 98 #[.string s] w fun e w' => e = .returned (.bool v) ∧ w' = w := by
  rw [← hv]
  exact l2Text_any s w (by unfold maxLen; omega)

set_option maxHeartbeats 4000000 in
theorem l2Form_any (key : ByteArray) (a : Option Addr) (cap : Nat) (cs : List Cel) (w : World) (hk : key.size ≤ 1048576) (hz : cs.length ≤ 1048576) (hsm : CelsSmall cs) (hr : CelRow w a cs) :
    Calls Tryz.prog 54 #[.agg #[.string key, .slice a cs.length cap]] w fun e w' => e = .returned (.bool (formB key cs)) ∧ Below w.heap.size w w' := by
  have hb0 : Below w.heap.size w (w.alloc (.cells #[.string key, .slice a cs.length cap] 37)) := (Below.refl _ w).alloc (Nat.le_refl _) _
  have HB0 : Hid (Blk (w.alloc (.cells #[.string key, .slice a cs.length cap] 37)) w.heap.size #[.string key, .slice a cs.length cap] 37) := Blk.new w _ _
  go_enter Tryz.func54, Tryz.ntmps54
  go_wp2
  go_loopw [3] (fun i wr => ∃ k : Nat, k ≤ cs.length ∧ i = .int .i64 k ∧ allTo (celOk cs) k = true ∧ Blk wr w.heap.size #[.string key, .slice a cs.length cap] 37 ∧ Below w.heap.size w wr) (fun i _ => cs.length - (intOf i).toNat)
  case atStart => exact ⟨0, Nat.zero_le _, rfl, rfl, HB0.out, hb0⟩
  case round =>
    clear HB0 hb0
    obtain ⟨k, hkk, rfl, ha, hblk, hbel⟩ := hrel
    have HA : Hid (allTo (celOk cs) k = true) := ha
    clear ha
    have hbl := hblk.lt
    have e0 : wr.cell? ⟨w.heap.size, 0, none⟩ = some (.string key) := hblk.cell 0
    by_cases hlt : k < cs.length
    · have hkl : (k : Int) < (cs.length : Int) := by omega
      obtain ⟨g, off, rfl, hg, hc⟩ := (hr.below hbel) (by omega)
      obtain ⟨c0, c1⟩ := hc k hlt
      obtain ⟨hs0, hs1⟩ := hsm k hlt
      have e1 : wr.cell? ⟨w.heap.size, 1, none⟩ = some (.slice (some ⟨g, off, none⟩) cs.length cap) := hblk.cell 1
      have HBK : Hid (Blk wr w.heap.size #[.string key, .slice (some ⟨g, off, none⟩) cs.length cap] 37) := hblk
      have HNO : Hid (celOk cs k = false → formB key cs = false) := formB_no key cs k hlt
      have HCO : Hid (celOk cs k = (ordB cs k && nameI (cat cs k).name && textB (cat cs k).text)) := rfl
      clear hblk e0
      cases h1 : nameI (cat cs k).name with
      | false =>
        have hb : Hid (formB key cs = false) := HNO.out (by rw [HCO.out, h1]; simp)
        have V1 : Hid (∀ n, Calls Tryz.prog 100 #[.string (cat cs k).name] (wr.drewN n) fun e w' => e = .returned (.bool false) ∧ w' = wr.drewN n) := fun n => nameS_val _ _ _ hs0 h1
        clear HCO HNO h1
        generalize cat cs k = cl at *
        obtain ⟨nm, tx⟩ := cl
        simp only at c0 c1 hs0 hs1 V1
        clear hr hc hsm HA HBK
        go_wp2
        go_quiet ((go_at_call 100; with_reducible exact Calls.quiet_of_same (V1.out _)))
        go_wp2
        go_ret
        exact ⟨ret_bool hb.out.symm, below_drewN hbel _⟩
      | true =>
        have V1 : Hid (∀ n, Calls Tryz.prog 100 #[.string (cat cs k).name] (wr.drewN n) fun e w' => e = .returned (.bool true) ∧ w' = wr.drewN n) := fun n => nameS_val _ _ _ hs0 h1
        cases h2 : textB (cat cs k).text with
        | false =>
          have hb : Hid (formB key cs = false) := HNO.out (by rw [HCO.out, h2]; simp)
          have V2 : Hid (∀ n, Calls Tryz.prog 98 #[.string (cat cs k).text] (wr.drewN n) fun e w' => e = .returned (.bool false) ∧ w' = wr.drewN n) := fun n => textS_val _ _ _ hs1 h2
          clear HCO HNO h1 h2
          generalize cat cs k = cl at *
          obtain ⟨nm, tx⟩ := cl
          simp only at c0 c1 hs0 hs1 V1 V2
          clear hr hc hsm HA HBK
          go_wp2
          go_quiet ((first | (go_at_call 100; with_reducible exact Calls.quiet_of_same (V1.out _)) | (go_at_call 98; with_reducible exact Calls.quiet_of_same (V2.out _))))
          go_wp2
          go_ret
          exact ⟨ret_bool hb.out.symm, below_drewN hbel _⟩
        | true =>
          have V2 : Hid (∀ n, Calls Tryz.prog 98 #[.string (cat cs k).text] (wr.drewN n) fun e w' => e = .returned (.bool true) ∧ w' = wr.drewN n) := fun n => textS_val _ _ _ hs1 h2
          have HCK : Hid (celOk cs k = ordB cs k) := by unfold Hid; rw [HCO.out, h1, h2]; simp
          clear HCO h1 h2
          rcases Nat.eq_zero_or_pos k with rfl | hkp
          · have HS : Hid (allTo (celOk cs) (0 + 1) = true) := allTo_snoc _ 0 HA.out (by rw [HCK.out]; simp [ordB])
            generalize cat cs 0 = cl at *
            obtain ⟨nm, tx⟩ := cl
            simp only [Nat.zero_mul, Nat.add_zero] at c0 c1 hs0 hs1 V1 V2
            have i3 : decide ((0 : Int) < ((0 : Nat) : Int)) = false := by simp
            clear hr hc hsm HNO HA HCK
            go_wp2
            go_quiet ((first | (go_at_call 100; with_reducible exact Calls.quiet_of_same (V1.out _)) | (go_at_call 98; with_reducible exact Calls.quiet_of_same (V2.out _))))
            go_wp2
            go_roundw
            case rel => exact ⟨0 + 1, by omega, by go_num, HS.out, HBK.out, below_drewN hbel _⟩
            case measure => simp [intOf]; omega
          · obtain ⟨j, rfl⟩ : ∃ j, k = j + 1 := ⟨k - 1, by omega⟩
            have HOR : Hid (ordB cs (j + 1) = Op.bytesLess (cat cs j).name.toList (cat cs (j + 1)).name.toList) := by unfold Hid; simp [ordB]
            have p0 := (hc j (by omega)).1
            have i1 : (j : Int) + 1 < (cs.length : Int) := by omega
            have i2 : (j : Int) < (cs.length : Int) := by omega
            have i3 : (0 : Int) < (j : Int) + 1 := by omega
            cases ho : Op.bytesLess (cat cs j).name.toList (cat cs (j + 1)).name.toList with
            | false =>
              have hb : Hid (formB key cs = false) := HNO.out (by rw [HCK.out, HOR.out, ho])
              clear HOR HCK HNO
              generalize (cat cs j).name = pn at *
              generalize cat cs (j + 1) = cl at *
              obtain ⟨nm, tx⟩ := cl
              simp only at c0 c1 hs0 hs1 ho V1 V2
              clear hr hc hsm HA HBK
              go_wp2
              go_quiet ((first | (go_at_call 100; with_reducible exact Calls.quiet_of_same (V1.out _)) | (go_at_call 98; with_reducible exact Calls.quiet_of_same (V2.out _))))
              go_wp2
              go_ret
              exact ⟨ret_bool hb.out.symm, below_drewN hbel _⟩
            | true =>
              have HS : Hid (allTo (celOk cs) (j + 1 + 1) = true) := allTo_snoc _ (j + 1) HA.out (by rw [HCK.out, HOR.out, ho])
              clear HOR HCK HNO
              generalize (cat cs j).name = pn at *
              generalize cat cs (j + 1) = cl at *
              obtain ⟨nm, tx⟩ := cl
              simp only at c0 c1 hs0 hs1 ho V1 V2
              clear hr hc hsm HA
              go_wp2
              go_quiet ((first | (go_at_call 100; with_reducible exact Calls.quiet_of_same (V1.out _)) | (go_at_call 98; with_reducible exact Calls.quiet_of_same (V2.out _))))
              go_wp2
              go_roundw
              case rel => exact ⟨j + 1 + 1, by omega, by go_num, HS.out, HBK.out, below_drewN hbel _⟩
              case measure => simp [intOf]; omega
    · have hkl : k = cs.length := by omega
      subst hkl
      have e1 : wr.cell? ⟨w.heap.size, 1, none⟩ = some (.slice a cs.length cap) := hblk.cell 1
      have hb : Hid (formB key cs = (nameI key && decide ((cs.length : Int) ≤ 4))) := by
        unfold Hid formB
        rw [HA.out, Bool.and_true]
        congr 1
        exact decide_eq_decide.2 (by omega)
      clear hr hsm hblk
      cases hn : nameI key with
      | false =>
        go_wp2_with fail
        refine (nameS_val key false _ hk hn).mono ?_
        rintro e w5 ⟨rfl, rfl⟩
        go_wp2
        go_ret
        exact ⟨ret_bool (by rw [hb.out, hn]; rfl), hbel⟩
      | true =>
        go_wp2_with fail
        refine (nameS_val key true _ hk hn).mono ?_
        rintro e w5 ⟨rfl, rfl⟩
        go_wp2
        go_ret
        exact ⟨ret_bool (by rw [hb.out, hn]; simp), hbel⟩
end Go.Proofs.YtjkimadnopeakaaGreatDoor
