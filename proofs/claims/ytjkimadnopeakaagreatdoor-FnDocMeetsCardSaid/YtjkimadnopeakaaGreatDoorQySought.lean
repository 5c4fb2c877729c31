/- impl.soughtOk: whether words may be looked for. -/
import Derived.Test.YtjkimadnopeakaaGreatDoorQyPlain
import Derived.Test.YtjkimadnopeakaaGreatDoorHintOk
import Derived.Deep.RegionHeld3
import Derived.BigQuiet
namespace Go.Proofs.YtjkimadnopeakaaGreatDoor
open Go.RowKit
set_option linter.unusedVariables false

theorem isWord_is (t : ByteArray) (b : Bool) (h : isWordB t = b) (hs : t.size ≤ 1099511627776) (w : World) : Calls Tryz.prog 152 #[.string t] w fun e w' => e = .returned (.bool b) ∧ w' = w := by
  rw [← h]
  exact (isWord_any t w hs).mono fun e w' ⟨he, hw⟩ => ⟨he, hw.symm⟩
set_option maxRecDepth 100000 in
set_option maxHeartbeats 2000000 in
theorem soughtOk_any (k : Int) (f t : ByteArray) (lo hi : Int) (p : Option Addr) (n c : Nat) (w : World) (hs : t.size ≤ 1048576) (hm : MaxL w) :
    Calls Tryz.prog 132 #[.agg #[.int .i64 k, .string f, .string t, .int .i64 lo, .int .i64 hi, .slice p n c]] w fun e w' => e = .returned (.bool (wantB k t)) ∧ Below w.heap.size w w' := by
  have hb0 : Below w.heap.size w (w.alloc (.cells #[.int .i64 k, .string f, .string t, .int .i64 lo, .int .i64 hi, .slice p n c] 41)) := (Below.refl _ w).alloc (Nat.le_refl _) _
  have B0 := Blk.new w #[.int .i64 k, .string f, .string t, .int .i64 lo, .int .i64 hi, .slice p n c] 41
  have hm0 := hm.below hb0
  have HB0 : Hid (Below w.heap.size w (w.alloc (.cells #[.int .i64 k, .string f, .string t, .int .i64 lo, .int .i64 hi, .slice p n c] 41))) := hb0
  have HWN : Hid (wantB k t = (decide ((t.size : Int) ≤ 60) && (if k = 2 then isWordB t && !(stemA t).toList.isEmpty else if k = 4 then isWordB t && decide ((t.size : Int) ≤ 12) && foldEq t else (hparts t).all isWordB && decide (2 ≤ (hparts t).length) && decide ((hparts t).length ≤ 4)))) := rfl
  clear hb0 hm
  by_cases h60 : 60 < (t.size : Int)
  · have HB : Hid (wantB k t = false) := by unfold Hid; rw [HWN.out, decide_eq_false (by omega)]; rfl
    go_enter Tryz.func132, Tryz.ntmps132
    go_wp2
    go_ret
    exact ⟨ret_bool HB.out.symm, HB0.out⟩
  have h60d : decide (60 < (t.size : Int)) = false := by simpa using h60
  rw [decide_eq_true (by omega : (t.size : Int) ≤ 60), Bool.true_and] at HWN
  by_cases hk2 : k = 2
  · subst hk2
    rw [if_pos rfl] at HWN
    cases hw : isWordB t with
    | false =>
      have HB : Hid (wantB 2 t = false) := by unfold Hid; rw [HWN.out, hw]; rfl
      go_enter Tryz.func132, Tryz.ntmps132
      go_wp2_with fail
      refine (isWord_any t _ (by omega)).mono ?_
      rintro e w1 ⟨rfl, rfl⟩
      rw [hw]
      go_wp2
      go_ret
      exact ⟨ret_bool HB.out.symm, HB0.out⟩
    | true =>
      go_enter Tryz.func132, Tryz.ntmps132
      go_wp2_with fail
      refine (isWord_any t _ (by omega)).mono ?_
      rintro e w1 ⟨rfl, rfl⟩
      rw [hw]
      go_wp2_with fail
      refine (stemI_any t _ (by unfold maxLen; omega)).mono ?_
      rintro e w2 ⟨rfl, hb2⟩
      have HB2 : Hid (Below w.heap.size w w2) := HB0.out.trans (hb2.mono HB0.out.size)
      have HE : Hid (wantB 2 t = !(stemA t).toList.isEmpty) := by unfold Hid; rw [HWN.out, hw]; rfl
      clear hb2 HB0 B0 hm0 HWN
      generalize stemA t = st at *
      cases he : st.toList.isEmpty
      all_goals
        rw [he] at HE
        go_wp2
        go_ret
        exact ⟨ret_bool HE.out.symm, HB2.out⟩
  · rw [if_neg hk2] at HWN
    have hk2b : (k == 2) = false := beq_eq_false_iff_ne.2 hk2
    by_cases hk4 : k = 4
    · subst hk4
      rw [if_pos rfl] at HWN
      cases hw : isWordB t with
      | false =>
        have HB : Hid (wantB 4 t = false) := by unfold Hid; rw [HWN.out, hw]; rfl
        go_enter Tryz.func132, Tryz.ntmps132
        go_wp2
        go_quiet ((go_at_call 152; exact Calls.quiet_of_same (isWord_is t false hw (by omega) _)))
        go_wp2
        go_ret
        exact ⟨ret_bool HB.out.symm, below_drewN HB0.out nq⟩
      | true =>
        by_cases h12 : (t.size : Int) ≤ 12
        · have HE : Hid (wantB 4 t = foldEq t) := by unfold Hid; rw [HWN.out, hw, decide_eq_true h12]; rfl
          have HFE : Hid (foldEq t = ((foldA t).toList == t.toList)) := rfl
          go_enter Tryz.func132, Tryz.ntmps132
          go_wp2
          generalize w.alloc (.cells #[.int .i64 4, .string f, .string t, .int .i64 lo, .int .i64 hi, .slice p n c] 41) = wa at *
          have hlt0 := B0.lt
          have b2 := B0.cell 2
          simp at b2
          go_region_held3 (fun wx => wx.cell? ⟨w.heap.size, 2, none⟩ = some (.string t)) (first | go_keep | assumption) (first
            | (go_at_call 152; refine (isWord_is t true hw (by omega) _).mono ?_; rintro e w1 ⟨rfl, rfl⟩)
            | (go_at_call 138; refine (foldI_any t _ (by unfold maxLen; omega)).mono ?_; rintro e w2 ⟨rfl, hb2⟩; have hc2 : w2.cell? ⟨w.heap.size, 2, none⟩ = some (.string t) := (hb2.cell (p := ⟨w.heap.size, 2, none⟩) (by simpa using hlt0)).trans (by simpa using b2)))
          all_goals
            have HB2 : Hid (Below w.heap.size w w2) := HB0.out.trans ((⟨hb2.os, hb2.tape, hb2.output, hb2.size, hb2.block⟩ : Below wa.heap.size wa w2).mono HB0.out.size)
            clear hb2 B0 hc2 b2
            go_wp2
            go_ret
            exact ⟨ret_bool (by rw [HE.out]; exact HFE.out.symm), HB2.out⟩
        · have HB : Hid (wantB 4 t = false) := by unfold Hid; rw [HWN.out, decide_eq_false h12]; simp
          have h12d : decide ((t.size : Int) ≤ 12) = false := decide_eq_false h12
          go_enter Tryz.func132, Tryz.ntmps132
          go_wp2
          go_quiet ((go_at_call 152; exact Calls.quiet_of_same (isWord_is t true hw (by omega) _)))
          go_wp2
          go_ret
          exact ⟨ret_bool HB.out.symm, below_drewN HB0.out nq⟩
    · rw [if_neg hk4] at HWN
      have hk4b : (k == 4) = false := beq_eq_false_iff_ne.2 hk4
      have hlen : (hparts t).length = manyB 32 t + 1 := cuts_full_len 32 t
      have hmn := manyB_le 32 t
      have HSZ : Hid (∀ i, i < (hparts t).length → (pat (hparts t) i).size ≤ 1048576) := fun i hi => by have := pat_size 32 (manyB 32 t) t i hi; unfold hparts; omega
      have HSP : Hid (∀ w, MaxL w → Calls Tryz.prog 153 #[.string t, .string ⟨#[32]⟩] w fun e w' => ∃ g, e = .returned (.slice (some ⟨g, 0, none⟩) (manyB 32 t + 1) (manyB 32 t + 1)) ∧ StrRow w' (some ⟨g, 0, none⟩) (cuts 32 (manyB 32 t) t) ∧ Below w.heap.size w w') := fun w hm => split_any t 32 w hs hm
      obtain ⟨ps, hps⟩ : ∃ ps, hparts t = ps := ⟨_, rfl⟩
      have HPS : Hid (cuts 32 (manyB 32 t) t = ps) := hps
      rw [hps] at HWN hlen HSZ
      rw [HPS.out] at HSP
      rw [← hlen] at HSP
      have hpl : ps.length ≤ 61 := by omega
      clear hlen hmn hps HPS
      go_enter Tryz.func132, Tryz.ntmps132
      go_wp2_with fail
      refine (HSP.out _ hm0).mono ?_
      rintro e w2 ⟨g, rfl, hrow, hb2⟩
      have HB2 : Hid (Below w.heap.size w w2) := HB0.out.trans (hb2.mono HB0.out.size)
      have HR : Hid (StrRow w2 (some ⟨g, 0, none⟩) ps) := hrow
      clear HSP hm0 hb2 hrow B0 HB0
      go_wp2
      go_loop [47] (fun i => ∃ k : Nat, k ≤ ps.length ∧ i = .int .i64 k ∧ allTo (fun j => isWordB (pat ps j)) k = true) (fun i => ps.length - (intOf i).toNat)
      case atStart => exact ⟨0, Nat.zero_le _, rfl, rfl⟩
      case round =>
        obtain ⟨j, hj, rfl, ha⟩ := hrel
        have HA : Hid (allTo (fun j => isWordB (pat ps j)) j = true) := ha
        clear ha
        by_cases hlt : j < ps.length
        · have hks : (j : Int) < (ps.length : Int) := by omega
          obtain ⟨g', e, hg, hc⟩ := HR.out (by omega)
          cases e
          have c1 : w2.cell? ⟨g, j, none⟩ = some (.string (pat ps j)) := hc j hlt
          have hz := HSZ.out j hlt
          have HNO : Hid (isWordB (pat ps j) = false → ps.all isWordB = false) := fun h => by
            rw [List.all_eq_false]
            exact ⟨ps[j], List.getElem_mem _, by rw [← pat_get _ _ hlt, h]; decide⟩
          have HYS : Hid (isWordB (pat ps j) = true → allTo (fun j => isWordB (pat ps j)) (j + 1) = true) := fun h => allTo_snoc _ j HA.out h
          clear hc
          generalize pat ps j = q at *
          go_wp2_with fail
          refine (isWord_any q _ (by omega)).mono ?_
          rintro e _ ⟨rfl, rfl⟩
          cases hb : isWordB q with
          | false =>
            have HB : Hid (wantB k t = false) := by unfold Hid; rw [HWN.out, HNO.out hb]; rfl
            go_wp2
            go_ret
            exact ⟨ret_bool HB.out.symm, HB2.out⟩
          | true =>
            have HYH : Hid (allTo (fun j => isWordB (pat ps j)) (j + 1) = true) := HYS.out hb
            go_wp2
            go_round
            case rel => exact ⟨j + 1, by omega, by go_num, HYH.out⟩
            case measure => simp [intOf]; omega
        · have hkl : j = ps.length := by omega
          have hall : ps.all isWordB = true := by
            rw [List.all_eq_true]
            intro x hx
            obtain ⟨i, hi, rfl⟩ := List.getElem_of_mem hx
            have := (allTo_iff _ _).1 HA.out i (by omega)
            rw [← pat_get _ _ hi]
            exact this
          rw [hall, Bool.true_and] at HWN
          subst hkl
          clear hall
          by_cases h2 : 2 ≤ ps.length
          · have h2i : (2 : Int) ≤ (ps.length : Int) := by omega
            rw [decide_eq_true h2, Bool.true_and] at HWN
            by_cases h4 : ps.length ≤ 4
            · have h4i : (ps.length : Int) ≤ 4 := by omega
              rw [decide_eq_true h4] at HWN
              go_wp2
              go_ret
              exact ⟨ret_bool HWN.out.symm, HB2.out⟩
            · have h4i : decide ((ps.length : Int) ≤ 4) = false := decide_eq_false (by omega)
              rw [decide_eq_false h4] at HWN
              go_wp2
              go_ret
              exact ⟨ret_bool HWN.out.symm, HB2.out⟩
          · have h2i : decide ((2 : Int) ≤ (ps.length : Int)) = false := decide_eq_false (by omega)
            rw [decide_eq_false h2, Bool.false_and] at HWN
            go_wp2
            go_ret
            exact ⟨ret_bool HWN.out.symm, HB2.out⟩
end Go.Proofs.YtjkimadnopeakaaGreatDoor
