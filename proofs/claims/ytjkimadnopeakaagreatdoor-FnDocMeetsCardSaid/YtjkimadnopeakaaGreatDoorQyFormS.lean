/- spec.QueryOk. -/
import Derived.Test.YtjkimadnopeakaaGreatDoorQyLeafS
import Derived.Test.YtjkimadnopeakaaGreatDoorQyFormI
import Derived.Deep.CutBlock
namespace Go.Proofs.YtjkimadnopeakaaGreatDoor
open Go.RowKit
set_option linter.unusedVariables false

theorem many_78 {k : Int} (h : k = 7 ∨ k = 8) (f t : ByteArray) (lo hi : Int) (n : Nat) : manyPartsB k f t lo hi n = (inB (n : Nat) 2 4 && f.toList.isEmpty && t.toList.isEmpty && ((lo == 0) && (hi == 0))) := by
  unfold manyPartsB noB zeroB
  rw [if_pos h]
  congr 3
  unfold inB
  rw [Bool.eq_iff_iff]
  simp
  omega
theorem many_9 (f t : ByteArray) (lo hi : Int) (n : Nat) : manyPartsB 9 f t lo hi n = (((n : Int) == 1) && f.toList.isEmpty && t.toList.isEmpty && ((lo == 0) && (hi == 0))) := by
  unfold manyPartsB noB zeroB
  rw [if_neg (by decide), if_pos rfl]
  congr 3
  rw [Bool.eq_iff_iff]
  simp
  omega
theorem many_no {k : Int} (h7 : k ≠ 7) (h8 : k ≠ 8) (h9 : k ≠ 9) (f t : ByteArray) (lo hi : Int) (n : Nat) : manyPartsB k f t lo hi n = false := by
  unfold manyPartsB
  rw [if_neg (by omega), if_neg h9]
  rfl
/-- spec.l5Ok, d deep. -/
def FormS (d : Nat) : Prop := ∀ (k : Int) (f t : ByteArray) (lo hi : Int) (ps : List Qy) (a : Option Addr) (c D : Nat) (w : World), QAt w 0 D a ps → QSz 1048576 D ps → f.size ≤ 1048576 → t.size ≤ 1048576 →
  Calls Tryz.prog 101 #[.agg #[.int .i64 k, .string f, .string t, .int .i64 lo, .int .i64 hi, .slice a ps.length c], .int .i64 (d : Nat)] w fun e w' => e = .returned (.bool (qformB d (.mk k f t lo hi ps))) ∧ Below w.heap.size w w'
set_option maxRecDepth 100000 in
theorem formS_zero : FormS 0 := by
  intro k f t lo hi ps a c D w _ _ _ _
  have HF : Hid (qformB 0 (.mk k f t lo hi ps) = false) := rfl
  go_enter Tryz.func101, Tryz.ntmps101
  go_wp2
  go_ret
  exact ⟨ret_bool HF.out.symm, (Below.refl _ w).alloc (Nat.le_refl _) _⟩
set_option maxRecDepth 100000 in
set_option maxHeartbeats 4000000 in
theorem formS_of {d : Nat} (hd : d ≤ 3) (hF : FormS d) : FormS (d + 1) := by
  intro k f t lo hi ps a cap D w ha hsz hfs hts
  have HF : Hid (FormS d) := hF
  have hb0 : Below w.heap.size w (w.alloc (.cells #[.int .i64 k, .string f, .string t, .int .i64 lo, .int .i64 hi, .slice a ps.length cap] 41)) := (Below.refl _ w).alloc (Nat.le_refl _) _
  have HB0 : Hid (Below w.heap.size w (w.alloc (.cells #[.int .i64 k, .string f, .string t, .int .i64 lo, .int .i64 hi, .slice a ps.length cap] 41))) := hb0
  have B0 := Blk.new w #[.int .i64 k, .string f, .string t, .int .i64 lo, .int .i64 hi, .slice a ps.length cap] 41
  have hz := hsz.len
  have HS : Hid (QSz 1048576 D ps) := hsz
  have HE : Hid (qformB (d + 1) (.mk k f t lo hi ps) = (if ps.length = 0 then leafB k f t lo hi else manyPartsB k f t lo hi ps.length && allTo (fun i => qformB d (qat ps i)) ps.length)) := rfl
  obtain ⟨di, hdi⟩ : ∃ di : Int, ((d + 1 : Nat) : Int) = di := ⟨_, rfl⟩
  have hd0 : decide (di < 1) = false := decide_eq_false (by omega)
  have hd1 : 1 ≤ di := by omega
  have hd2 : di ≤ 4 := by omega
  have hd3 : di - 1 = (d : Int) := by omega
  rw [hdi]
  clear hdi
  by_cases hn : ps.length = 0
  · have HB : Hid (qformB (d + 1) (.mk k f t lo hi ps) = leafB k f t lo hi) := by unfold Hid; rw [HE.out, if_pos hn]
    have hnb : ((ps.length : Int) == 0) = true := by rw [hn]; rfl
    clear HS HE ha hsz hb0 HF hF hn
    obtain ⟨wa, hwa⟩ : ∃ wa, w.alloc (.cells #[.int .i64 k, .string f, .string t, .int .i64 lo, .int .i64 hi, .slice a ps.length cap] 41) = wa := ⟨_, rfl⟩
    have HWA : Hid (w.alloc (.cells #[.int .i64 k, .string f, .string t, .int .i64 lo, .int .i64 hi, .slice a ps.length cap] 41) = wa) := hwa
    rw [hwa] at HB0 B0
    clear hwa
    have b0 := B0.cell 0
    have b1 := B0.cell 1
    have b2 := B0.cell 2
    have b3 := B0.cell 3
    have b4 := B0.cell 4
    have b5 := B0.cell 5
    simp at b0 b1 b2 b3 b4 b5
    have HL : Hid (Calls Tryz.prog 131 #[.agg #[.int .i64 k, .string f, .string t, .int .i64 lo, .int .i64 hi, .slice a ps.length cap]] wa fun e w' => e = .returned (.bool (leafB k f t lo hi)) ∧ Below wa.heap.size wa w') := l5Leaf_any k f t lo hi a ps.length cap wa hfs hts
    clear B0
    go_enter Tryz.func101, Tryz.ntmps101
    go_upto_region 1 with fail
    rw [HWA.out]
    clear HWA
    go_wp2_with fail
    refine HL.out.mono ?_
    rintro e w2 ⟨rfl, hb2⟩
    have HB2 : Hid (Below w.heap.size w w2) := HB0.out.trans (hb2.mono HB0.out.size)
    clear hb2 HB0
    go_wp2
    go_ret
    exact ⟨ret_bool HB.out.symm, HB2.out⟩
  have hnb : ((ps.length : Int) == 0) = false := beq_eq_false_iff_ne.2 (by omega)
  rw [if_neg hn] at HE
  have HA : Hid (∀ wx, Below w.heap.size w wx → QAt wx 0 D a ps) := fun wx h => ha.below h
  obtain ⟨wa, hwa⟩ : ∃ wa, w.alloc (.cells #[.int .i64 k, .string f, .string t, .int .i64 lo, .int .i64 hi, .slice a ps.length cap] 41) = wa := ⟨_, rfl⟩
  have HWA : Hid (w.alloc (.cells #[.int .i64 k, .string f, .string t, .int .i64 lo, .int .i64 hi, .slice a ps.length cap] 41) = wa) := hwa
  rw [hwa] at HB0 B0
  have HBK : Hid (∀ wx, Below wa.heap.size wa wx → Blk wx w.heap.size #[.int .i64 k, .string f, .string t, .int .i64 lo, .int .i64 hi, .slice a ps.length cap] 41) := fun wx h => B0.below h B0.lt
  clear ha hsz hb0 hF hwa B0
  go_enter Tryz.func101, Tryz.ntmps101
  go_wp2
  rw [HWA.out]
  clear HWA
  go_loopw [6] (fun i wr => ∃ j : Nat, j ≤ ps.length ∧ i = .int .i64 j ∧ allTo (fun i => qformB d (qat ps i)) j = true ∧ Below wa.heap.size wa wr) (fun i _ => ps.length - (intOf i).toNat)
  case atStart => exact ⟨0, Nat.zero_le _, rfl, rfl, Below.refl _ _⟩
  case round =>
    obtain ⟨j, hj, rfl, hall, hbel⟩ := hrel
    have HAL : Hid (allTo (fun i => qformB d (qat ps i)) j = true) := hall
    have HWR : Hid (Below w.heap.size w wr) := HB0.out.trans (hbel.mono HB0.out.size)
    have BR := HBK.out wr hbel
    clear hall
    by_cases hlt : j < ps.length
    · have hji : (j : Int) < (ps.length : Int) := by omega
      obtain ⟨D', hD⟩ : ∃ D', D = D' + 1 := by
        cases D with
        | zero =>
          have e : ps = [] := HS.out
          rw [e] at hlt
          exact absurd hlt (by simp)
        | succ D' => exact ⟨D', rfl⟩
      subst hD
      obtain ⟨g, off, rfl, _, hg, hc⟩ := (HA.out wr HWR.out) (by omega)
      obtain ⟨p, c, ⟨c0, c1, c2, c3, c4, c5⟩, hq⟩ := hc j hlt
      obtain ⟨s1, s2, s3⟩ := HS.out.2 j hlt
      have b5 := BR.cell 5
      simp at b5
      have HNO : Hid (qformB d (qat ps j) = false → allTo (fun i => qformB d (qat ps i)) ps.length = false) := fun h => allTo_false _ _ j hlt h
      have HYS : Hid (qformB d (qat ps j) = true → allTo (fun i => qformB d (qat ps i)) (j + 1) = true) := fun h => allTo_snoc _ j HAL.out h
      generalize qat ps j = q at *
      obtain ⟨kd, f', t', lo', hi', pp⟩ := q
      simp only [Qy.kind, Qy.field, Qy.text, Qy.low, Qy.high, Qy.parts] at c0 c1 c2 c3 c4 c5 hq s1 s2 s3
      clear hc BR
      go_wp2_with fail
      refine (HF.out kd f' t' lo' hi' pp p c D' _ hq s3 s1 s2).mono ?_
      rintro e w2 ⟨rfl, hb2⟩
      have hw2 := hbel.trans (hb2.mono hbel.size)
      have HW2 : Hid (Below w.heap.size w w2) := HB0.out.trans (hw2.mono HB0.out.size)
      clear c0 c1 c2 c3 c4 c5 hq hb2 hbel b5
      cases hb : qformB d (.mk kd f' t' lo' hi' pp) with
      | false =>
        have HR : Hid (qformB (d + 1) (.mk k f t lo hi ps) = false) := by unfold Hid; rw [HE.out, HNO.out hb, Bool.and_false]
        clear HNO HYS
        go_wp2
        go_ret
        exact ⟨ret_bool HR.out.symm, HW2.out⟩
      | true =>
        have HY : Hid (allTo (fun i => qformB d (qat ps i)) (j + 1) = true) := HYS.out hb
        clear HNO HYS
        go_wp2
        go_roundw
        case rel => exact ⟨j + 1, by omega, by go_num, HY.out, hw2⟩
        case measure => simp [intOf]; omega
    · have hjl : j = ps.length := by omega
      subst hjl
      rw [HAL.out, Bool.and_true] at HE
      have b0 := BR.cell 0
      have b1 := BR.cell 1
      have b2 := BR.cell 2
      have b3 := BR.cell 3
      have b4 := BR.cell 4
      simp at b0 b1 b2 b3 b4
      clear HS HA HBK HB0 HF HAL BR hbel hn hnb hd0 hd1 hd2 hd3
      by_cases h78 : k = 7 ∨ k = 8
      · rw [many_78 h78] at HE
        have HL : Hid (Calls Tryz.prog 99 #[.int .i64 (ps.length : Nat), .int .i64 2, .int .i64 4] wr fun e w' => e = .returned (.bool (inB (ps.length : Nat) 2 4)) ∧ w' = wr) := l1In_any _ 2 4 wr
        generalize inB (ps.length : Nat) 2 4 = bq at *
        rcases h78 with rfl | rfl
        all_goals
          go_wp2_with fail
          refine HL.out.mono ?_
          rintro e w2 ⟨rfl, rfl⟩
          clear HL
          cases bq
          · go_wp2
            go_ret
            exact ⟨ret_bool (by rw [HE.out]; rfl), HWR.out⟩
          cases hf : f.toList.isEmpty
          all_goals rw [hf] at HE
          · go_wp2
            go_ret
            exact ⟨ret_bool (by rw [HE.out]; rfl), HWR.out⟩
          cases ht : t.toList.isEmpty
          all_goals rw [ht] at HE
          · go_wp2
            go_ret
            exact ⟨ret_bool (by rw [HE.out]; rfl), HWR.out⟩
          cases hlo : (lo == 0)
          all_goals rw [hlo] at HE
          · go_wp2
            go_ret
            exact ⟨ret_bool (by rw [HE.out]; rfl), HWR.out⟩
          go_wp2
          go_ret
          exact ⟨ret_bool (by rw [HE.out]; simp), HWR.out⟩
      have h7b : (k == 7) = false := beq_eq_false_iff_ne.2 (by omega)
      have h8b : (k == 8) = false := beq_eq_false_iff_ne.2 (by omega)
      by_cases h9 : k = 9
      · subst h9
        rw [many_9] at HE
        cases hn1 : ((ps.length : Int) == 1)
        all_goals rw [hn1] at HE
        · go_wp2
          go_ret
          exact ⟨ret_bool (by rw [HE.out]; rfl), HWR.out⟩
        cases hf : f.toList.isEmpty
        all_goals rw [hf] at HE
        · go_wp2
          go_ret
          exact ⟨ret_bool (by rw [HE.out]; rfl), HWR.out⟩
        cases ht : t.toList.isEmpty
        all_goals rw [ht] at HE
        · go_wp2
          go_ret
          exact ⟨ret_bool (by rw [HE.out]; rfl), HWR.out⟩
        cases hlo : (lo == 0)
        all_goals rw [hlo] at HE
        · go_wp2
          go_ret
          exact ⟨ret_bool (by rw [HE.out]; rfl), HWR.out⟩
        go_wp2
        go_ret
        exact ⟨ret_bool (by rw [HE.out]; simp), HWR.out⟩
      have h9b : (k == 9) = false := beq_eq_false_iff_ne.2 h9
      rw [many_no (by omega) (by omega) h9] at HE
      go_wp2
      go_ret
      exact ⟨ret_bool HE.out.symm, HWR.out⟩
theorem formS_any : ∀ d, d ≤ 4 → FormS d
  | 0, _ => formS_zero
  | d + 1, h => formS_of (by omega) (formS_any d (by omega))
end Go.Proofs.YtjkimadnopeakaaGreatDoor
