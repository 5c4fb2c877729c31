/- The walk of the law FnExactMeets. -/
import Derived.Test.YtjkimadnopeakaaGreatDoorMtS
import Derived.Test.YtjkimadnopeakaaGreatDoorSzMore
import Derived.Test.YtjkimadnopeakaaGreatDoorQyTo
import Derived.Test.YtjkimadnopeakaaGreatDoorQySz
import Derived.Deep.CutRange
import Derived.Deep.DeepCutAuto
namespace Go.Proofs.YtjkimadnopeakaaGreatDoor
open Go.RowKit
set_option linter.unusedVariables false

theorem toFieldS5_any (a : Option Addr) (cap : Nat) (fs : List Fld) (w : World) (hz : fs.length ≤ 1048576) (hr : FldRow w a fs) :
    Calls Tryz.prog 14 #[.slice a fs.length cap] w fun e w' => ∃ p c, e = .returned (.slice p fs.length c) ∧ fs.length ≤ c ∧ FldRow w' p fs ∧ Below w.heap.size w w' := by
  refine (toFieldS_any a cap fs w hz hr).mono ?_
  rintro e w' ⟨v, xs, rfl, ho, ht, hb⟩
  obtain ⟨p, c, rfl, hc, _, hrow⟩ := owns_fldRow ho ht
  exact ⟨p, c, rfl, hc, hrow, hb⟩
theorem szDoc2_any (key : ByteArray) (a : Option Addr) (cap : Nat) (cs : List Cel) (left0 : Int) (w : World) (h0 : 0 ≤ left0) (h1 : left0 ≤ 1048576) (hk : key.size ≤ maxLen) (hz : cs.length ≤ maxLen) (hsm : ∀ i, i < cs.length → (cat cs i).name.size ≤ maxLen ∧ (cat cs i).text.size ≤ maxLen) (hr : CelRow w a cs) :
    Calls Tryz.prog 11 #[.agg #[.string key, .slice a cs.length cap], .int .i64 left0] w fun e w' => ∃ r : Int, e = .returned (.int .i64 r) ∧ r ≤ 1048576 ∧ (0 ≤ r → key.size ≤ 1048576 ∧ cs.length ≤ 1048576 ∧ CelsSmall cs) ∧ Below w.heap.size w w' := by
  unfold maxLen at hk
  by_cases hlt : left0 - (key.size : Int) < 0
  · clear hr hsm
    go_enter Tryz.func11, Tryz.ntmps11
    go_wp2
    go_ret
    exact ⟨-1, rfl, by omega, fun h => by omega, (Below.refl _ w).alloc (Nat.le_refl _) _⟩
  · have hd : decide (left0 - (key.size : Int) < 0) = false := by simpa using hlt
    have hb0 : Below w.heap.size w (w.alloc (.cells #[.string key, .slice a cs.length cap] 25)) := (Below.refl _ w).alloc (Nat.le_refl _) _
    have r0 := hr.below hb0
    clear hr
    go_enter Tryz.func11, Tryz.ntmps11
    go_wp2_with fail
    refine (szCellS_any a cap cs (left0 - key.size) _ (by omega) (by omega) hz hsm r0).mono ?_
    rintro e w2 ⟨r, rfl, hr1, hr2, hb2⟩
    have hb3 : Below w.heap.size w w2 := hb0.trans (hb2.mono (by simp))
    clear r0 hsm
    by_cases hneg : r < 0
    · go_wp2
      go_ret
      exact ⟨-1, rfl, by omega, fun h => by omega, hb3⟩
    · have hnd : decide (r < 0) = false := by simpa using hneg
      go_wp2
      go_ret
      exact ⟨r, rfl, by omega, fun h => ⟨by omega, hr2 h⟩, hb3⟩
set_option maxRecDepth 100000 in
set_option maxHeartbeats 8000000 in
theorem wFnExactMeets (af : Option Addr) (capf : Nat) (fs : List Fld) (key : ByteArray) (a0 : Option Addr) (cap0 : Nat) (cs : List Cel) (k : Int) (f t : ByteArray) (lo hi : Int) (ps : List Qy) (a : Option Addr) (c D : Nat) (w : World) (hm : MaxL w)
    (hzf : fs.length ≤ maxLen) (hsf : ∀ i, i < fs.length → (fat fs i).name.size ≤ maxLen) (hrf : FldRow w af fs)
    (hk : key.size ≤ maxLen) (hz : cs.length ≤ maxLen) (hsm : ∀ i, i < cs.length → (cat cs i).name.size ≤ maxLen ∧ (cat cs i).text.size ≤ maxLen) (hr : CelRow w a0 cs)
    (hf : f.size ≤ maxLen) (ht : t.size ≤ maxLen) (ha : QAt w 0 D a ps) (hsz : QSz maxLen D ps) :
    Calls Tryz.prog 3 #[.slice af fs.length capf, .agg #[.string key, .slice a0 cs.length cap0], .agg #[.int .i64 k, .string f, .string t, .int .i64 lo, .int .i64 hi, .slice a ps.length c]] w fun e w' => e = .returned (.bool true) ∧ Below w.heap.size w w' := by
  have hb0 : Below w.heap.size w ((w.alloc (.cells #[.string key, .slice a0 cs.length cap0] 25)).alloc (.cells #[.int .i64 k, .string f, .string t, .int .i64 lo, .int .i64 hi, .slice a ps.length c] 28)) := ((Below.refl _ w).alloc (Nat.le_refl _) _).alloc (by simp) _
  have DB0 : Blk ((w.alloc (.cells #[.string key, .slice a0 cs.length cap0] 25)).alloc (.cells #[.int .i64 k, .string f, .string t, .int .i64 lo, .int .i64 hi, .slice a ps.length c] 28)) w.heap.size #[.string key, .slice a0 cs.length cap0] 25 := (Blk.new w _ _).alloc _
  have QB0 : Blk ((w.alloc (.cells #[.string key, .slice a0 cs.length cap0] 25)).alloc (.cells #[.int .i64 k, .string f, .string t, .int .i64 lo, .int .i64 hi, .slice a ps.length c] 28)) (w.heap.size + 1) #[.int .i64 k, .string f, .string t, .int .i64 lo, .int .i64 hi, .slice a ps.length c] 28 := by
    have h := Blk.new (w.alloc (.cells #[.string key, .slice a0 cs.length cap0] 25)) #[.int .i64 k, .string f, .string t, .int .i64 lo, .int .i64 hi, .slice a ps.length c] 28
    rw [World.size_alloc] at h
    exact h
  have HM : Hid (∀ wx, Below w.heap.size w wx → MaxL wx) := fun wx h => hm.below h
  have HA : Hid (∀ wx, Below w.heap.size w wx → QAt wx 0 D a ps) := fun wx h => ha.below h
  have HRF : Hid (∀ wx, Below w.heap.size w wx → FldRow wx af fs) := fun wx h => hrf.below h
  have HRC : Hid (∀ wx, Below w.heap.size w wx → CelRow wx a0 cs) := fun wx h => hr.below h
  have HS0 : Hid (QSz maxLen D ps) := hsz
  have HSM0 : Hid (∀ i, i < cs.length → (cat cs i).name.size ≤ maxLen ∧ (cat cs i).text.size ≤ maxLen) := hsm
  obtain ⟨u0, hu0⟩ : ∃ u0, (w.alloc (.cells #[.string key, .slice a0 cs.length cap0] 25)).alloc (.cells #[.int .i64 k, .string f, .string t, .int .i64 lo, .int .i64 hi, .slice a ps.length c] 28) = u0 := ⟨_, rfl⟩
  have HU0 : Hid ((w.alloc (.cells #[.string key, .slice a0 cs.length cap0] 25)).alloc (.cells #[.int .i64 k, .string f, .string t, .int .i64 lo, .int .i64 hi, .slice a ps.length c] 28) = u0) := hu0
  rw [hu0] at hb0 DB0 QB0
  have HBU : Hid (Below w.heap.size w u0) := hb0
  have HD : Hid (∀ wx, Below u0.heap.size u0 wx → Blk wx w.heap.size #[.string key, .slice a0 cs.length cap0] 25) := fun wx h => DB0.below h DB0.lt
  have HQ : Hid (∀ wx, Below u0.heap.size u0 wx → Blk wx (w.heap.size + 1) #[.int .i64 k, .string f, .string t, .int .i64 lo, .int .i64 hi, .slice a ps.length c] 28) := fun wx h => QB0.below h QB0.lt
  have HW : Hid (∀ wx, Below u0.heap.size u0 wx → Below w.heap.size w wx) := fun wx h => hb0.trans (h.mono hb0.size)
  have HDC : Hid (∀ wx, Below u0.heap.size u0 wx → wx.cell? ⟨w.heap.size, 0, none⟩ = some (.string key) ∧ wx.cell? ⟨w.heap.size, 1, none⟩ = some (.slice a0 cs.length cap0)) := fun wx h => ⟨(HD.out wx h).cell 0, (HD.out wx h).cell 1⟩
  have HQC : Hid (∀ wx, Below u0.heap.size u0 wx → wx.cell? ⟨w.heap.size + 1, 0, none⟩ = some (.int .i64 k) ∧ wx.cell? ⟨w.heap.size + 1, 1, none⟩ = some (.string f) ∧ wx.cell? ⟨w.heap.size + 1, 2, none⟩ = some (.string t) ∧ wx.cell? ⟨w.heap.size + 1, 3, none⟩ = some (.int .i64 lo) ∧ wx.cell? ⟨w.heap.size + 1, 4, none⟩ = some (.int .i64 hi) ∧ wx.cell? ⟨w.heap.size + 1, 5, none⟩ = some (.slice a ps.length c)) := fun wx h => ⟨(HQ.out wx h).cell 0, (HQ.out wx h).cell 1, (HQ.out wx h).cell 2, (HQ.out wx h).cell 3, (HQ.out wx h).cell 4, (HQ.out wx h).cell 5⟩
  have hl0 := QB0.lt
  clear hm ha hsz hrf hr hsm hb0 DB0 QB0 hu0
  go_enter Tryz.func3, Tryz.ntmps3
  go_upto_region 1 with fail
  rw [HU0.out]
  clear HU0
  go_wp2_with fail
  refine (szFieldSL_any af capf fs _ hzf hsf (HRF.out _ HBU.out)).mono ?_
  rintro e u1 ⟨r0, rfl, hr01, hrr0, hb1⟩
  by_cases hneg0 : r0 < 0
  · have hw1 := HW.out _ hb1
    go_wp2
    go_ret
    exact ⟨rfl, hw1⟩
  have hnd0 : decide (r0 < 0) = false := by simpa using hneg0
  obtain ⟨hz1, hsm1⟩ := hrr0 (by omega)
  have HSF : Hid (FldsSmall fs) := hsm1
  have y0 := (HD.out _ hb1).cell 0
  have y1 := (HD.out _ hb1).cell 1
  simp at y0 y1
  have rc1 := HRC.out _ (HW.out _ hb1)
  clear hsm1 hrr0 hsf
  go_wp2_with fail
  refine (szDoc2_any key a0 cap0 cs r0 _ (by omega) hr01 hk hz HSM0.out rc1).mono ?_
  rintro e u2 ⟨r2, rfl, hr21, hrr2, hb2⟩
  have hb02 := below_trans hb1 hb2
  clear y0 y1 rc1 hb1 hb2
  by_cases hneg2 : r2 < 0
  · have hw2 := HW.out _ hb02
    go_wp2
    go_ret
    exact ⟨rfl, hw2⟩
  have hnd2 : decide (r2 < 0) = false := by simpa using hneg2
  obtain ⟨hk2, hz2, hs2⟩ := hrr2 (by omega)
  have HSC : Hid (CelsSmall cs) := hs2
  have k0 := (HQ.out _ hb02).cell 0
  have k1 := (HQ.out _ hb02).cell 1
  have k2 := (HQ.out _ hb02).cell 2
  have k3 := (HQ.out _ hb02).cell 3
  have k4 := (HQ.out _ hb02).cell 4
  have k5 := (HQ.out _ hb02).cell 5
  simp at k0 k1 k2 k3 k4 k5
  have ra2 := HA.out _ (HW.out _ hb02)
  clear hs2 hrr2 HSM0
  go_wp2_with fail
  refine ((szQ_any D).1 k f t lo hi ps a c r2 _ ra2 HS0.out hf ht (by omega) hr21).mono ?_
  rintro e u3 ⟨r, rfl, hrm, hr1, hrr, hb3⟩
  have hb03 := below_trans hb02 hb3
  clear k0 k1 k2 k3 k4 k5 hb02 hb3 HS0 ra2
  by_cases hneg : r < 0
  · have hw3 := HW.out _ hb03
    go_wp2
    go_ret
    exact ⟨rfl, hw3⟩
  have hnd : decide (r < 0) = false := by simpa using hneg
  obtain ⟨hf1, ht1, hs1, _⟩ := hrr (by omega)
  have HS : Hid (QSz 1048576 D ps) := hs1
  have HIN : Hid (∀ wx p pc c, Below w.heap.size w wx → FldRow wx p fs → CelRow wx pc cs → fs.length ≤ c → MtIn wx p c fs key pc cs) := fun wx p pc c h h1 h2 h3 => ⟨hz1, h3, HSF.out, h1, hk2, hz2, HSC.out, h2, HM.out wx h⟩
  have HU3 : Hid (Below u0.heap.size u0 u3) := hb03
  have y0 := (HD.out _ hb03).cell 0
  have y1 := (HD.out _ hb03).cell 1
  have k0 := (HQ.out _ hb03).cell 0
  have k1 := (HQ.out _ hb03).cell 1
  have k2 := (HQ.out _ hb03).cell 2
  have k3 := (HQ.out _ hb03).cell 3
  have k4 := (HQ.out _ hb03).cell 4
  have k5 := (HQ.out _ hb03).cell 5
  simp at y0 y1 k0 k1 k2 k3 k4 k5
  have hw3 := HW.out _ hb03
  have rf3 := HRF.out _ hw3
  have rc3 := HRC.out _ hw3
  have ra3 := HA.out _ hw3
  have HRA3 : Hid (∀ wx, Below u3.heap.size u3 wx → QAt wx 0 D a ps) := fun wx h => ra3.below h
  have HRC3 : Hid (∀ wx, Below u3.heap.size u3 wx → CelRow wx a0 cs) := fun wx h => rc3.below h
  have hl3 : w.heap.size + 1 < u3.heap.size := by have := hb03.size; omega
  clear hs1 hrr hb03 rc3 ra3
  go_wp2_with fail
  go_cut [8] (fun v wx => v = .bool (meetB fs key cs D k f t lo hi ps) ∧ Below u0.heap.size u0 wx)
  case first =>
    go_region_with (first
      | (go_at_call 14; refine (toFieldS5_any af capf fs _ hz1 (by exact rf3)).mono ?_; rintro e u4 ⟨p4, c4, rfl, hc4, r4, hb4d⟩; have hb4 : Below u3.heap.size u3 u4 := ⟨hb4d.os, hb4d.tape, hb4d.output, hb4d.size, hb4d.block⟩; clear hb4d; obtain ⟨ya0, ya1⟩ := HDC.out u4 (below_trans HU3.out hb4); obtain ⟨ka0, ka1, ka2, ka3, ka4, ka5⟩ := HQC.out u4 (below_trans HU3.out hb4); have q4 := HRC3.out _ hb4)
      | (go_at_call 15; refine (toDoc_any key a0 cap0 cs _ hz2 (by exact q4)).mono ?_; rintro e u5 ⟨p5, c5, rfl, hc5, _, _, q5, hb5⟩; have r5 := r4.below hb5; have hb35 := below_trans hb4 hb5; obtain ⟨kb0, kb1, kb2, kb3, kb4, kb5⟩ := HQC.out u5 (below_trans HU3.out hb35); have qa5 := HRA3.out _ hb35; have hsz4 := hb4.size)
      | (go_at_call 16; refine ((toQ_any D).1 k f t lo hi ps a c _ (by exact qa5) HS.out).mono ?_; rintro e u6 ⟨p6, c6, rfl, q6, hb6⟩; have r6 := r5.below hb6; have q56 := q5.below hb6; have q6a := q6.base (Nat.zero_le _); have hb36 := below_trans hb35 hb6; have hi6 := HIN.out u6 p4 p5 c4 (hw3.trans (hb36.mono hw3.size)) r6 q56 hc4)
      | (go_at_call 13; refine (meetsS_any p4 c4 fs key p5 c5 cs k f t lo hi ps p6 c6 D _ (by exact hi6) (by exact q6a) HS.out hf1 ht1).mono ?_; rintro e u7 ⟨rfl, hb7⟩))
    all_goals
      have hb07 := below_trans HU3.out (below_trans hb36 hb7)
      clear y0 y1 k0 k1 k2 k3 k4 k5 r4 r5 r6 q4 q5 q6 q56 q6a qa5 hi6 rf3 HRA3 HRC3 ya0 ya1 ka0 ka1 ka2 ka3 ka4 ka5 kb0 kb1 kb2 kb3 kb4 kb5 hb4 hb5 hb35 hb6 hb36 hb7 HU3 hw3
      go_wp2_with fail
      go_meet
      case rel => exact ⟨rfl, hb07⟩
  case rest =>
    obtain ⟨rfl, hbc⟩ := hcut
    clear y0 y1 k0 k1 k2 k3 k4 k5 rf3 HRA3 HRC3 HU3 hw3 hl3
    have HMI : Hid (∀ wx p4 p5 p6 c4 c5 c6, MtIn wx p4 c4 fs key p5 cs → QAt wx 0 D p6 ps → Calls Tryz.prog 17 #[.slice p4 fs.length c4, .agg #[.string key, .slice p5 cs.length c5], .agg #[.int .i64 k, .string f, .string t, .int .i64 lo, .int .i64 hi, .slice p6 ps.length c6]] wx fun e w' => e = .returned (.bool (meetB fs key cs D k f t lo hi ps)) ∧ Below wx.heap.size wx w') := fun wx p4 p5 p6 c4 c5 c6 h1 h2 => meetsI_any p4 c4 fs key p5 c5 cs k f t lo hi ps p6 c6 D wx h1 h2 HS.out hf1 ht1
    generalize meetB fs key cs D k f t lo hi ps = b at *
    have rf7 := HRF.out _ (HW.out _ hbc)
    go_wp2_with fail
    refine (toFieldS5_any af capf fs _ hz1 rf7).mono ?_
    rintro e v1 ⟨p1, c1, rfl, hc1, r1, hb1⟩
    have hbv1 := below_trans hbc hb1
    obtain ⟨ya0, ya1⟩ := HDC.out v1 hbv1
    have rc1 := HRC.out _ (HW.out _ hbv1)
    clear rf7 hb1 hbc
    go_wp2_with fail
    refine (toDoc_any key a0 cap0 cs _ hz2 rc1).mono ?_
    rintro e v2 ⟨p2, c2, rfl, hc2, _, _, q2, hb2⟩
    have hA2 : Below v2.heap.size v2 (v2.alloc (.cells #[.string key, .slice p2 cs.length c2] 37)) := (Below.refl _ _).alloc (Nat.le_refl _) _
    have X2 := Blk.new v2 #[.string key, .slice p2 cs.length c2] 37
    go_upto_region 14 with fail
    obtain ⟨G2, hG2⟩ : ∃ G2, v2.heap.size = G2 := ⟨_, rfl⟩
    obtain ⟨v3, hv3⟩ : ∃ v3, v2.alloc (.cells #[.string key, .slice p2 cs.length c2] 37) = v3 := ⟨_, rfl⟩
    have q3 := q2.below hA2
    have hb13 := below_trans hb2 hA2
    rw [hv3] at hb13 q3 X2 ⊢
    rw [hG2] at X2 ⊢
    have r3 := r1.below hb13
    have hbv3 := below_trans hbv1 hb13
    obtain ⟨ka0, ka1, ka2, ka3, ka4, ka5⟩ := HQC.out v3 hbv3
    have ra3 := HA.out _ (HW.out _ hbv3)
    clear ya0 ya1 rc1 hv3 hG2 hA2 q2 hb2 hb13 r1 hbv1
    go_wp2_with fail
    refine ((toQ_any D).1 k f t lo hi ps a c _ ra3 HS.out).mono ?_
    rintro e v4 ⟨p4, c4, rfl, q4, hb4⟩
    have hA4 : Below v4.heap.size v4 (v4.alloc (.cells #[.int .i64 k, .string f, .string t, .int .i64 lo, .int .i64 hi, .slice p4 ps.length c4] 41)) := (Below.refl _ _).alloc (Nat.le_refl _) _
    have Y4 := Blk.new v4 #[.int .i64 k, .string f, .string t, .int .i64 lo, .int .i64 hi, .slice p4 ps.length c4] 41
    go_upto_region 15 with fail
    obtain ⟨G4, hG4⟩ : ∃ G4, v4.heap.size = G4 := ⟨_, rfl⟩
    obtain ⟨v5, hv5⟩ : ∃ v5, v4.alloc (.cells #[.int .i64 k, .string f, .string t, .int .i64 lo, .int .i64 hi, .slice p4 ps.length c4] 41) = v5 := ⟨_, rfl⟩
    have qa5 := (q4.base (Nat.zero_le _)).below hA4
    have hb35 := below_trans hb4 hA4
    rw [hv5] at hb35 qa5 Y4 ⊢
    rw [hG4] at Y4 ⊢
    have r5 := r3.below hb35
    have q5 := q3.below hb35
    have X5 := X2.below hb35 X2.lt
    have hbv5 := below_trans hbv3 hb35
    have hi5 := HIN.out v5 p1 p2 c1 (HW.out _ hbv5) r5 q5 hc1
    have HXB : Hid (∀ wx, Below v5.heap.size v5 wx → Blk wx G2 #[.string key, .slice p2 cs.length c2] 37) := fun wx h => X5.below h X5.lt
    have HYB : Hid (∀ wx, Below v5.heap.size v5 wx → Blk wx G4 #[.int .i64 k, .string f, .string t, .int .i64 lo, .int .i64 hi, .slice p4 ps.length c4] 41) := fun wx h => Y4.below h Y4.lt
    have HR5 : Hid (∀ wx, Below v5.heap.size v5 wx → FldRow wx p1 fs ∧ CelRow wx p2 cs ∧ QAt wx 0 D p4 ps) := fun wx h => ⟨r5.below h, q5.below h, qa5.below h⟩
    have HBV : Hid (∀ wx, Below v5.heap.size v5 wx → Below u0.heap.size u0 wx) := fun wx h => below_trans hbv5 h
    have x0 := X5.cell 0
    have x1 := X5.cell 1
    have y0 := Y4.cell 0
    have y1 := Y4.cell 1
    have y2 := Y4.cell 2
    have y3 := Y4.cell 3
    have y4 := Y4.cell 4
    have y5 := Y4.cell 5
    simp at x0 x1 y0 y1 y2 y3 y4 y5
    have HC := HMI.out v5 p1 p2 p4 c1 c2 c4 hi5 qa5
    clear ka0 ka1 ka2 ka3 ka4 ka5 ra3 hv5 hG4 hA4 q4 hb4 r3 q3 X2 Y4 X5 hb35 hi5 r5 q5 qa5 hbv3 hbv5 HMI
    go_wp2_with fail
    refine HC.mono ?_
    rintro e v6 ⟨rfl, hb6⟩
    have rf6 := HRF.out _ (HW.out _ (HBV.out _ hb6))
    clear HC x0 x1 y0 y1 y2 y3 y4 y5
    go_wp2_with fail
    refine (toFieldS5_any af capf fs _ hz1 rf6).mono ?_
    rintro e v7 ⟨p7, c7, rfl, hc7, r7, hb7⟩
    have hb57 := below_trans hb6 hb7
    obtain ⟨r57, _, _⟩ := HR5.out _ hb57
    clear rf6 hb6 hb7
    go_wp2_with fail
    refine (eqFieldS_same p1 p7 c1 c7 fs _ (by omega) r57 r7).mono ?_
    rintro e v8 ⟨rfl, hb8⟩
    have hb58 := below_trans hb57 hb8
    have HB58 : Hid (Below v5.heap.size v5 v8) := hb58
    obtain ⟨_, q58, _⟩ := HR5.out _ hb58
    have x0 := (HXB.out _ hb58).cell 0
    have x1 := (HXB.out _ hb58).cell 1
    obtain ⟨ya0, ya1⟩ := HDC.out v8 (HBV.out _ hb58)
    have HRC8 : Hid (CelRow v8 a0 cs) := HRC.out _ (HW.out _ (HBV.out _ hb58))
    have HQ58 : Hid (∀ wx, Below v8.heap.size v8 wx → CelRow wx p2 cs) := fun wx h => q58.below h
    have HXC : Hid (∀ wx, Below v8.heap.size v8 wx → wx.cell? ⟨G2, 0, none⟩ = some (.string key) ∧ wx.cell? ⟨G2, 1, none⟩ = some (.slice p2 cs.length c2)) := fun wx h => ⟨(HXB.out _ (below_trans hb58 h)).cell 0, (HXB.out _ (below_trans hb58 h)).cell 1⟩
    simp at x0 x1
    clear r57 r7 hb57 hb8 hb58 q58
    have rc8 := HRC8.out
    go_wp2_with fail
    go_cut [57] (fun v wx => v = .bool false ∧ Below v8.heap.size v8 wx)
    case first =>
      go_region_with (first
        | (go_at_call 15; refine (toDoc_any key a0 cap0 cs _ hz2 (by exact rc8)).mono ?_; rintro e v9 ⟨p9, c9, rfl, hc9, _, _, q9, hb9d⟩; have hb9 : Below v8.heap.size v8 v9 := ⟨hb9d.os, hb9d.tape, hb9d.output, hb9d.size, hb9d.block⟩; clear hb9d; have q59 := HQ58.out _ hb9; obtain ⟨xa0, xa1⟩ := HXC.out _ hb9)
        | (go_at_call 19; refine (eqDoc_same key p2 p9 c2 c9 cs _ (by omega) (by exact q59) (by exact q9)).mono ?_; rintro e v10 ⟨rfl, hb10⟩))
      all_goals
        have hb810 := below_trans hb9 hb10
        clear x0 x1 ya0 ya1 rc8 q9 q59 xa0 xa1 hb9 hb10
        go_wp2_with fail
        go_meet
        case rel => exact ⟨rfl, hb810⟩
    case rest =>
      obtain ⟨rfl, hbd⟩ := hcut
      have hb59 := below_trans HB58.out hbd
      obtain ⟨_, _, qa9⟩ := HR5.out _ hb59
      have HQ9 : Hid (∀ wx, Below wc.heap.size wc wx → QAt wx 0 D p4 ps) := fun wx h => qa9.below h
      have HYC : Hid (∀ wx, Below wc.heap.size wc wx → wx.cell? ⟨G4, 0, none⟩ = some (.int .i64 k) ∧ wx.cell? ⟨G4, 1, none⟩ = some (.string f) ∧ wx.cell? ⟨G4, 2, none⟩ = some (.string t) ∧ wx.cell? ⟨G4, 3, none⟩ = some (.int .i64 lo) ∧ wx.cell? ⟨G4, 4, none⟩ = some (.int .i64 hi) ∧ wx.cell? ⟨G4, 5, none⟩ = some (.slice p4 ps.length c4)) := fun wx h => ⟨(HYB.out wx (below_trans hb59 h)).cell 0, (HYB.out wx (below_trans hb59 h)).cell 1, (HYB.out wx (below_trans hb59 h)).cell 2, (HYB.out wx (below_trans hb59 h)).cell 3, (HYB.out wx (below_trans hb59 h)).cell 4, (HYB.out wx (below_trans hb59 h)).cell 5⟩
      obtain ⟨y0, y1, y2, y3, y4, y5⟩ := HYC.out _ (Below.refl _ _)
      obtain ⟨ka0, ka1, ka2, ka3, ka4, ka5⟩ := HQC.out _ (HBV.out _ hb59)
      have HWC : Hid (Below w.heap.size w wc) := HW.out _ (HBV.out _ hb59)
      have ra9 := (HA.out _ HWC.out).drew
      clear x0 x1 ya0 ya1 rc8 hbd hb59 qa9
      go_wp2_with fail
      go_region_with (first
        | (go_at_call 16; refine ((toQ_any D).1 k f t lo hi ps a c _ (by exact ra9) HS.out).mono ?_; rintro e z1 ⟨p11, c11, rfl, q11, hz1d⟩; have hbz1 : Below wc.heap.size wc z1 := ⟨hz1d.os, hz1d.tape, hz1d.output, hz1d.size, hz1d.block⟩; clear hz1d; have q11b := HQ9.out _ hbz1; have q11a := q11.base (Nat.zero_le _); obtain ⟨yb0, yb1, yb2, yb3, yb4, yb5⟩ := HYC.out _ hbz1)
        | (go_at_call 20; refine ((eqQ_any D).1 k f t lo hi ps p4 p11 c4 c11 _ (by exact q11b) (by exact q11a) HS.out).mono ?_; rintro e z2 ⟨rfl, hbz2⟩))
      all_goals
        have hwz := HWC.out.trans ((below_trans hbz1 hbz2).mono HWC.out.size)
        clear y0 y1 y2 y3 y4 y5 ka0 ka1 ka2 ka3 ka4 ka5 yb0 yb1 yb2 yb3 yb4 yb5 q11 q11a q11b hbz1 hbz2 ra9
        go_wp2
        go_ret
        exact ⟨rfl, hwz⟩
end Go.Proofs.YtjkimadnopeakaaGreatDoor
