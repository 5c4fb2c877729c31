/- The walk of the law FnMeetsTurn. -/
import Derived.Test.YtjkimadnopeakaaGreatDoorTuB1
import Derived.Test.YtjkimadnopeakaaGreatDoorDrC
import Derived.Deep.RegionLaw
namespace Go.Proofs.YtjkimadnopeakaaGreatDoor
open Go.RowKit
set_option linter.unusedVariables false

theorem celsB_smallM {cs : List Cel} (h : CelsB cs) : CelsSmall cs := fun i hi => by
  rw [cat_get _ _ hi]
  have := h _ (List.getElem_mem hi)
  omega
theorem turnV_szT {D : Nat} {q : Qy} (hs : QSz 1048576 D q.parts) (hf : q.field.size ≤ 1048576) (ht : q.text.size ≤ 1048576) : QSz 1048576 (D + 1) (turnV D q).parts ∧ (turnV D q).field.size ≤ 1048576 ∧ (turnV D q).text.size ≤ 1048576 := by
  unfold turnV
  split
  · rename_i h
    unfold turnB at h
    rw [Bool.and_eq_true] at h
    exact turn_sz (by decide) D 4 q (ok_form h.1) hs hf ht
  · exact ⟨⟨Nat.zero_le _, fun i hi => absurd hi (Nat.not_lt_zero _)⟩, Nat.zero_le _, Nat.zero_le _⟩
set_option maxRecDepth 100000 in
set_option maxHeartbeats 8000000 in
theorem wFnMeetsTurn (a0 : Option Addr) (len0 cap0 : Nat) (w : World) (hm : MaxL w) (b0 : BytesIn w a0 len0 cap0) :
    Calls Tryz.prog 5 #[.slice a0 len0 cap0] w fun e w' => e = .returned (.bool true) ∧ Below w.heap.size w w' := by
  have m0 := b0.le
  have m1 := b0.max
  unfold maxLen at m1
  by_cases hbig0 : 1048576 < (len0 : Int)
  · clear b0 hm
    go_enter Tryz.func5, Tryz.ntmps5
    go_wp2
    go_ret
    exact ⟨rfl, Below.refl _ _⟩
  have HM : Hid (∀ wx, Below w.heap.size w wx → MaxL wx) := fun wx h => hm.below h
  clear hm
  go_enter Tryz.func5, Tryz.ntmps5
  go_wp2_with fail
  refine (drawMeets_any _ _ _ _ b0).mono ?_
  rintro e u1 ⟨vf, fs, key, vc, cs, k, lo, hi, f, t, ps, p, c, rfl, hfl, hfb, hof, hkey, hcs, hcb, hoc, hf, ht, hat, hsz, hb1⟩
  obtain ⟨pf, cf, rfl, hcf, _, hrf⟩ := owns_fldRow hof (fldTo_cells fs)
  obtain ⟨pc, cc, rfl, _, _, _, hrc⟩ := owns_celRow hoc (celTo_cells cs)
  have HB1 : Hid (Below w.heap.size w u1) := hb1
  have HMU : Hid (∀ wx, Below u1.heap.size u1 wx → MaxL wx) := fun wx h => HM.out wx (below_trans hb1 h)
  have hpl : ps.length ≤ 16 := hsz.len
  have hs4 : QSz 1048576 4 ps := hsz.grow (by decide)
  have ha0 := hat.base (Nat.zero_le _)
  have HS : Hid (QSz 1048576 4 ps) := hs4
  have HIN : Hid (∀ wx, Below u1.heap.size u1 wx → MtIn wx pf cf fs key pc cs) := fun wx h => ⟨by omega, hcf, hfb.small, hrf.below h, by omega, by omega, celsB_smallM hcb, hrc.below h, HMU.out wx h⟩
  have HA : Hid (∀ wx, Below u1.heap.size u1 wx → QAt wx 0 4 p ps) := fun wx h => ha0.below h
  have HI : Hid (∀ wx, Below u1.heap.size u1 wx → Calls Tryz.prog 17 #[.slice pf fs.length cf, .agg #[.string key, .slice pc cs.length cc], .agg #[.int .i64 k, .string f, .string t, .int .i64 lo, .int .i64 hi, .slice p ps.length c]] wx fun e w' => e = .returned (.bool (meetB fs key cs 4 k f t lo hi ps)) ∧ Below wx.heap.size wx w') := fun wx h => meetsI_any pf cf fs key pc cc cs k f t lo hi ps p c 4 wx (HIN.out wx h) (ha0.below h) hs4 (by omega) (by omega)
  have HSPunused : True := trivial
  have HSP : Hid (∀ wx, Below u1.heap.size u1 wx → Calls Tryz.prog 13 #[.slice pf fs.length cf, .agg #[.string key, .slice pc cs.length cc], .agg #[.int .i64 k, .string f, .string t, .int .i64 lo, .int .i64 hi, .slice p ps.length c]] wx fun e w' => e = .returned (.bool (meetB fs key cs 4 k f t lo hi ps)) ∧ Below wx.heap.size wx w') := fun wx h => meetsS_any pf cf fs key pc cc cs k f t lo hi ps p c 4 wx (HIN.out wx h) (ha0.below h) hs4 (by omega) (by omega)
  have HDO : Hid (∀ wx, Below u1.heap.size u1 wx → Calls Tryz.prog 22 #[.slice pf fs.length cf, .agg #[.string key, .slice pc cs.length cc]] wx fun e w' => e = .returned (.bool (docOkB fs key cs)) ∧ Below wx.heap.size wx w') := fun wx h => by
    have i := HIN.out wx h
    exact docOkS_any pf cf fs key pc cc cs wx i.zf i.sf i.rf i.zk i.zc i.sc i.rc
  have HQF : Hid (∀ wx, Below u1.heap.size u1 wx → Calls Tryz.prog 23 #[.slice pf fs.length cf, .agg #[.int .i64 k, .string f, .string t, .int .i64 lo, .int .i64 hi, .slice p ps.length c]] wx fun e w' => e = .returned (.bool (fitsB fs 4 k f t lo hi ps)) ∧ Below wx.heap.size wx w') := fun wx h => by
    have i := HIN.out wx h
    exact queryFitsS_any pf cf fs k f t lo hi ps p c 4 wx i.zf i.sf i.rf (ha0.below h) hs4 (by omega) (by omega)
  have HI2 : Hid (∀ wx, Below u1.heap.size u1 wx → Calls Tryz.prog 17 #[.slice pf fs.length cf, .agg #[.string key, .slice pc cs.length cc], .agg #[.int .i64 k, .string f, .string t, .int .i64 lo, .int .i64 hi, .slice p ps.length c]] wx fun e w' => e = .returned (.bool (meetB fs key cs 4 k f t lo hi ps)) ∧ Below wx.heap.size wx w') := HI.out
  have htw : turnB 4 (.mk k f t lo hi ps) = true → docOkB fs key cs = true → fitsB fs 4 k f t lo hi ps = true → fitsO fs 5 (turnV 4 (.mk k f t lo hi ps)) = true ∧ meetO fs key cs 5 (turnV 4 (.mk k f t lo hi ps)) = !meetB fs key cs 4 k f t lo hi ps := fun h1 h2 h3 => by
    have e1 : turnV 4 (.mk k f t lo hi ps) = turnQ 4 (.mk k f t lo hi ps) := if_pos h1
    rw [e1]
    exact ⟨turned_fits (q := .mk k f t lo hi ps) 1048576 hs4 h3 h1, turned_meets (q := .mk k f t lo hi ps) 1048576 hs4 h2 h3 h1⟩
  have HTW : Hid _ := htw
  have hT1 : Hid (∀ wx, Below u1.heap.size u1 wx → Calls Tryz.prog 24 #[.agg #[.int .i64 k, .string f, .string t, .int .i64 lo, .int .i64 hi, .slice p ps.length c]] wx fun e w' => ∃ p' c', e = .returned (.tuple #[(turnV 4 (.mk k f t lo hi ps)).agg p' c', .bool (turnB 4 (.mk k f t lo hi ps))]) ∧ QAt w' 0 5 p' (turnV 4 (.mk k f t lo hi ps)).parts ∧ Below wx.heap.size wx w') := fun wx h => by
    refine (queryTurnI_any k f t lo hi ps p c 4 wx (ha0.below h) hs4 (by omega) (by omega) (HMU.out wx h)).mono ?_
    rintro e w' ⟨p', c', fp, rfl, ⟨hq, _⟩, hb⟩
    exact ⟨p', c', rfl, hq.at (fun _ _ => Nat.zero_le _), hb⟩
  have hT2 : Hid (∀ wx, Below u1.heap.size u1 wx → Calls Tryz.prog 25 #[.agg #[.int .i64 k, .string f, .string t, .int .i64 lo, .int .i64 hi, .slice p ps.length c]] wx fun e w' => ∃ p' c', e = .returned (.tuple #[(turnV 4 (.mk k f t lo hi ps)).agg p' c', .bool (turnB 4 (.mk k f t lo hi ps))]) ∧ QAt w' 0 5 p' (turnV 4 (.mk k f t lo hi ps)).parts ∧ Below wx.heap.size wx w') := fun wx h => by
    refine (queryTurnS_any k f t lo hi ps p c 4 wx (ha0.below h) hs4 (by omega) (by omega)).mono ?_
    rintro e w' ⟨p', c', rfl, hq, hb⟩
    exact ⟨p', c', rfl, hq.base (Nat.zero_le _), hb⟩
  have hz1 : QSz 1048576 5 (turnV 4 (.mk k f t lo hi ps)).parts ∧ (turnV 4 (.mk k f t lo hi ps)).field.size ≤ 1048576 ∧ (turnV 4 (.mk k f t lo hi ps)).text.size ≤ 1048576 := turnV_szT hs4 (by show f.size ≤ _; omega) (by show t.size ≤ _; omega)
  obtain ⟨X, hX⟩ : ∃ X, turnV 4 (.mk k f t lo hi ps) = X := ⟨_, rfl⟩
  obtain ⟨b1, hb1e⟩ : ∃ b1, turnB 4 (.mk k f t lo hi ps) = b1 := ⟨_, rfl⟩
  rw [hX] at HTW hT1 hT2 hz1
  rw [hb1e] at HTW hT1 hT2
  have HM3 : Hid (∀ wx p2 c2, Below u1.heap.size u1 wx → QAt wx 0 5 p2 X.parts → Calls Tryz.prog 17 #[.slice pf fs.length cf, .agg #[.string key, .slice pc cs.length cc], X.agg p2 c2] wx fun e w' => e = .returned (.bool (meetO fs key cs 5 X)) ∧ Below wx.heap.size wx w') := fun wx p2 c2 h hq => by
    obtain ⟨ky, fy, ty, ly, hy, py⟩ := X
    exact meetsI_any pf cf fs key pc cc cs ky fy ty ly hy py p2 c2 5 wx (HIN.out wx h) hq hz1.1 hz1.2.1 hz1.2.2
  have HF3 : Hid (∀ wx p2 c2, Below u1.heap.size u1 wx → QAt wx 0 5 p2 X.parts → Calls Tryz.prog 27 #[.slice pf fs.length cf, X.agg p2 c2] wx fun e w' => e = .returned (.bool (fitsO fs 5 X)) ∧ Below wx.heap.size wx w') := fun wx p2 c2 h hq => by
    obtain ⟨ky, fy, ty, ly, hy, py⟩ := X
    have i := HIN.out wx h
    exact queryFitsI_any pf cf fs ky fy ty ly hy py p2 c2 5 wx i.zf i.cf i.sf i.rf hq hz1.1 hz1.2.1 hz1.2.2 i.m
  have HSD : Hid (∀ wx p2 c2 p3 c3, QAt wx 0 5 p2 X.parts → QAt wx 0 5 p3 X.parts → Calls Tryz.prog 26 #[X.agg p2 c2, X.agg p3 c3] wx fun e w' => e = .returned (.bool true) ∧ Below wx.heap.size wx w') := fun wx p2 c2 p3 c3 h1 h2 => by
    obtain ⟨ky, fy, ty, ly, hy, py⟩ := X
    exact sdQ_any 5 ky fy ty ly hy py p2 p3 c2 c3 wx h1 h2 hz1.1
  generalize meetO fs key cs 5 X = mo at *
  generalize fitsO fs 5 X = fo at *
  generalize meetB fs key cs 4 k f t lo hi ps = mb at *
  generalize docOkB fs key cs = bd at *
  generalize fitsB fs 4 k f t lo hi ps = bf at *
  have HTWH : Hid (b1 = true → bd = true → bf = true → fo = true ∧ mo = !mb) := HTW.out
  clear hX hb1e hz1 htw HTW HSPunused HSP HI
  obtain ⟨kx, fx, tx, lx, hx, px⟩ := X
  simp only [Qy.agg, Qy.kind, Qy.field, Qy.text, Qy.low, Qy.high, Qy.parts] at hT1 hT2 HM3 HF3 HSD
  have hA1 : Below u1.heap.size u1 ((u1.alloc (.cells #[.string key, .slice pc cs.length cc] 37)).alloc (.cells #[.int .i64 k, .string f, .string t, .int .i64 lo, .int .i64 hi, .slice p ps.length c] 41)) := ((Below.refl _ _).alloc (Nat.le_refl _) _).alloc (by simp) _
  have D0 : Blk ((u1.alloc (.cells #[.string key, .slice pc cs.length cc] 37)).alloc (.cells #[.int .i64 k, .string f, .string t, .int .i64 lo, .int .i64 hi, .slice p ps.length c] 41)) u1.heap.size #[.string key, .slice pc cs.length cc] 37 := (Blk.new u1 _ _).alloc _
  have Q0 : QBox ((u1.alloc (.cells #[.string key, .slice pc cs.length cc] 37)).alloc (.cells #[.int .i64 k, .string f, .string t, .int .i64 lo, .int .i64 hi, .slice p ps.length c] 41)) (u1.heap.size + 1) k f t lo hi p ps.length c := by
    have h := Blk.new (u1.alloc (.cells #[.string key, .slice pc cs.length cc] 37)) #[.int .i64 k, .string f, .string t, .int .i64 lo, .int .i64 hi, .slice p ps.length c] 41
    rw [World.size_alloc] at h
    exact h
  clear b0 HM hof hat hoc hsz hs4 ha0 hrf hrc hfb hcb hb1 hf ht hcf hfl hkey hcs
  go_upto_region 4 with fail
  obtain ⟨N, hN⟩ : ∃ N, u1.heap.size = N := ⟨_, rfl⟩
  obtain ⟨u2, hu2⟩ : ∃ u2, ((u1.alloc (.cells #[.string key, .slice pc cs.length cc] 37)).alloc (.cells #[.int .i64 k, .string f, .string t, .int .i64 lo, .int .i64 hi, .slice p ps.length c] 41)) = u2 := ⟨_, rfl⟩
  rw [hu2] at hA1 D0 Q0 ⊢
  rw [hN] at D0 Q0 ⊢
  have HDB : Hid (∀ wx, Below u2.heap.size u2 wx → Blk wx N #[.string key, .slice pc cs.length cc] 37) := fun wx h => D0.below h D0.lt
  have HQB : Hid (∀ wx, Below u2.heap.size u2 wx → QBox wx (N + 1) k f t lo hi p ps.length c) := fun wx h => Q0.below h Q0.lt
  have HB2 : Hid (∀ wx, Below u2.heap.size u2 wx → Below u1.heap.size u1 wx) := fun wx h => below_trans hA1 h
  have HWW : Hid (∀ wx, Below u1.heap.size u1 wx → Below w.heap.size w wx) := fun wx h => HB1.out.trans (h.mono HB1.out.size)
  have z0 := D0.cell 0
  have z1 := D0.cell 1
  have y0 := Q0.cell 0
  have y1 := Q0.cell 1
  have y2 := Q0.cell 2
  have y3 := Q0.cell 3
  have y4 := Q0.cell 4
  have y5 := Q0.cell 5
  simp at z0 z1 y0 y1 y2 y3 y4 y5
  have hA2 := HB2.out u2 (Below.refl _ _)
  clear hu2 hA1 D0 Q0 hN
  go_wp2_with fail
  refine (hT1.out _ hA2).mono ?_
  rintro e u4 ⟨p4, c4, rfl, q4, hb4⟩
  clear z0 z1 y0 y1 y2 y3 y4 y5 hA2
  have hX4 : Below u4.heap.size u4 (u4.alloc (.cells #[.int .i64 kx, .string fx, .string tx, .int .i64 lx, .int .i64 hx, .slice p4 px.length c4] 41)) := (Below.refl _ _).alloc (Nat.le_refl _) _
  have X4 := Blk.new u4 #[.int .i64 kx, .string fx, .string tx, .int .i64 lx, .int .i64 hx, .slice p4 px.length c4] 41
  go_upto_region 5 with fail
  obtain ⟨G4, hG4⟩ : ∃ G4, u4.heap.size = G4 := ⟨_, rfl⟩
  obtain ⟨u5, hu5⟩ : ∃ u5, u4.alloc (.cells #[.int .i64 kx, .string fx, .string tx, .int .i64 lx, .int .i64 hx, .slice p4 px.length c4] 41) = u5 := ⟨_, rfl⟩
  have q5 := q4.below hX4
  rw [hu5] at hX4 X4 q5 ⊢
  rw [hG4] at X4 ⊢
  have hb5 := below_trans hb4 hX4
  have hA5 := HB2.out u5 hb5
  have HX5 : Hid (∀ wx, Below u5.heap.size u5 wx → QBox wx G4 kx fx tx lx hx p4 px.length c4 ∧ QAt wx 0 5 p4 px) := fun wx h => ⟨X4.below h X4.lt, q5.below h⟩
  have Q5 := HQB.out _ hb5
  have D5 := HDB.out _ hb5
  have z0 := D5.cell 0
  have z1 := D5.cell 1
  have y0 := Q5.cell 0
  have y1 := Q5.cell 1
  have y2 := Q5.cell 2
  have y3 := Q5.cell 3
  have y4 := Q5.cell 4
  have y5 := Q5.cell 5
  simp at z0 z1 y0 y1 y2 y3 y4 y5
  clear hu5 hG4 X4 hX4 q4 q5 hb4 Q5 D5
  go_wp2_with fail
  refine (hT2.out _ hA5).mono ?_
  rintro e u6 ⟨p6, c6, rfl, q6, hb6⟩
  have hb26 := below_trans hb5 hb6
  clear z0 z1 y0 y1 y2 y3 y4 y5 hA5 hT1 hT2
  have hX6 : Below u6.heap.size u6 (u6.alloc (.cells #[.int .i64 kx, .string fx, .string tx, .int .i64 lx, .int .i64 hx, .slice p6 px.length c6] 41)) := (Below.refl _ _).alloc (Nat.le_refl _) _
  have X6 := Blk.new u6 #[.int .i64 kx, .string fx, .string tx, .int .i64 lx, .int .i64 hx, .slice p6 px.length c6] 41
  go_upto_region 6 with fail
  obtain ⟨G6, hG6⟩ : ∃ G6, u6.heap.size = G6 := ⟨_, rfl⟩
  obtain ⟨u7, hu7⟩ : ∃ u7, u6.alloc (.cells #[.int .i64 kx, .string fx, .string tx, .int .i64 lx, .int .i64 hx, .slice p6 px.length c6] 41) = u7 := ⟨_, rfl⟩
  have q7 := q6.below hX6
  rw [hu7] at hX6 X6 q7 ⊢
  rw [hG6] at X6 ⊢
  have hb57 := below_trans hb6 hX6
  have hb7 := below_trans hb26 hX6
  have hA7 := HB2.out u7 hb7
  have HX7 : Hid (∀ wx, Below u7.heap.size u7 wx → QBox wx G4 kx fx tx lx hx p4 px.length c4 ∧ QAt wx 0 5 p4 px ∧ QBox wx G6 kx fx tx lx hx p6 px.length c6 ∧ QAt wx 0 5 p6 px) := fun wx h => ⟨(HX5.out _ (below_trans hb57 h)).1, (HX5.out _ (below_trans hb57 h)).2, X6.below h X6.lt, q7.below h⟩
  have HC7 : Hid (∀ wx, Below u7.heap.size u7 wx → Below u2.heap.size u2 wx) := fun wx h => below_trans hb7 h
  have hXA := HX7.out _ (Below.refl _ _)
  have a0' := hXA.1.cell 0
  have a1' := hXA.1.cell 1
  have a2' := hXA.1.cell 2
  have a3' := hXA.1.cell 3
  have a4' := hXA.1.cell 4
  have a5' := hXA.1.cell 5
  have g0' := hXA.2.2.1.cell 0
  have g1' := hXA.2.2.1.cell 1
  have g2' := hXA.2.2.1.cell 2
  have g3' := hXA.2.2.1.cell 3
  have g4' := hXA.2.2.1.cell 4
  have g5' := hXA.2.2.1.cell 5
  have HS1 := HSD.out u7 p4 c4 p6 c6 hXA.2.1 hXA.2.2.2
  simp at a0' a1' a2' a3' a4' a5' g0' g1' g2' g3' g4' g5'
  clear hu7 hG6 X6 hX6 q6 q7 hb6 hb26 hb5 hb57 hb7 hXA HX5
  have hbb : (b1 != b1) = false := by cases b1 <;> rfl
  have hbe : (b1 == b1) = true := by cases b1 <;> rfl
  go_wp2_with fail
  refine HS1.mono ?_
  rintro e u8 ⟨rfl, hb8⟩
  clear HS1 a0' a1' a2' a3' a4' a5' g0' g1' g2' g3' g4' g5' hA7
  cases b1 with
  | false =>
    have hXB := HX7.out _ hb8
    have a0' := hXB.1.cell 0
    have a1' := hXB.1.cell 1
    have a2' := hXB.1.cell 2
    have a3' := hXB.1.cell 3
    have a4' := hXB.1.cell 4
    have a5' := hXB.1.cell 5
    have g0' := hXB.2.2.1.cell 0
    have g1' := hXB.2.2.1.cell 1
    have g2' := hXB.2.2.1.cell 2
    have g3' := hXB.2.2.1.cell 3
    have g4' := hXB.2.2.1.cell 4
    have g5' := hXB.2.2.1.cell 5
    have HS2 := HSD.out _ p4 c4 p6 c6 hXB.2.1 hXB.2.2.2
    simp at a0' a1' a2' a3' a4' a5' g0' g1' g2' g3' g4' g5'
    clear hXB HX7 HSD HQF HDO HM3 HF3 HI2 HTWH
    go_wp2_with fail
    refine HS2.mono ?_
    rintro e u9 ⟨rfl, hb9d⟩
    have hw9 := HWW.out _ (HB2.out _ (HC7.out _ (below_trans hb8 hb9d)))
    clear HS2 a0' a1' a2' a3' a4' a5' g0' g1' g2' g3' g4' g5'
    go_wp2
    go_ret
    exact ⟨rfl, hw9⟩
  | true =>
    have hA8 := HB2.out _ (HC7.out _ hb8)
    have D8 := HDB.out _ (HC7.out _ hb8)
    have Q8 := HQB.out _ (HC7.out _ hb8)
    have z0 := D8.cell 0
    have z1 := D8.cell 1
    have y0 := Q8.cell 0
    have y1 := Q8.cell 1
    have y2 := Q8.cell 2
    have y3 := Q8.cell 3
    have y4 := Q8.cell 4
    have y5 := Q8.cell 5
    simp at z0 z1 y0 y1 y2 y3 y4 y5
    clear D8 Q8
    go_wp2_with fail
    refine (HDO.out _ hA8).mono ?_
    rintro e v1 ⟨rfl, hv1⟩
    have hb10 := below_trans hb8 hv1
    clear z0 z1 y0 y1 y2 y3 y4 y5 hA8 hv1 hb8
    cases bd with
    | false =>
      have hXB := HX7.out _ hb10
      have a0' := hXB.1.cell 0
      have a1' := hXB.1.cell 1
      have a2' := hXB.1.cell 2
      have a3' := hXB.1.cell 3
      have a4' := hXB.1.cell 4
      have a5' := hXB.1.cell 5
      have g0' := hXB.2.2.1.cell 0
      have g1' := hXB.2.2.1.cell 1
      have g2' := hXB.2.2.1.cell 2
      have g3' := hXB.2.2.1.cell 3
      have g4' := hXB.2.2.1.cell 4
      have g5' := hXB.2.2.1.cell 5
      have HS2 := HSD.out _ p4 c4 p6 c6 hXB.2.1 hXB.2.2.2
      simp at a0' a1' a2' a3' a4' a5' g0' g1' g2' g3' g4' g5'
      clear hXB HX7 HSD HQF HDO HM3 HF3 HI2 HTWH
      go_wp2_with fail
      refine HS2.mono ?_
      rintro e u9 ⟨rfl, hb9d⟩
      have hw9 := HWW.out _ (HB2.out _ (HC7.out _ (below_trans hb10 hb9d)))
      clear HS2 a0' a1' a2' a3' a4' a5' g0' g1' g2' g3' g4' g5'
      go_wp2
      go_ret
      exact ⟨rfl, hw9⟩
    | true =>
      have hA10 := HB2.out _ (HC7.out _ hb10)
      have D10 := HDB.out _ (HC7.out _ hb10)
      have Q10 := HQB.out _ (HC7.out _ hb10)
      have z0 := D10.cell 0
      have z1 := D10.cell 1
      have y0 := Q10.cell 0
      have y1 := Q10.cell 1
      have y2 := Q10.cell 2
      have y3 := Q10.cell 3
      have y4 := Q10.cell 4
      have y5 := Q10.cell 5
      simp at z0 z1 y0 y1 y2 y3 y4 y5
      clear D10 Q10
      go_wp2_with fail
      refine (HQF.out _ hA10).mono ?_
      rintro e v2 ⟨rfl, hv2⟩
      have hb11 := below_trans hb10 hv2
      clear z0 z1 y0 y1 y2 y3 y4 y5 hA10 hv2 hb10
      cases bf with
      | false =>
        have hXB := HX7.out _ hb11
        have a0' := hXB.1.cell 0
        have a1' := hXB.1.cell 1
        have a2' := hXB.1.cell 2
        have a3' := hXB.1.cell 3
        have a4' := hXB.1.cell 4
        have a5' := hXB.1.cell 5
        have g0' := hXB.2.2.1.cell 0
        have g1' := hXB.2.2.1.cell 1
        have g2' := hXB.2.2.1.cell 2
        have g3' := hXB.2.2.1.cell 3
        have g4' := hXB.2.2.1.cell 4
        have g5' := hXB.2.2.1.cell 5
        have HS2 := HSD.out _ p4 c4 p6 c6 hXB.2.1 hXB.2.2.2
        simp at a0' a1' a2' a3' a4' a5' g0' g1' g2' g3' g4' g5'
        clear hXB HX7 HSD HQF HDO HM3 HF3 HI2 HTWH
        go_wp2_with fail
        refine HS2.mono ?_
        rintro e u9 ⟨rfl, hb9d⟩
        have hw9 := HWW.out _ (HB2.out _ (HC7.out _ (below_trans hb11 hb9d)))
        clear HS2 a0' a1' a2' a3' a4' a5' g0' g1' g2' g3' g4' g5'
        go_wp2
        go_ret
        exact ⟨rfl, hw9⟩
      | true =>
        obtain ⟨hfo, hmo⟩ := HTWH.out (by first | trivial | rfl) (by first | trivial | rfl) (by first | trivial | rfl)
        subst hfo
        subst hmo
        have HCL : Hid (∀ wx, Below v2.heap.size v2 wx → (wx.cell? ⟨G4, 0, none⟩ = some (.int .i64 kx) ∧ wx.cell? ⟨G4, 1, none⟩ = some (.string fx) ∧ wx.cell? ⟨G4, 2, none⟩ = some (.string tx) ∧ wx.cell? ⟨G4, 3, none⟩ = some (.int .i64 lx) ∧ wx.cell? ⟨G4, 4, none⟩ = some (.int .i64 hx) ∧ wx.cell? ⟨G4, 5, none⟩ = some (.slice p4 px.length c4)) ∧ (wx.cell? ⟨N, 0, none⟩ = some (.string key) ∧ wx.cell? ⟨N, 1, none⟩ = some (.slice pc cs.length cc)) ∧ (wx.cell? ⟨N + 1, 0, none⟩ = some (.int .i64 k) ∧ wx.cell? ⟨N + 1, 1, none⟩ = some (.string f) ∧ wx.cell? ⟨N + 1, 2, none⟩ = some (.string t) ∧ wx.cell? ⟨N + 1, 3, none⟩ = some (.int .i64 lo) ∧ wx.cell? ⟨N + 1, 4, none⟩ = some (.int .i64 hi) ∧ wx.cell? ⟨N + 1, 5, none⟩ = some (.slice p ps.length c))) := fun wx h => by
          have h7 := below_trans hb11 h
          have X := (HX7.out _ h7).1
          have D := HDB.out _ (HC7.out _ h7)
          have Q := HQB.out _ (HC7.out _ h7)
          exact ⟨⟨X.cell 0, X.cell 1, X.cell 2, X.cell 3, X.cell 4, X.cell 5⟩, ⟨D.cell 0, D.cell 1⟩, ⟨Q.cell 0, Q.cell 1, Q.cell 2, Q.cell 3, Q.cell 4, Q.cell 5⟩⟩
        have HUP : Hid (∀ wx, Below v2.heap.size v2 wx → Below u1.heap.size u1 wx) := fun wx h => HB2.out _ (HC7.out _ (below_trans hb11 h))
        have HCF : Hid (∀ wx, Below v2.heap.size v2 wx → Calls Tryz.prog 27 #[.slice pf fs.length cf, .agg #[.int .i64 kx, .string fx, .string tx, .int .i64 lx, .int .i64 hx, .slice p4 px.length c4]] wx fun e w' => e = .returned (.bool true) ∧ Below wx.heap.size wx w') := fun wx h => HF3.out wx p4 c4 (HUP.out wx h) (HX7.out _ (below_trans hb11 h)).2.1
        have HCX : Hid (∀ wx, Below v2.heap.size v2 wx → Calls Tryz.prog 17 #[.slice pf fs.length cf, .agg #[.string key, .slice pc cs.length cc], .agg #[.int .i64 kx, .string fx, .string tx, .int .i64 lx, .int .i64 hx, .slice p4 px.length c4]] wx fun e w' => e = .returned (.bool (!mb)) ∧ Below wx.heap.size wx w') := fun wx h => HM3.out wx p4 c4 (HUP.out wx h) (HX7.out _ (below_trans hb11 h)).2.1
        have HCQ : Hid (∀ wx, Below v2.heap.size v2 wx → Calls Tryz.prog 17 #[.slice pf fs.length cf, .agg #[.string key, .slice pc cs.length cc], .agg #[.int .i64 k, .string f, .string t, .int .i64 lo, .int .i64 hi, .slice p ps.length c]] wx fun e w' => e = .returned (.bool mb) ∧ Below wx.heap.size wx w') := fun wx h => HI2.out wx (HUP.out wx h)
        have HWF : Hid (∀ wx, Below v2.heap.size v2 wx → Below w.heap.size w wx) := fun wx h => HWW.out _ (HUP.out wx h)
        obtain ⟨⟨a0', a1', a2', a3', a4', a5'⟩, ⟨z0, z1⟩, ⟨y0, y1, y2, y3, y4, y5⟩⟩ := HCL.out _ (Below.refl _ _)
        clear HTWH HX7 HSD HQF HDO HM3 HF3 HI2 HUP HC7 HB2 HWW HDB HQB
        go_wp2_with fail
        go_region_law (first
          | (go_simp; go_at_call 27; refine (HCF.out _ (below_drew (Below.refl _ _))).mono ?_; rintro e r1 ⟨rfl, hr1d⟩; have hr1 : Below v2.heap.size v2 r1 := ⟨hr1d.os, hr1d.tape, hr1d.output, hr1d.size, hr1d.block⟩; clear hr1d; obtain ⟨⟨b0', b1', b2', b3', b4', b5'⟩, ⟨d0', d1'⟩, ⟨e0', e1', e2', e3', e4', e5'⟩⟩ := HCL.out _ hr1)
          | (have hguard := hr2; clear hguard; go_simp; go_at_call 17; refine (HCQ.out _ hr2).mono ?_; rintro e r3 ⟨rfl, hr3d⟩; have hr3 : Below v2.heap.size v2 r3 := below_trans hr2 hr3d; clear hr3d)
          | (go_simp; go_at_call 17; refine (HCX.out _ hr1).mono ?_; rintro e r2 ⟨rfl, hr2d⟩; have hr2 : Below v2.heap.size v2 r2 := below_trans hr1 hr2d; clear hr2d; obtain ⟨_, ⟨i0', i1'⟩, ⟨j0', j1', j2', j3', j4', j5'⟩⟩ := HCL.out _ hr2))
        all_goals
          have hww := HWF.out _ hr3
          clear HCL HCF HCX HCQ HWF
          go_wp2
          go_ret
          exact ⟨by cases mb <;> rfl, hww⟩
end Go.Proofs.YtjkimadnopeakaaGreatDoor
