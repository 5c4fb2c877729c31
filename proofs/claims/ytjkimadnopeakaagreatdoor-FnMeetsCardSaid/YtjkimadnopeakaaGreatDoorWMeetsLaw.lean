/- The walk of the law FnMeets. -/
import Derived.Test.YtjkimadnopeakaaGreatDoorDrawMt
import Derived.Test.YtjkimadnopeakaaGreatDoorMtS
namespace Go.Proofs.YtjkimadnopeakaaGreatDoor
open Go.RowKit
set_option linter.unusedVariables false

theorem form_moreM : ∀ (d : Nat) (q : Qy), qformB d q = true → qformB (d + 1) q = true
  | 0, q, h => by cases h
  | d + 1, q, h => by
    unfold qformB at h ⊢
    split
    · rwa [if_pos ‹_›] at h
    · rw [if_neg ‹_›, Bool.and_eq_true] at h
      rw [Bool.and_eq_true]
      exact ⟨h.1, (allTo_iff _ _).2 fun j hj => form_moreM d _ ((allTo_iff _ _).1 h.2 j hj)⟩
def meetOf (fs : List Fld) (key : ByteArray) (cs : List Cel) (D : Nat) (q : Qy) : Bool := meetB fs key cs D q.kind q.field q.text q.low q.high q.parts
/-- A part of what fits fields fits. -/
theorem fits_partM {fs : List Fld} {D : Nat} {k : Int} {f t : ByteArray} {lo hi : Int} {ps : List Qy} (h : fitsB fs (D + 1) k f t lo hi ps = true) {i : Nat} (hi' : i < ps.length) : fitsB fs D (qat ps i).kind (qat ps i).field (qat ps i).text (qat ps i).low (qat ps i).high (qat ps i).parts = true := by
  unfold fitsB at h
  simp only [Bool.and_eq_true] at h
  obtain ⟨⟨h1, h2⟩, h3⟩ := h
  unfold queryB at h2
  obtain ⟨d', e, h4⟩ := form_part h2 (i := i) hi'
  obtain rfl : d' = 3 := by omega
  unfold fitsB queryB
  have h5 : qformB 4 (qat ps i) = true := form_moreM 3 _ h4
  rw [Qy.eta, h1, h5]
  unfold fitS at h3
  simp only [Bool.and_eq_true] at h3
  have h6 : fitS fs D (qat ps i) = true := (allTo_iff _ _).1 h3.1 i hi'
  rw [h6]
  rfl
theorem meet_part {fs : List Fld} {key : ByteArray} {cs : List Cel} {D : Nat} {k : Int} {f t : ByteArray} {lo hi : Int} {ps : List Qy} (hd : docOkB fs key cs = true) (h : fitsB fs (D + 1) k f t lo hi ps = true) {i : Nat} (hi' : i < ps.length) : meetOf fs key cs D (qat ps i) = meetsQ fs key cs D (qat ps i) := by
  unfold meetOf meetB
  rw [hd, fits_partM h hi', Qy.eta]
  rfl
theorem meet_yes {fs : List Fld} {key : ByteArray} {cs : List Cel} {D : Nat} {k : Int} {f t : ByteArray} {lo hi : Int} {ps : List Qy} (hd : docOkB fs key cs = true) (h : fitsB fs D k f t lo hi ps = true) : meetB fs key cs D k f t lo hi ps = meetsQ fs key cs D (.mk k f t lo hi ps) := by
  unfold meetB
  rw [hd, h]
  rfl
/-- What has parts, and has a form, is one of these three. -/
theorem form_three {k : Int} {f t : ByteArray} {lo hi : Int} {ps : List Qy} (h : qformB 4 (.mk k f t lo hi ps) = true) (hp : 0 < ps.length) : k = 7 ∨ k = 8 ∨ (k = 9 ∧ ps.length = 1) := by
  rw [show qformB 4 (.mk k f t lo hi ps) = if ps.length = 0 then leafB k f t lo hi else manyPartsB k f t lo hi ps.length && allTo (fun i => qformB 3 (qat ps i)) ps.length from rfl, if_neg (by omega), Bool.and_eq_true] at h
  have hm := h.1
  unfold manyPartsB at hm
  by_cases h7 : k = 7 ∨ k = 8
  · rcases h7 with h7 | h7
    · exact .inl h7
    · exact .inr (.inl h7)
  · rw [if_neg h7] at hm
    by_cases h9 : k = 9
    · rw [if_pos h9] at hm
      simp only [Bool.and_eq_true, beq_iff_eq] at hm
      exact .inr (.inr ⟨h9, hm.1.1.1⟩)
    · rw [if_neg h9] at hm
      cases hm
/-- What the law asks at the end. -/
theorem meets_end {fs : List Fld} {key : ByteArray} {cs : List Cel} {k : Int} {f t : ByteArray} {lo hi : Int} {ps : List Qy} (hd : docOkB fs key cs = true) (h : fitsB fs 4 k f t lo hi ps = true) (hp : 0 < ps.length) :
    (k = 7 ∧ meetB fs key cs 4 k f t lo hi ps = allTo (fun i => meetOf fs key cs 3 (qat ps i)) ps.length) ∨ (k = 8 ∧ meetB fs key cs 4 k f t lo hi ps = anyTo (fun i => meetOf fs key cs 3 (qat ps i)) ps.length) ∨ (k = 9 ∧ meetB fs key cs 4 k f t lo hi ps = !allTo (fun i => meetOf fs key cs 3 (qat ps i)) ps.length) := by
  rw [meet_yes hd h]
  have hc : ∀ i, i < ps.length → meetOf fs key cs 3 (qat ps i) = meetsQ fs key cs 3 (qat ps i) := fun i hi' => meet_part hd h hi'
  have hA : allTo (fun i => meetOf fs key cs 3 (qat ps i)) ps.length = allTo (fun i => meetsQ fs key cs 3 (qat ps i)) ps.length := allTo_congr hc
  have hN : anyTo (fun i => meetOf fs key cs 3 (qat ps i)) ps.length = anyTo (fun i => meetsQ fs key cs 3 (qat ps i)) ps.length := by
    rw [Bool.eq_iff_iff, anyTo_iff, anyTo_iff]
    constructor
    · rintro ⟨j, hj, e⟩
      exact ⟨j, hj, by rw [← hc j hj]; exact e⟩
    · rintro ⟨j, hj, e⟩
      exact ⟨j, hj, (hc j hj).trans e⟩
  rcases form_three (fits_form h) hp with rfl | rfl | ⟨rfl, h1⟩
  · exact .inl ⟨rfl, by rw [hA]; rfl⟩
  · exact .inr (.inl ⟨rfl, by rw [hN]; rfl⟩)
  · refine .inr (.inr ⟨rfl, ?_⟩)
    rw [hA, h1]
    show (!meetsQ fs key cs 3 (qat ps 0)) = _
    simp [allTo]
theorem celsB_smallM {cs : List Cel} (h : CelsB cs) : CelsSmall cs := fun i hi => by
  rw [cat_get _ _ hi]
  have := h _ (List.getElem_mem hi)
  omega
set_option maxRecDepth 100000 in
set_option maxHeartbeats 8000000 in
theorem wFnMeets (a0 : Option Addr) (len0 cap0 : Nat) (w : World) (hm : MaxL w) (b0 : BytesIn w a0 len0 cap0) :
    Calls Tryz.prog 4 #[.slice a0 len0 cap0] w fun e w' => e = .returned (.bool true) ∧ Below w.heap.size w w' := by
  have m0 := b0.le
  have m1 := b0.max
  unfold maxLen at m1
  by_cases hbig0 : 1048576 < (len0 : Int)
  · clear b0 hm
    go_enter Tryz.func4, Tryz.ntmps4
    go_wp2
    go_ret
    exact ⟨rfl, Below.refl _ _⟩
  have HM : Hid (∀ wx, Below w.heap.size w wx → MaxL wx) := fun wx h => hm.below h
  clear hm
  go_enter Tryz.func4, Tryz.ntmps4
  go_wp2_with fail
  refine (drawMeets_any _ _ _ _ b0).mono ?_
  rintro e u1 ⟨vf, fs, key, vc, cs, k, lo, hi, f, t, ps, p, c, rfl, hfl, hfb, hof, hkey, hcs, hcb, hoc, hf, ht, hat, hsz, hb1⟩
  obtain ⟨pf, cf, rfl, hcf, _, hrf⟩ := owns_fldRow hof (fldTo_cells fs)
  obtain ⟨pc, cc, rfl, _, _, _, hrc⟩ := owns_celRow hoc (celTo_cells cs)
  have HB1 : Hid (Below w.heap.size w u1) := hb1
  have HMU : Hid (∀ wx, Below u1.heap.size u1 wx → MaxL wx) := fun wx h => HM.out wx (below_trans hb1 h)
  have hpl : ps.length ≤ 16 := hsz.len
  have hs4 : QSz 1048576 4 ps := hsz.grow (by decide)
  have ha0 := hat.base (Nat.zero_le _)
  have HS : Hid (QSz 1048576 4 ps) := hs4
  have HIN : Hid (∀ wx, Below u1.heap.size u1 wx → MtIn wx pf cf fs key pc cs) := fun wx h => ⟨by omega, hcf, hfb.small, hrf.below h, by omega, by omega, celsB_smallM hcb, hrc.below h, HMU.out wx h⟩
  have HA : Hid (∀ wx, Below u1.heap.size u1 wx → QAt wx 0 4 p ps) := fun wx h => ha0.below h
  have HI : Hid (∀ wx, Below u1.heap.size u1 wx → Calls Tryz.prog 17 #[.slice pf fs.length cf, .agg #[.string key, .slice pc cs.length cc], .agg #[.int .i64 k, .string f, .string t, .int .i64 lo, .int .i64 hi, .slice p ps.length c]] wx fun e w' => e = .returned (.bool (meetB fs key cs 4 k f t lo hi ps)) ∧ Below wx.heap.size wx w') := fun wx h => meetsI_any pf cf fs key pc cc cs k f t lo hi ps p c 4 wx (HIN.out wx h) (ha0.below h) hs4 (by omega) (by omega)
  have HSP : Hid (∀ wx, Below u1.heap.size u1 wx → Calls Tryz.prog 13 #[.slice pf fs.length cf, .agg #[.string key, .slice pc cs.length cc], .agg #[.int .i64 k, .string f, .string t, .int .i64 lo, .int .i64 hi, .slice p ps.length c]] wx fun e w' => e = .returned (.bool (meetB fs key cs 4 k f t lo hi ps)) ∧ Below wx.heap.size wx w') := fun wx h => meetsS_any pf cf fs key pc cc cs k f t lo hi ps p c 4 wx (HIN.out wx h) (ha0.below h) hs4 (by omega) (by omega)
  have HDO : Hid (∀ wx, Below u1.heap.size u1 wx → Calls Tryz.prog 22 #[.slice pf fs.length cf, .agg #[.string key, .slice pc cs.length cc]] wx fun e w' => e = .returned (.bool (docOkB fs key cs)) ∧ Below wx.heap.size wx w') := fun wx h => by
    have i := HIN.out wx h
    exact docOkS_any pf cf fs key pc cc cs wx i.zf i.sf i.rf i.zk i.zc i.sc i.rc
  have HQF : Hid (∀ wx, Below u1.heap.size u1 wx → Calls Tryz.prog 23 #[.slice pf fs.length cf, .agg #[.int .i64 k, .string f, .string t, .int .i64 lo, .int .i64 hi, .slice p ps.length c]] wx fun e w' => e = .returned (.bool (fitsB fs 4 k f t lo hi ps)) ∧ Below wx.heap.size wx w') := fun wx h => by
    have i := HIN.out wx h
    exact queryFitsS_any pf cf fs k f t lo hi ps p c 4 wx i.zf i.sf i.rf (ha0.below h) hs4 (by omega) (by omega)
  have HPT : Hid (∀ wx, Below u1.heap.size u1 wx → ∀ i, i < ps.length → ∀ p' c', QAt wx 0 3 p' (qat ps i).parts → Calls Tryz.prog 17 #[.slice pf fs.length cf, .agg #[.string key, .slice pc cs.length cc], .agg #[.int .i64 (qat ps i).kind, .string (qat ps i).field, .string (qat ps i).text, .int .i64 (qat ps i).low, .int .i64 (qat ps i).high, .slice p' (qat ps i).parts.length c']] wx fun e w' => e = .returned (.bool (meetOf fs key cs 3 (qat ps i))) ∧ Below wx.heap.size wx w') := fun wx h i hi' p' c' hq => by
    obtain ⟨s1, s2, s3⟩ := hs4.2 i hi'
    exact meetsI_any pf cf fs key pc cc cs (qat ps i).kind (qat ps i).field (qat ps i).text (qat ps i).low (qat ps i).high (qat ps i).parts p' c' 3 wx (HIN.out wx h) hq s3 s1 s2
  have HEND : Hid (docOkB fs key cs = true → fitsB fs 4 k f t lo hi ps = true → 0 < ps.length → (k = 7 ∧ meetB fs key cs 4 k f t lo hi ps = allTo (fun i => meetOf fs key cs 3 (qat ps i)) ps.length) ∨ (k = 8 ∧ meetB fs key cs 4 k f t lo hi ps = anyTo (fun i => meetOf fs key cs 3 (qat ps i)) ps.length) ∨ (k = 9 ∧ meetB fs key cs 4 k f t lo hi ps = !allTo (fun i => meetOf fs key cs 3 (qat ps i)) ps.length)) := fun h1 h2 h3 => meets_end h1 h2 h3
  generalize meetB fs key cs 4 k f t lo hi ps = mb at *
  generalize docOkB fs key cs = b1 at *
  generalize fitsB fs 4 k f t lo hi ps = b2 at *
  have hA1 : Below u1.heap.size u1 ((u1.alloc (.cells #[.string key, .slice pc cs.length cc] 37)).alloc (.cells #[.int .i64 k, .string f, .string t, .int .i64 lo, .int .i64 hi, .slice p ps.length c] 41)) := ((Below.refl _ _).alloc (Nat.le_refl _) _).alloc (by simp) _
  have D0 : Blk ((u1.alloc (.cells #[.string key, .slice pc cs.length cc] 37)).alloc (.cells #[.int .i64 k, .string f, .string t, .int .i64 lo, .int .i64 hi, .slice p ps.length c] 41)) u1.heap.size #[.string key, .slice pc cs.length cc] 37 := (Blk.new u1 _ _).alloc _
  have Q0 : QBox ((u1.alloc (.cells #[.string key, .slice pc cs.length cc] 37)).alloc (.cells #[.int .i64 k, .string f, .string t, .int .i64 lo, .int .i64 hi, .slice p ps.length c] 41)) (u1.heap.size + 1) k f t lo hi p ps.length c := by
    have h := Blk.new (u1.alloc (.cells #[.string key, .slice pc cs.length cc] 37)) #[.int .i64 k, .string f, .string t, .int .i64 lo, .int .i64 hi, .slice p ps.length c] 41
    rw [World.size_alloc] at h
    exact h
  clear b0 HM hof hat hoc hsz hs4 ha0 hrf hrc hfb hcb hb1 hf ht hcf hfl hkey hcs
  go_upto_region 4 with fail
  obtain ⟨N, hN⟩ : ∃ N, u1.heap.size = N := ⟨_, rfl⟩
  obtain ⟨u2, hu2⟩ : ∃ u2, ((u1.alloc (.cells #[.string key, .slice pc cs.length cc] 37)).alloc (.cells #[.int .i64 k, .string f, .string t, .int .i64 lo, .int .i64 hi, .slice p ps.length c] 41)) = u2 := ⟨_, rfl⟩
  rw [hu2] at hA1 D0 Q0 ⊢
  rw [hN] at D0 Q0 ⊢
  have HDB : Hid (∀ wx, Below u2.heap.size u2 wx → Blk wx N #[.string key, .slice pc cs.length cc] 37) := fun wx h => D0.below h D0.lt
  have HQB : Hid (∀ wx, Below u2.heap.size u2 wx → QBox wx (N + 1) k f t lo hi p ps.length c) := fun wx h => Q0.below h Q0.lt
  have HB2 : Hid (∀ wx, Below u2.heap.size u2 wx → Below u1.heap.size u1 wx) := fun wx h => below_trans hA1 h
  have HWW : Hid (∀ wx, Below u1.heap.size u1 wx → Below w.heap.size w wx) := fun wx h => HB1.out.trans (h.mono HB1.out.size)
  have z0 := D0.cell 0
  have z1 := D0.cell 1
  have y0 := Q0.cell 0
  have y1 := Q0.cell 1
  have y2 := Q0.cell 2
  have y3 := Q0.cell 3
  have y4 := Q0.cell 4
  have y5 := Q0.cell 5
  simp at z0 z1 y0 y1 y2 y3 y4 y5
  have hA2 := HB2.out u2 (Below.refl _ _)
  clear hu2 hA1 D0 Q0 hN
  go_wp2_with fail
  refine (HI.out _ hA2).mono ?_
  rintro e u3 ⟨rfl, hb3⟩
  have D3 := HDB.out _ hb3
  have Q3 := HQB.out _ hb3
  have hA3 := HB2.out u3 hb3
  clear z0 z1 y0 y1 y2 y3 y4 y5 HI hA2
  have z0 := D3.cell 0
  have z1 := D3.cell 1
  have y0 := Q3.cell 0
  have y1 := Q3.cell 1
  have y2 := Q3.cell 2
  have y3 := Q3.cell 3
  have y4 := Q3.cell 4
  have y5 := Q3.cell 5
  simp at z0 z1 y0 y1 y2 y3 y4 y5
  clear D3 Q3
  go_wp2_with fail
  refine (HSP.out _ hA3).mono ?_
  rintro e u4 ⟨rfl, hb4d⟩
  have hb4 := below_trans hb3 hb4d
  have D4 := HDB.out _ hb4
  have Q4 := HQB.out _ hb4
  have hA4 := HB2.out u4 hb4
  clear z0 z1 y0 y1 y2 y3 y4 y5 hb4d hA3 hb3
  have z0 := D4.cell 0
  have z1 := D4.cell 1
  have y0 := Q4.cell 0
  have y1 := Q4.cell 1
  have y2 := Q4.cell 2
  have y3 := Q4.cell 3
  have y4 := Q4.cell 4
  have y5 := Q4.cell 5
  simp at z0 z1 y0 y1 y2 y3 y4 y5
  clear D4 Q4
  go_wp2_with fail
  refine (HDO.out _ hA4).mono ?_
  rintro e u5 ⟨rfl, hb5d⟩
  have hb5 := below_trans hb4 hb5d
  have D5 := HDB.out _ hb5
  have Q5 := HQB.out _ hb5
  have hA5 := HB2.out u5 hb5
  clear z0 z1 y0 y1 y2 y3 y4 y5 hb5d hA4 hb4
  have z0 := D5.cell 0
  have z1 := D5.cell 1
  have y0 := Q5.cell 0
  have y1 := Q5.cell 1
  have y2 := Q5.cell 2
  have y3 := Q5.cell 3
  have y4 := Q5.cell 4
  have y5 := Q5.cell 5
  simp at z0 z1 y0 y1 y2 y3 y4 y5
  clear D5 Q5
  cases b1 with
  | false =>
    clear HPT HEND HQF HDO
    go_wp2_with fail
    refine (HSP.out _ hA5).mono ?_
    rintro e u9 ⟨rfl, hb9d⟩
    have hw9 := HWW.out _ (below_trans hA5 hb9d)
    clear z0 z1 y0 y1 y2 y3 y4 y5
    go_wp2
    go_ret
    exact ⟨rfl, hw9⟩
  | true =>
    go_wp2_with fail
    refine (HQF.out _ hA5).mono ?_
    rintro e u6 ⟨rfl, hb6d⟩
    have hb6 := below_trans hb5 hb6d
    have D6 := HDB.out _ hb6
    have Q6 := HQB.out _ hb6
    have hA6 := HB2.out u6 hb6
    clear z0 z1 y0 y1 y2 y3 y4 y5 hb6d hA5 hb5
    have z0 := D6.cell 0
    have z1 := D6.cell 1
    have y0 := Q6.cell 0
    have y1 := Q6.cell 1
    have y2 := Q6.cell 2
    have y3 := Q6.cell 3
    have y4 := Q6.cell 4
    have y5 := Q6.cell 5
    simp at z0 z1 y0 y1 y2 y3 y4 y5
    clear D6 Q6
    cases b2 with
    | false =>
      clear HPT HEND HQF HDO
      go_wp2_with fail
      refine (HSP.out _ hA6).mono ?_
      rintro e u9 ⟨rfl, hb9d⟩
      have hw9 := HWW.out _ (below_trans hA6 hb9d)
      clear z0 z1 y0 y1 y2 y3 y4 y5
      go_wp2
      go_ret
      exact ⟨rfl, hw9⟩
    | true =>
      by_cases hp0 : ps.length = 0
      · have hp0i : ((ps.length : Int) == 0) = true := by rw [hp0]; rfl
        clear HPT HEND HQF HDO hp0
        go_wp2_with fail
        refine (HSP.out _ hA6).mono ?_
        rintro e u9 ⟨rfl, hb9d⟩
        have hw9 := HWW.out _ (below_trans hA6 hb9d)
        clear z0 z1 y0 y1 y2 y3 y4 y5
        go_wp2
        go_ret
        exact ⟨rfl, hw9⟩
      · have hp0i : ((ps.length : Int) == 0) = false := beq_eq_false_iff_ne.2 (by omega)
        have HE := HEND.out (by first | trivial | rfl) (by first | trivial | rfl) (by omega)
        have HEH : Hid ((k = 7 ∧ mb = allTo (fun i => meetOf fs key cs 3 (qat ps i)) ps.length) ∨ (k = 8 ∧ mb = anyTo (fun i => meetOf fs key cs 3 (qat ps i)) ps.length) ∨ (k = 9 ∧ mb = !allTo (fun i => meetOf fs key cs 3 (qat ps i)) ps.length)) := HE
        have hp1 : 0 < ps.length := by omega
        clear HE HEND HQF HDO HSP
        go_wp2
        clear z0 z1 y0 y1 y2 y3 y4 y5 hp0i hp0
        go_loopw [7, 8, 9] (fun al so i wr => ∃ j : Nat, j ≤ ps.length ∧ al = .bool (allTo (fun i => meetOf fs key cs 3 (qat ps i)) j) ∧ so = .bool (anyTo (fun i => meetOf fs key cs 3 (qat ps i)) j) ∧ i = .int .i64 j ∧ Below u2.heap.size u2 wr) (fun _ _ i _ => ps.length - (intOf i).toNat)
        case atStart => exact ⟨0, Nat.zero_le _, rfl, rfl, rfl, hb6⟩
        case round =>
          obtain ⟨j, hj, rfl, rfl, rfl, hbel⟩ := hrel
          have Dr := HDB.out _ hbel
          have Qr := HQB.out _ hbel
          have z0 := Dr.cell 0
          have z1 := Dr.cell 1
          have y0 := Qr.cell 0
          have y1 := Qr.cell 1
          have y2 := Qr.cell 2
          have y3 := Qr.cell 3
          have y4 := Qr.cell 4
          have y5 := Qr.cell 5
          simp at z0 z1 y0 y1 y2 y3 y4 y5
          clear Dr Qr
          by_cases hlt : j < ps.length
          · have hji : (j : Int) < (ps.length : Int) := by omega
            have hAr := HB2.out _ hbel
            obtain ⟨g, off, rfl, _, hg, hc⟩ := (HA.out _ hAr) (by omega)
            obtain ⟨p', c', ⟨c0, c1, c2, c3, c4, c5⟩, hq⟩ := hc j hlt
            have HC0 := HPT.out wr.drew (below_drew hAr) j hlt p' c' (hq.below (below_drew (Below.refl _ _)))
            have HAL : Hid (allTo (fun i => meetOf fs key cs 3 (qat ps i)) (j + 1) = (allTo (fun i => meetOf fs key cs 3 (qat ps i)) j && meetOf fs key cs 3 (qat ps j))) := rfl
            have HSO : Hid (anyTo (fun i => meetOf fs key cs 3 (qat ps i)) (j + 1) = (anyTo (fun i => meetOf fs key cs 3 (qat ps i)) j || meetOf fs key cs 3 (qat ps j))) := rfl
            clear hc hq HPT HEH
            generalize allTo (fun i => meetOf fs key cs 3 (qat ps i)) j = ba at *
            generalize anyTo (fun i => meetOf fs key cs 3 (qat ps i)) j = bs at *
            generalize meetOf fs key cs 3 (qat ps j) = bm at *
            generalize hqj : qat ps j = q at c0 c1 c2 c3 c4 c5 HC0
            clear hqj
            obtain ⟨kd, f', t', lo', hi', pp⟩ := q
            simp only [Qy.kind, Qy.field, Qy.text, Qy.low, Qy.high, Qy.parts] at c0 c1 c2 c3 c4 c5 HC0
            have HC : Hid (Calls Tryz.prog 17 #[.slice pf fs.length cf, .agg #[.string key, .slice pc cs.length cc], .agg #[.int .i64 kd, .string f', .string t', .int .i64 lo', .int .i64 hi', .slice p' pp.length c']] wr.drew fun e w' => e = .returned (.bool bm) ∧ Below wr.drew.heap.size wr.drew w') := HC0
            clear HC0
            cases ba <;> cases bs <;> cases bm
            all_goals
              go_wp2
              go_region_law (first
                | (go_simp; go_at_call 17; refine HC.out.mono ?_; rintro e w5 ⟨rfl, hb5d⟩; have hb5 : Below wr.heap.size wr w5 := ⟨hb5d.os, hb5d.tape, hb5d.output, hb5d.size, hb5d.block⟩; clear hb5d))
              all_goals
                have hw5 := below_trans hbel hb5
                clear HC hb5 c0 c1 c2 c3 c4 c5 z0 z1 y0 y1 y2 y3 y4 y5
                go_wp2
                go_roundw
                case rel => exact ⟨j + 1, by omega, by rw [HAL.out]; rfl, by rw [HSO.out]; rfl, by go_num, hw5⟩
                case measure => simp [intOf]; omega
          · have hjl : j = ps.length := by omega
            subst hjl
            have hww := HWW.out _ (HB2.out _ hbel)
            clear HPT HA
            rcases HEH.out with ⟨rfl, rfl⟩ | ⟨rfl, rfl⟩ | ⟨rfl, rfl⟩
            · clear HEH
              generalize allTo (fun i => meetOf fs key cs 3 (qat ps i)) ps.length = ba at *
              generalize anyTo (fun i => meetOf fs key cs 3 (qat ps i)) ps.length = bs at *
              go_wp2
              go_ret
              exact ⟨by simp, hww⟩
            · clear HEH
              generalize allTo (fun i => meetOf fs key cs 3 (qat ps i)) ps.length = ba at *
              generalize anyTo (fun i => meetOf fs key cs 3 (qat ps i)) ps.length = bs at *
              go_wp2
              go_ret
              exact ⟨by simp, hww⟩
            · clear HEH
              generalize allTo (fun i => meetOf fs key cs 3 (qat ps i)) ps.length = ba at *
              generalize anyTo (fun i => meetOf fs key cs 3 (qat ps i)) ps.length = bs at *
              go_wp2
              go_ret
              exact ⟨by simp, hww⟩
end Go.Proofs.YtjkimadnopeakaaGreatDoor
