/- The walk of the law FnDocNum. -/
import Derived.Test.YtjjfabemhdhppaaDoorDrawDocNum
import Derived.Test.YtjjfabemhdhppaaDoorDocLaw
namespace Go.Proofs.YtjjfabemhdhppaaDoor
open Go.RowKit
set_option linter.unusedVariables false

set_option maxRecDepth 100000 in
set_option maxHeartbeats 2000000 in
theorem wFnDocNum (a0 : Option Addr) (len0 cap0 : Nat) (w : World) (hm : MaxL w) (b0 : BytesIn w a0 len0 cap0) :
    Calls Tryd.prog 4 #[.slice a0 len0 cap0] w fun e w' => e = .returned (.bool true) ∧ Below w.heap.size w w' := by
  have m0 := b0.le
  have m1 := b0.max
  unfold maxLen at m1
  by_cases hbig0 : 1048576 < (len0 : Int)
  · clear b0 hm
    go_enter Tryd.func4, Tryd.ntmps4
    go_wp2
    go_ret
    exact ⟨rfl, Below.refl _ _⟩
  have HM : Hid (∀ wx, Below w.heap.size w wx → MaxL wx) := fun wx h => hm.below h
  clear hm
  go_enter Tryd.func4, Tryd.ntmps4
  go_wp2_with fail
  refine (drawDocNum_any _ _ _ _ b0).mono ?_
  rintro e u1 ⟨vf, fs, key, v, cs, n, rfl, hfl, hfb, hof, hkey, hcs, hcb, hoc, hn, hb1⟩
  obtain ⟨pf, cf, rfl, hcf, _, hrf⟩ := owns_fldRow hof (fldTo_cells fs)
  obtain ⟨pc, cc, rfl, _, _, _, hrc⟩ := owns_celRow hoc (celTo_cells cs)
  have HSF : Hid (FldsSmall fs) := hfb.small
  have HSC : Hid (CelsSmall cs) := celsB_small hcb
  have B1 := Blk.new u1 #[.string key, .slice pc cs.length cc] 26
  have hb1a : Below u1.heap.size u1 (u1.alloc (.cells #[.string key, .slice pc cs.length cc] 26)) := (Below.refl _ u1).alloc (Nat.le_refl _) _
  have HRF : Hid (∀ wx, Below u1.heap.size u1 wx → FldRow wx pf fs) := fun wx h => hrf.below h
  have HRC : Hid (∀ wx, Below u1.heap.size u1 wx → CelRow wx pc cs) := fun wx h => hrc.below h
  have HMU : Hid (∀ wx, Below u1.heap.size u1 wx → MaxL wx) := fun wx h => HM.out wx (below_trans hb1 h)
  have hlt1 := B1.lt
  clear b0 hof hoc hfb hcb hrf hrc HM
  go_wp2_with fail
  refine (docNumI_any pf cf fs key pc cc cs n _ (by omega) hcf HSF.out (HRF.out _ hb1a) (by omega) (by omega) HSC.out (HRC.out _ hb1a) (HMU.out _ hb1a)).mono ?_
  rintro e u2 ⟨rfl, hb2⟩
  have B2 := B1.below hb2 B1.lt
  have hw2 := below_trans hb1a hb2
  clear B1 hb2 hb1a
  have k0 := B2.cell 0
  have k1 := B2.cell 1
  simp at k0 k1
  go_wp2_with fail
  refine (docNumS_any pf cf fs key pc cc cs n _ (by omega) HSF.out (HRF.out _ hw2) (by omega) (by omega) HSC.out (HRC.out _ hw2)).mono ?_
  rintro e u3 ⟨rfl, hb3⟩
  have B3 := B2.below hb3 B2.lt
  have hw3 := below_trans hw2 hb3
  clear B2 hb3 hw2 k0 k1
  have k0 := B3.cell 0
  have k1 := B3.cell 1
  simp at k0 k1
  cases hy : dhas fs key cs n with
  | false =>
    have hx := dhas_no hy
    rw [hx]
    clear hx HRF HRC HMU HSF HSC
    go_wp2
    go_ret
    exact ⟨rfl, below_trans hb1 hw3⟩
  | true =>
    obtain ⟨h1, h2, h3, h4, h5⟩ := dhas_yes hy
    have HTI : Hid (∀ wx, Below u1.heap.size u1 wx → Calls Tryd.prog 6 #[.slice pf fs.length cf, .agg #[.string key, .slice pc cs.length cc], .string n] wx fun e w' => ∃ v, e = .returned v ∧ w'.ownsRow wx.heap.size 9 1 v 0 [] ∧ Below wx.heap.size wx w') := fun wx h => by
      have := docTagsI_any pf cf fs key pc cc cs n wx (by omega) hcf HSF.out (HRF.out _ h) (by omega) (by omega) HSC.out (HRC.out _ h) (HMU.out _ h)
      rw [h3] at this
      exact this
    generalize dnum fs key cs n = x at *
    have hx1 : decide (x ≤ 999999999) = true := decide_eq_true h5
    have hx2 : decide (-999999999 ≤ x) = true := decide_eq_true h4
    clear h3
    go_wp2_with fail
    refine (docTextI_any key n pc cc cs _ (by omega) HSC.out (HRC.out _ hw3)).mono ?_
    rintro e u4 ⟨rfl, hb4⟩
    rw [h2]
    have B4 := B3.below hb4 B3.lt
    have hw4 := below_trans hw3 hb4
    clear B3 hb4 hw3 k0 k1
    have k0 := B4.cell 0
    have k1 := B4.cell 1
    simp at k0 k1
    go_wp2_with fail
    refine (HTI.out _ hw4).mono ?_
    rintro e u5 ⟨v5, rfl, ho5, hb5⟩
    obtain ⟨p5, c5, rfl⟩ : ∃ p c, v5 = .slice p 0 c := by
      rcases ho5.2 with ⟨rfl, _⟩ | ⟨g, c, cur, rfl, _⟩
      · exact ⟨_, _, rfl⟩
      · exact ⟨_, _, rfl⟩
    have B5 := B4.below hb5 B4.lt
    have hw5 := below_trans hw4 hb5
    clear B4 hb5 hw4 k0 k1 ho5 HTI
    have k0 := B5.cell 0
    have k1 := B5.cell 1
    simp at k0 k1
    go_wp2_with fail
    refine (docOkI_any pf cf fs key pc cc cs _ (by omega) hcf HSF.out (HRF.out _ hw5) (by omega) (by omega) HSC.out (HRC.out _ hw5) (HMU.out _ hw5)).mono ?_
    rintro e u6 ⟨rfl, hb6⟩
    rw [h1]
    have hw6 := below_trans hb1 (below_trans hw5 hb6)
    clear B5 hb6 hw5 k0 k1 HRF HRC HMU HSF HSC
    go_wp2
    go_ret
    exact ⟨rfl, hw6⟩
end Go.Proofs.YtjjfabemhdhppaaDoor
