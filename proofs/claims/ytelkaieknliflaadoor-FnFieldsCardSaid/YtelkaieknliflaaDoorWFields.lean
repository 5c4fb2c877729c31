/- The walk of the law FnFields. -/
import Derived.Test.YtelkaieknliflaaDoorDrawFlds3
import Derived.Test.YtelkaieknliflaaDoorFldBack
import Derived.Test.YtelkaieknliflaaDoorFldsGetS
import Derived.Test.YtelkaieknliflaaDoorSdFlds
namespace Go.Proofs.YtelkaieknliflaaDoor
open Go.RowKit
set_option linter.unusedVariables false

theorem getF_empty : getFB ⟨#[]⟩ = false ∧ getFL ⟨#[]⟩ = [] := by
  have h : getFB ⟨#[]⟩ = false := by decide +kernel
  exact ⟨h, by unfold getFL; rw [h]; rfl⟩
theorem putF_ways (fs : List Fld) : (getFB (putB fs) = true ∧ getFL (putB fs) = fs ∧ (putB fs).toList.isEmpty = false) ∨ (getFB (putB fs) = false ∧ (putB fs).toList.isEmpty = true) := by
  cases h : fieldsB fs with
  | true =>
    have e : putB fs = putTo fs fs.length := by unfold putB; rw [h]; rfl
    obtain ⟨h1, h2⟩ := getF_put h
    refine .inl ⟨by rw [e]; exact h1, by rw [e]; exact h2, ?_⟩
    cases e2 : (putB fs).toList.isEmpty with
    | false => rfl
    | true =>
      have h3 : putTo fs fs.length = ⟨#[]⟩ := by
        rw [e, List.isEmpty_iff, ByteArray.toList_eq] at e2
        exact ba_ext e2
      rw [h3, getF_empty.1] at h1
      cases h1
  | false =>
    have e : putB fs = ⟨#[]⟩ := by unfold putB; rw [h]; rfl
    exact .inr ⟨by rw [e]; exact getF_empty.1, by rw [e, ByteArray.toList_eq]; rfl⟩
theorem putF_get {x : ByteArray} (h : getFB x = true) : putB (getFL x) = x := by
  obtain ⟨m1, m2⟩ := model_same x
  obtain ⟨_, m3⟩ := m2 h
  have e : getFL x = gflds (fparts x) := by unfold getFL; rw [h]; rfl
  have hb : fieldsB (gflds (fparts x)) = true := h
  rw [e]
  unfold putB
  rw [hb, show (gflds (fparts x)).length = (fparts x).length from by rw [gflds, List.length_map]]
  exact m3
theorem getF_len (x : ByteArray) : (getFL x).length ≤ 4 ∧ FldsSmall (getFL x) := by
  cases h : getFB x with
  | false =>
    have e : getFL x = [] := by unfold getFL; rw [h]; rfl
    rw [e]
    exact ⟨by simp, fun i hi => by simp at hi⟩
  | true =>
    have e : getFL x = gflds (fparts x) := by unfold getFL; rw [h]; rfl
    have hb : fieldsB (gflds (fparts x)) = true := h
    rw [e]
    refine ⟨?_, fun i hi => ?_⟩
    · simp only [fieldsB, Bool.and_eq_true, decide_eq_true_eq] at hb
      exact hb.1.2
    · have := (fld_of _ hb i hi).2.1
      omega

set_option maxRecDepth 100000 in
set_option maxHeartbeats 4000000 in
theorem wFnFields (a0 : Option Addr) (len0 cap0 : Nat) (a1 : Option Addr) (len1 cap1 : Nat) (w : World) (hm : MaxL w) (b0 : BytesIn w a0 len0 cap0) (b1 : BytesIn w a1 len1 cap1) :
    Calls Tryd.prog 3 #[.slice a0 len0 cap0, .slice a1 len1 cap1] w fun e w' => e = .returned (.bool true) ∧ Below w.heap.size w w' := by
  have m0 := b0.le
  have m1 := b0.max
  have m2 := b1.le
  have m3 := b1.max
  unfold maxLen at m1 m3
  by_cases hbig0 : 1048576 < (len0 : Int)
  · clear b0 b1 hm
    go_enter Tryd.func3, Tryd.ntmps3
    go_wp2
    go_ret
    exact ⟨rfl, Below.refl _ _⟩
  by_cases hbig1 : 1048576 < (len1 : Int)
  · clear b0 b1 hm
    go_enter Tryd.func3, Tryd.ntmps3
    go_wp2
    go_ret
    exact ⟨rfl, Below.refl _ _⟩
  have HM : Hid (∀ wx, Below w.heap.size w wx → MaxL wx) := fun wx h => hm.below h
  have HB1 : Hid (∀ wx, Below w.heap.size w wx → BytesIn wx a1 len1 cap1) := fun wx h => b1.below h
  clear hm b1
  have HG : Hid (∀ s w, s.size ≤ 1048576 → MaxL w → Calls Tryd.prog 7 #[.string s] w fun e w' => GetF w w' s e) := fun s w hs hm => getFI_any s w hs hm
  have HGS : Hid (∀ s w, s.size ≤ 1048576 → Calls Tryd.prog 13 #[.string s] w fun e w' => GetFS w w' s e) := fun s w hs => getFS_any s w hs
  unfold GetF at HG
  unfold GetFS at HGS
  go_enter Tryd.func3, Tryd.ntmps3
  go_wp2_with fail
  refine (drawFieldsPut_any _ _ _ _ b0).mono ?_
  rintro e u1 ⟨v, fs, rfl, hfl, hfb, hown, hb1⟩
  clear b0
  obtain ⟨p1, c1, rfl, hc1, -, r1⟩ := owns_fldRow hown (fldTo_cells fs)
  have hsm := hfb.small
  clear hown hfb
  go_wp2_with fail
  refine (putI_any p1 c1 fs _ (by omega) hc1 hsm r1).mono ?_
  rintro e u2 ⟨rfl, hb2⟩
  have r2 := r1.below hb2
  have hw2 := below_trans hb1 hb2
  have hSz := putB_size fs
  have HFC : Hid ((getFB (putB fs) = true ∧ getFL (putB fs) = fs ∧ (putB fs).toList.isEmpty = false) ∨ (getFB (putB fs) = false ∧ (putB fs).toList.isEmpty = true)) := putF_ways fs
  have HPS : Hid (∀ wx, FldRow wx p1 fs → Calls Tryd.prog 8 #[.slice p1 fs.length c1] wx fun e w' => e = .returned (.string (putB fs)) ∧ Below wx.heap.size wx w') := fun wx h => putS_any p1 c1 fs wx (by omega) hsm h
  have HFI : Hid (∀ wx, FldRow wx p1 fs → Calls Tryd.prog 9 #[.slice p1 fs.length c1] wx fun e w' => e = .returned (.bool (fieldsB fs)) ∧ Below wx.heap.size wx w') := fun wx h => fieldsI_any p1 c1 fs wx (by omega) hc1 hsm h
  have HFS : Hid (∀ wx, FldRow wx p1 fs → Calls Tryd.prog 10 #[.slice p1 fs.length c1] wx fun e w' => e = .returned (.bool (fieldsB fs)) ∧ Below wx.heap.size wx w') := fun wx h => fieldsS_any p1 c1 fs wx (by omega) hsm h
  clear hsm r1 hb1 hb2
  generalize putB fs = S at *
  generalize fieldsB fs = O at *
  go_wp2_with fail
  refine (HG.out S _ (by omega) (HM.out _ hw2)).mono ?_
  rintro e u3 ⟨p3, c3, rfl, ho3, hb3⟩
  generalize getFL S = C at *
  generalize getFB S = B at *
  obtain ⟨p3', c3', ev, _, _, q3⟩ := owns_fldRow ho3 (fldTo_cells C)
  obtain ⟨rfl, rfl⟩ : p3 = p3' ∧ c3 = c3' := by injection ev with h1 h2 h3; exact ⟨h1, h3⟩
  have r3 := r2.below hb3
  have hw3 := below_trans hw2 hb3
  clear ev ho3 r2 hb3
  go_wp2_with fail
  refine (HPS.out _ r3).mono ?_
  rintro e u4 ⟨rfl, hb4⟩
  have r4 := r3.below hb4
  have q4 := q3.below hb4
  have hw4 := below_trans hw3 hb4
  clear r3 q3 hw3 HPS hb4
  go_wp2_with fail
  refine (HFI.out _ r4).mono ?_
  rintro e u5 ⟨rfl, hb5⟩
  have r5 := r4.below hb5
  have q5 := q4.below hb5
  have hw5 := below_trans hw4 hb5
  clear r4 q4 hw4 HFI hb5
  go_wp2_with fail
  refine (HFS.out _ r5).mono ?_
  rintro e u6 ⟨rfl, hb6⟩
  have r6 := r5.below hb6
  have q6 := q5.below hb6
  have hw6 := below_trans hw5 hb6
  clear r5 q5 hw5 HFS hb6
  have HSD : Hid (C = fs → Calls Tryd.prog 11 #[.slice p3 C.length c3, .slice p1 fs.length c1] u6 fun e w' => e = .returned (.bool true) ∧ Below u6.heap.size u6 w') := fun h => by
    subst h
    exact sdFields_same p3 p1 c3 c1 C u6 (by omega) q6 r6
  clear q6 r6
  have HZ : Hid (∀ x : ByteArray, (getFL x).length ≤ 4 ∧ FldsSmall (getFL x)) := fun x => getF_len x
  rcases HFC.out with ⟨rfl, hC, hne⟩ | ⟨rfl, hne⟩
  focus
    have HS2 := HSD.out hC
    clear HSD HFC hC
    cases O <;> go_wp2_with fail
    all_goals
      refine HS2.mono ?_
      rintro e u7 ⟨rfl, hb7⟩
      have hw7 := below_trans hw6 hb7
      clear HS2 hb7 hw6
      go_wp2_with fail
      refine (drawFieldsGet_any _ _ _ _ (HB1.out _ hw7)).mono ?_
  rotate_left 2
  focus
    clear HSD HFC
    cases O <;> go_wp2_with fail
    all_goals
      have hw7 := hw6
      clear hw6
      refine (drawFieldsGet_any _ _ _ _ (HB1.out _ hw7)).mono ?_
  all_goals
    rintro e u8 ⟨x, rfl, hx, hb8⟩
    have hw8 := below_trans hw7 hb8
    clear hb8 hw7
    go_wp2_with fail
    refine (HG.out x _ (by omega) (HM.out _ hw8)).mono ?_
    rintro e u9 ⟨p9, c9, rfl, ho9, hb9⟩
    obtain ⟨hCl, hCs⟩ := HZ.out x
    have HPG : Hid (getFB x = true → putB (getFL x) = x) := fun h => putF_get h
    have HGX : Hid (∀ wx, Calls Tryd.prog 13 #[.string x] wx fun e w' => ∃ a c, e = .returned (.tuple #[.slice a (getFL x).length c, .bool (getFB x)]) ∧ FldRow w' a (getFL x) ∧ Below wx.heap.size wx w') := fun wx => HGS.out x wx (by omega)
    generalize getFL x = C9 at *
    generalize getFB x = B9 at *
    obtain ⟨p9', c9', ev, hc9, _, q9⟩ := owns_fldRow ho9 (fldTo_cells C9)
    obtain ⟨rfl, rfl⟩ : p9 = p9' ∧ c9 = c9' := by injection ev with h1 h2 h3; exact ⟨h1, h3⟩
    have hw9 := below_trans hw8 hb9
    clear ev ho9 hb9 hw8
    go_wp2_with fail
    refine (HGX.out _).mono ?_
    rintro e u10 ⟨p10, c10, rfl, q10, hb10⟩
    have q9a := q9.below hb10
    have hw10 := below_trans hw9 hb10
    clear q9 hw9 hb10
    go_wp2_with fail
    refine (sdFields_same p9 p10 c9 c10 C9 _ (by omega) q9a q10).mono ?_
    rintro e u11 ⟨rfl, hb11⟩
    have q11 := q9a.below hb11
    have hw11 := below_trans hw10 hb11
    clear q9a q10 hw10 hb11
    cases B9 with
    | false =>
      clear q11
      go_wp2
      go_ret
      exact ⟨rfl, hw11⟩
    | true =>
      have HX : Hid (putB C9 = x) := HPG.out rfl
      go_wp2_with fail
      refine (putI_any p9 c9 C9 _ (by omega) hc9 hCs q11).mono ?_
      rintro e u12 ⟨rfl, hb12⟩
      rw [HX.out]
      clear q11
      go_wp2
      go_ret
      exact ⟨rfl, below_trans hw11 hb12⟩
end Go.Proofs.YtelkaieknliflaaDoor
