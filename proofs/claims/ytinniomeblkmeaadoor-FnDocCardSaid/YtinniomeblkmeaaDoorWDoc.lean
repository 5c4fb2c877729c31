/- The walk of the law FnDoc. -/
import Derived.Test.YtinniomeblkmeaaDoorDrawDocs
import Derived.Test.YtinniomeblkmeaaDoorDocBack
import Derived.Test.YtinniomeblkmeaaDoorDocGetS
import Derived.Test.YtinniomeblkmeaaDoorDocPutI
import Derived.Test.YtinniomeblkmeaaDoorSdDoc
import Derived.Test.YtinniomeblkmeaaDoorGetLen
namespace Go.Proofs.YtinniomeblkmeaaDoor
open Go.RowKit
set_option linter.unusedVariables false

theorem get_empty : getB ⟨#[]⟩ = false ∧ getK ⟨#[]⟩ = ⟨#[]⟩ ∧ getC ⟨#[]⟩ = [] := by
  have h : docOkP (dparts ⟨#[]⟩) = false := by decide +kernel
  exact get_no h
theorem put_some {key : ByteArray} {cs : List Cel} (h : formB key cs = true) : (docPutB key cs).toList.isEmpty = false := by
  cases e : (docPutB key cs).toList.isEmpty with
  | false => rfl
  | true =>
    have h1 := (get_put h).1
    have h2 : docPutB key cs = ⟨#[]⟩ := by
      rw [List.isEmpty_iff, ByteArray.toList_eq] at e
      exact ba_ext e
    rw [h2, get_empty.1] at h1
    cases h1

set_option maxRecDepth 100000 in
set_option maxHeartbeats 2000000 in
theorem wFnDoc (a0 : Option Addr) (len0 cap0 : Nat) (a1 : Option Addr) (len1 cap1 : Nat) (w : World) (hm : MaxL w) (b0 : BytesIn w a0 len0 cap0) (b1 : BytesIn w a1 len1 cap1) :
    Calls Tryd.prog 4 #[.slice a0 len0 cap0, .slice a1 len1 cap1] w fun e w' => e = .returned (.bool true) ∧ Below w.heap.size w w' := by
  have m0 := b0.le
  have m1 := b0.max
  have m2 := b1.le
  have m3 := b1.max
  unfold maxLen at m1 m3
  by_cases hbig0 : 1048576 < (len0 : Int)
  · clear b0 b1 hm
    go_enter Tryd.func4, Tryd.ntmps4
    go_wp2
    go_ret
    exact ⟨rfl, Below.refl _ _⟩
  by_cases hbig1 : 1048576 < (len1 : Int)
  · clear b0 b1 hm
    go_enter Tryd.func4, Tryd.ntmps4
    go_wp2
    go_ret
    exact ⟨rfl, Below.refl _ _⟩
  have HM : Hid (∀ wx, Below w.heap.size w wx → MaxL wx) := fun wx h => hm.below h
  have HB1 : Hid (∀ wx, Below w.heap.size w wx → BytesIn wx a1 len1 cap1) := fun wx h => b1.below h
  clear hm b1
  have HG : Hid (∀ s w, s.size ≤ 1048576 → MaxL w → Calls Tryd.prog 23 #[.string s] w fun e w' => GetAns w w' s e) := fun s w hs hm => getI_any s w hs hm
  have HGS : Hid (∀ s w, s.size ≤ 1048576 → Calls Tryd.prog 27 #[.string s] w fun e w' => GetAnsS w w' s e) := fun s w hs => getS_any s w hs
  unfold GetAns at HG
  unfold GetAnsS at HGS
  go_enter Tryd.func4, Tryd.ntmps4
  go_wp2_with fail
  refine (drawDocPut_any _ _ _ _ b0).mono ?_
  rintro e u1 ⟨key, v, cs, rfl, hkey, hcs, hcb, hown, hb1⟩
  clear b0
  obtain ⟨p1, c1, rfl, _, _, _, hrow⟩ := owns_celRow hown (celTo_cells cs)
  have hsm := celsB_small hcb
  have B1 := Blk.new u1 #[.string key, .slice p1 cs.length c1] 34
  have hb1a : Below u1.heap.size u1 (u1.alloc (.cells #[.string key, .slice p1 cs.length c1] 34)) := (Below.refl _ u1).alloc (Nat.le_refl _) _
  have r1 := hrow.below hb1a
  have hw1 := below_trans hb1 hb1a
  have k0 := B1.cell 0
  have k1 := B1.cell 1
  simp at k0 k1
  have hSz := docPutB_size key cs
  clear hown hrow hcb
  have hlt1 := B1.lt
  go_wp2_with fail
  refine (docPutI_any key p1 c1 cs _ (by omega) (by omega) hsm r1).mono ?_
  rintro e u2 ⟨rfl, hb2⟩
  have B2 := B1.below hb2 hlt1
  have r2 := r1.below hb2
  have hw2 := below_trans hw1 hb2
  have hlt2 := B2.lt
  clear k0 k1 B1 r1 hw1 hb1a
  have HFC : Hid ((formB key cs = true ∧ getB (docPutB key cs) = true ∧ getK (docPutB key cs) = key ∧ getC (docPutB key cs) = cs ∧ (docPutB key cs).toList.isEmpty = false) ∨ (getB (docPutB key cs) = false ∧ (docPutB key cs).toList.isEmpty = true)) := by
    cases h : formB key cs with
    | true => exact .inl ⟨rfl, (get_put h).1, (get_put h).2.1, (get_put h).2.2, put_some h⟩
    | false =>
      have e : docPutB key cs = ⟨#[]⟩ := by unfold docPutB; rw [h]; rfl
      exact .inr ⟨by rw [e]; exact get_empty.1, by rw [e, ByteArray.toList_eq]; rfl⟩
  have HPS : Hid (∀ wx, CelRow wx p1 cs → Calls Tryd.prog 24 #[.agg #[.string key, .slice p1 cs.length c1]] wx fun e w' => e = .returned (.string (docPutB key cs)) ∧ Below wx.heap.size wx w') := fun wx h => docPutS_any key p1 c1 cs wx (by omega) (by omega) hsm h
  clear hsm
  generalize docPutB key cs = S at *
  go_wp2_with fail
  refine (HG.out S _ (by omega) (HM.out _ hw2)).mono ?_
  rintro e u3 ⟨p3, c3, rfl, ho3, hb3⟩
  generalize getK S = K at *
  generalize getC S = C at *
  generalize getB S = B at *
  have B3 := (B2.below hb3 hlt2).alloc (.cells #[.string K, .slice p3 C.length c3] 34)
  have D3 := Blk.new u3 #[.string K, .slice p3 C.length c3] 34
  have hb3a : Below u2.heap.size u2 (u3.alloc (.cells #[.string K, .slice p3 C.length c3] 34)) := hb3.alloc hb3.size _
  have r3 := r2.below hb3a
  have ho3a := ho3.alloc (.cells #[.string K, .slice p3 C.length c3] 34)
  obtain ⟨p3', c3', ev, _, _, _, q3⟩ := owns_celRow ho3a (celTo_cells C)
  obtain ⟨rfl, rfl⟩ : p3 = p3' ∧ c3 = c3' := by injection ev with h1 h2 h3; exact ⟨h1, h3⟩
  have hw3 := below_trans hw2 hb3a
  have k0 := B3.cell 0
  have k1 := B3.cell 1
  have k2 := D3.cell 0
  have k3 := D3.cell 1
  simp at k0 k1 k2 k3
  clear ev ho3 ho3a r2 B2 hb3a
  go_wp2_with fail
  refine (HPS.out _ r3).mono ?_
  rintro e u4 ⟨rfl, hb4⟩
  have B4 := B3.below hb4 B3.lt
  have D4 := D3.below hb4 D3.lt
  have r4 := r3.below hb4
  have q4 := q3.below hb4
  have hw4 := below_trans hw3 hb4
  clear k0 k1 k2 k3 B3 D3 r3 q3 hw3
  have k0 := B4.cell 0
  have k1 := B4.cell 1
  have k2 := D4.cell 0
  have k3 := D4.cell 1
  simp at k0 k1 k2 k3
  have HSD : Hid (K = key → C = cs → Calls Tryd.prog 25 #[.agg #[.string K, .slice p3 C.length c3], .agg #[.string key, .slice p1 cs.length c1]] u4 fun e w' => e = .returned (.bool true) ∧ Below u4.heap.size u4 w') := fun h1 h2 => by
    subst h1
    subst h2
    exact sdDoc_same K p3 p1 c3 c1 C u4 (by omega) q4 r4
  clear q4 r4 B4 D4 HPS
  rcases HFC.out with ⟨hf, rfl, hK, hC, hne⟩ | ⟨rfl, hem⟩
  · have HS2 := HSD.out hK hC
    clear HSD HFC hf hK hC
    go_wp2_with fail
    refine HS2.mono ?_
    rintro e u5 ⟨rfl, hb5⟩
    have hw5 := below_trans hw4 hb5
    clear HS2 k0 k1 k2 k3 hb5 hw4
    go_wp2_with fail
    refine (drawDocGet_any _ _ _ _ (HB1.out _ hw5)).mono ?_
    rintro e u6 ⟨x, rfl, hx, hb6⟩
    have hw6 := below_trans hw5 hb6
    clear hb6 hw5
    go_wp2_with fail
    refine (HG.out x _ (by omega) (HM.out _ hw6)).mono ?_
    rintro e u7 ⟨p7, c7, rfl, ho7, hb7⟩
    have HPG : Hid (getB x = true → docPutB (getK x) (getC x) = x) := fun h => put_get h
    have hCl := getC_len x
    have HGX : Hid (∀ wx, Calls Tryd.prog 27 #[.string x] wx fun e w' => ∃ a c, e = .returned (.tuple #[.agg #[.string (getK x), .slice a (getC x).length c], .bool (getB x)]) ∧ CelRow w' a (getC x) ∧ Below wx.heap.size wx w') := fun wx => HGS.out x wx (by omega)
    have HFX : Hid (getB x = true → CelsSmall (getC x) ∧ (getK x).size ≤ 1048576) := fun h => by
      have h1 : docOkP (dparts x) = true := h
      obtain ⟨_, g2, g3⟩ := get_yes h1
      simp only [docOkP, Bool.and_eq_true] at h1
      have hf := form_of h1.2
      rw [g2, g3]
      exact ⟨fun i hi => by have := hf.2.2 i hi; omega, by omega⟩
    generalize getK x = K7 at *
    generalize getC x = C7 at *
    generalize getB x = B7 at *
    have D7 := Blk.new u7 #[.string K7, .slice p7 C7.length c7] 34
    have ho7a := ho7.alloc (.cells #[.string K7, .slice p7 C7.length c7] 34)
    obtain ⟨p7', c7', ev, _, _, _, q7⟩ := owns_celRow ho7a (celTo_cells C7)
    obtain ⟨rfl, rfl⟩ : p7 = p7' ∧ c7 = c7' := by injection ev with h1 h2 h3; exact ⟨h1, h3⟩
    have hw7 : Below w.heap.size w (u7.alloc (.cells #[.string K7, .slice p7 C7.length c7] 34)) := below_trans hw6 (hb7.alloc hb7.size _)
    clear ev ho7 ho7a hb7 hw6
    have hlt7 := D7.lt
    go_wp2_with fail
    refine (HGX.out _).mono ?_
    rintro e u8 ⟨p8, c8, rfl, q8, hb8⟩
    have D8 := (D7.below hb8 hlt7).alloc (.cells #[.string K7, .slice p8 C7.length c8] 34)
    have E8 := Blk.new u8 #[.string K7, .slice p8 C7.length c8] 34
    have hb8a : Below u8.heap.size u8 (u8.alloc (.cells #[.string K7, .slice p8 C7.length c8] 34)) := (Below.refl _ u8).alloc (Nat.le_refl _) _
    have q8a := q8.below hb8a
    have q7a := (q7.below hb8).below hb8a
    have hw8 := below_trans (below_trans hw7 hb8) hb8a
    have k0 := D8.cell 0
    have k1 := D8.cell 1
    have k2 := E8.cell 0
    have k3 := E8.cell 1
    simp at k0 k1 k2 k3
    clear D7 q7 q8 hw7 hb8a
    go_wp2_with fail
    refine (sdDoc_same K7 p7 p8 c7 c8 C7 _ (by omega) q7a q8a).mono ?_
    rintro e u9 ⟨rfl, hb9⟩
    have D9 := D8.below hb9 D8.lt
    have q9 := q7a.below hb9
    have hw9 := below_trans hw8 hb9
    clear k0 k1 k2 k3 D8 E8 q8a q7a hw8
    have k0 := D9.cell 0
    have k1 := D9.cell 1
    simp at k0 k1
    cases B7 with
    | false =>
      clear q9 D9
      go_wp2
      go_ret
      exact ⟨rfl, hw9⟩
    | true =>
      obtain ⟨hs9, hk9⟩ := HFX.out rfl
      have HX9 : Hid (docPutB K7 C7 = x) := HPG.out rfl
      go_wp2_with fail
      refine (docPutI_any K7 p7 c7 C7 _ hk9 (by omega) hs9 q9).mono ?_
      rintro e u10 ⟨rfl, hb10⟩
      rw [HX9.out]
      clear q9 D9 k0 k1 hs9
      go_wp2
      go_ret
      exact ⟨rfl, below_trans hw9 hb10⟩
  · clear HSD HFC
    go_wp2_with fail
    refine (drawDocGet_any _ _ _ _ (HB1.out _ hw4)).mono ?_
    rintro e u6 ⟨x, rfl, hx, hb6⟩
    have hw6 := below_trans hw4 hb6
    clear hb6 hw4 k0 k1 k2 k3
    go_wp2_with fail
    refine (HG.out x _ (by omega) (HM.out _ hw6)).mono ?_
    rintro e u7 ⟨p7, c7, rfl, ho7, hb7⟩
    have HPG : Hid (getB x = true → docPutB (getK x) (getC x) = x) := fun h => put_get h
    have hCl := getC_len x
    have HGX : Hid (∀ wx, Calls Tryd.prog 27 #[.string x] wx fun e w' => ∃ a c, e = .returned (.tuple #[.agg #[.string (getK x), .slice a (getC x).length c], .bool (getB x)]) ∧ CelRow w' a (getC x) ∧ Below wx.heap.size wx w') := fun wx => HGS.out x wx (by omega)
    have HFX : Hid (getB x = true → CelsSmall (getC x) ∧ (getK x).size ≤ 1048576) := fun h => by
      have h1 : docOkP (dparts x) = true := h
      obtain ⟨_, g2, g3⟩ := get_yes h1
      simp only [docOkP, Bool.and_eq_true] at h1
      have hf := form_of h1.2
      rw [g2, g3]
      exact ⟨fun i hi => by have := hf.2.2 i hi; omega, by omega⟩
    generalize getK x = K7 at *
    generalize getC x = C7 at *
    generalize getB x = B7 at *
    have D7 := Blk.new u7 #[.string K7, .slice p7 C7.length c7] 34
    have ho7a := ho7.alloc (.cells #[.string K7, .slice p7 C7.length c7] 34)
    obtain ⟨p7', c7', ev, _, _, _, q7⟩ := owns_celRow ho7a (celTo_cells C7)
    obtain ⟨rfl, rfl⟩ : p7 = p7' ∧ c7 = c7' := by injection ev with h1 h2 h3; exact ⟨h1, h3⟩
    have hw7 : Below w.heap.size w (u7.alloc (.cells #[.string K7, .slice p7 C7.length c7] 34)) := below_trans hw6 (hb7.alloc hb7.size _)
    clear ev ho7 ho7a hb7 hw6
    have hlt7 := D7.lt
    go_wp2_with fail
    refine (HGX.out _).mono ?_
    rintro e u8 ⟨p8, c8, rfl, q8, hb8⟩
    have D8 := (D7.below hb8 hlt7).alloc (.cells #[.string K7, .slice p8 C7.length c8] 34)
    have E8 := Blk.new u8 #[.string K7, .slice p8 C7.length c8] 34
    have hb8a : Below u8.heap.size u8 (u8.alloc (.cells #[.string K7, .slice p8 C7.length c8] 34)) := (Below.refl _ u8).alloc (Nat.le_refl _) _
    have q8a := q8.below hb8a
    have q7a := (q7.below hb8).below hb8a
    have hw8 := below_trans (below_trans hw7 hb8) hb8a
    have k0 := D8.cell 0
    have k1 := D8.cell 1
    have k2 := E8.cell 0
    have k3 := E8.cell 1
    simp at k0 k1 k2 k3
    clear D7 q7 q8 hw7 hb8a
    go_wp2_with fail
    refine (sdDoc_same K7 p7 p8 c7 c8 C7 _ (by omega) q7a q8a).mono ?_
    rintro e u9 ⟨rfl, hb9⟩
    have D9 := D8.below hb9 D8.lt
    have q9 := q7a.below hb9
    have hw9 := below_trans hw8 hb9
    clear k0 k1 k2 k3 D8 E8 q8a q7a hw8
    have k0 := D9.cell 0
    have k1 := D9.cell 1
    simp at k0 k1
    cases B7 with
    | false =>
      clear q9 D9
      go_wp2
      go_ret
      exact ⟨rfl, hw9⟩
    | true =>
      obtain ⟨hs9, hk9⟩ := HFX.out rfl
      have HX9 : Hid (docPutB K7 C7 = x) := HPG.out rfl
      go_wp2_with fail
      refine (docPutI_any K7 p7 c7 C7 _ hk9 (by omega) hs9 q9).mono ?_
      rintro e u10 ⟨rfl, hb10⟩
      rw [HX9.out]
      clear q9 D9 k0 k1 hs9
      go_wp2
      go_ret
      exact ⟨rfl, below_trans hw9 hb10⟩
end Go.Proofs.YtinniomeblkmeaaDoor
