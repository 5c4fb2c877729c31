/- The walk of the law FnExactDocTags. -/
import Derived.Test.YtjjfabemhdhppaaGreatDoorDocTags
import Derived.Test.YtjjfabemhdhppaaGreatDoorDocO
import Derived.Test.YtjjfabemhdhppaaGreatDoorSzMore
import Derived.Test.YtjjfabemhdhppaaGreatDoorCelRows
import Derived.Test.YtjjfabemhdhppaaGreatDoorCelsMark
import Derived.Test.YtjjfabemhdhppaaGreatDoorFldsMark
import Derived.Test.YtjjfabemhdhppaaGreatDoorMarkStr
import Derived.Test.YtjjfabemhdhppaaGreatDoorStrEq
namespace Go.Proofs.YtjjfabemhdhppaaGreatDoor
open Go.RowKit
set_option linter.unusedVariables false

theorem toFieldSO_any (a : Option Addr) (cap : Nat) (fs : List Fld) (w : World) (hz : fs.length ≤ 1048576) (hr : FldRow w a fs) :
    Calls Tryz.prog 7 #[.slice a fs.length cap] w fun e w' => ∃ p c xs, e = .returned (.slice p fs.length c) ∧ fs.length ≤ c ∧ w'.ownsRow w.heap.size 53 3 (.slice p fs.length c) fs.length xs ∧ FldRow w' p fs ∧ Below w.heap.size w w' := by
  refine (toFieldS_any a cap fs w hz hr).mono ?_
  rintro e w' ⟨v, xs, rfl, ho, ht, hb⟩
  obtain ⟨p, c, rfl, hc, _, hrow⟩ := owns_fldRow ho ht
  exact ⟨p, c, xs, rfl, hc, ho, hrow, hb⟩
theorem toFieldS3_any (a : Option Addr) (cap : Nat) (fs : List Fld) (w : World) (hz : fs.length ≤ 1048576) (hr : FldRow w a fs) :
    Calls Tryz.prog 7 #[.slice a fs.length cap] w fun e w' => ∃ p c, e = .returned (.slice p fs.length c) ∧ fs.length ≤ c ∧ FldRow w' p fs ∧ Below w.heap.size w w' := by
  refine (toFieldSO_any a cap fs w hz hr).mono ?_
  rintro e w' ⟨p, c, xs, rfl, hc, _, hrow, hb⟩
  exact ⟨p, c, rfl, hc, hrow, hb⟩
theorem own_apart {w1 w2 : World} {b1 b2 : Nat} {e1 e2 : TypeId} {s1 s2 n1 n2 : Nat} {v1 v2 : Value} {x1 x2 : List Value} (h1 : w1.ownsRow b1 e1 s1 v1 n1 x1) (h2 : w2.ownsRow b2 e2 s2 v2 n2 x2) (h : w1.heap.size ≤ b2) : v2.ownBlock = none ∨ v2.ownBlock ≠ v1.ownBlock := by
  cases e2 : v2.ownBlock with
  | none => exact .inl rfl
  | some j =>
    refine .inr fun e => ?_
    have a := (h1.lt j (by rw [← e])).2
    have b := (h2.lt j e2).1
    omega
theorem own_strs {w : World} {base : Nat} {p : Option Addr} {n c : Nat} {ss : List ByteArray} (h : w.ownsRow base 9 1 (.slice p n c) ss.length (ss.map Value.string)) : n = ss.length ∧ StrRow w p ss := by
  obtain ⟨p', c', e, hr⟩ := owns_strRow h
  injection e with h1 h2 h3
  subst h1
  exact ⟨h2, hr⟩
theorem own_slice {w : World} {base : Nat} {e : TypeId} {s n : Nat} {v : Value} {xs : List Value} (h : w.ownsRow base e s v n xs) : ∃ p c, v = .slice p n c := by
  rcases h.2 with ⟨rfl, rfl⟩ | ⟨g, c, cur, rfl, _⟩
  · exact ⟨_, _, rfl⟩
  · exact ⟨_, _, rfl⟩
set_option maxRecDepth 100000 in
set_option maxHeartbeats 4000000 in
theorem wFnExactDocTags (nm : ByteArray) (af : Option Addr) (capf : Nat) (fs : List Fld) (key : ByteArray) (a0 : Option Addr) (cap0 : Nat) (cs : List Cel) (w : World) (hm : MaxL w) (hzf : fs.length ≤ maxLen) (hsf : ∀ i, i < fs.length → (fat fs i).name.size ≤ maxLen) (hrf : FldRow w af fs)
    (hk : key.size ≤ maxLen) (hz : cs.length ≤ maxLen) (hsm : ∀ i, i < cs.length → (cat cs i).name.size ≤ maxLen ∧ (cat cs i).text.size ≤ maxLen) (hr : CelRow w a0 cs) :
    Calls Tryz.prog 3 #[.slice af fs.length capf, .agg #[.string key, .slice a0 cs.length cap0], .string nm] w fun e w' => e = .returned (.bool true) ∧ Below w.heap.size w w' := by
  have hb0 : Below w.heap.size w (w.alloc (.cells #[.string key, .slice a0 cs.length cap0] 25)) := (Below.refl _ w).alloc (Nat.le_refl _) _
  have B0 := Blk.new w #[.string key, .slice a0 cs.length cap0] 25
  have hl0 := B0.lt
  have HM : Hid (∀ wx, Below w.heap.size w wx → MaxL wx) := fun wx h => hm.below h
  have HRF : Hid (∀ wx, Below w.heap.size w wx → FldRow wx af fs) := fun wx h => hrf.below h
  have HRC : Hid (∀ wx, Below w.heap.size w wx → CelRow wx a0 cs) := fun wx h => hr.below h
  have HSM0 : Hid (∀ i, i < cs.length → (cat cs i).name.size ≤ maxLen ∧ (cat cs i).text.size ≤ maxLen) := hsm
  clear hm hrf hr hsm
  by_cases hnm : (1048576 : Int) < (nm.size : Int)
  · clear HM HRF HRC HSM0 hsf
    go_enter Tryz.func3, Tryz.ntmps3
    go_wp2
    go_ret
    exact ⟨rfl, hb0⟩
  have hnd0 : decide ((1048576 : Int) < (nm.size : Int)) = false := by simpa using hnm
  go_enter Tryz.func3, Tryz.ntmps3
  go_wp2_with fail
  refine (szFieldSL_any af capf fs _ hzf hsf (HRF.out _ hb0)).mono ?_
  rintro e u1 ⟨r, rfl, hr1, hrr, hb1⟩
  have B1 := B0.below hb1 hl0
  have hw1 := below_trans hb0 hb1
  have k0 := B1.cell 0
  have k1 := B1.cell 1
  simp at k0 k1
  clear B0 hb0 hb1 hsf
  by_cases hneg : r < 0
  · go_wp2
    go_ret
    exact ⟨rfl, hw1⟩
  have hnd : decide (r < 0) = false := by simpa using hneg
  obtain ⟨hz1, hsm1⟩ := hrr (by omega)
  have HSF : Hid (FldsSmall fs) := hsm1
  clear hsm1 hrr
  go_wp2_with fail
  refine (szDocL_any key a0 cap0 cs r _ (by omega) hr1 hk hz HSM0.out (HRC.out _ hw1)).mono ?_
  rintro e u2 ⟨r2, rfl, hrr2, hb2⟩
  have B2 := B1.below hb2 B1.lt
  have hw2 := below_trans hw1 hb2
  clear k0 k1 B1 hb2 hw1 HSM0
  have k0 := B2.cell 0
  have k1 := B2.cell 1
  simp at k0 k1
  by_cases hneg2 : r2 < 0
  · go_wp2
    go_ret
    exact ⟨rfl, hw2⟩
  have hnd2 : decide (r2 < 0) = false := by simpa using hneg2
  obtain ⟨hk2, hz2, hs2⟩ := hrr2 (by omega)
  have HSC : Hid (CelsSmall cs) := hs2
  clear hs2 hrr2
  have HTS : Hid (∀ a capf p capc wx, FldRow wx a fs → CelRow wx p cs → Calls Tryz.prog 6 #[.slice a fs.length capf, .agg #[.string key, .slice p cs.length capc], .string nm] wx fun e w' => ∃ v, e = .returned v ∧ w'.ownsRow wx.heap.size 9 1 v (dtags fs key cs nm).length ((dtags fs key cs nm).map Value.string) ∧ Below wx.heap.size wx w') := fun a capf p capc wx h1 h2 => docTagsS_any a capf fs key p capc cs nm wx hz1 HSF.out h1 hk2 hz2 HSC.out h2
  have HTI : Hid (∀ a capf p capc wx, fs.length ≤ capf → FldRow wx a fs → CelRow wx p cs → MaxL wx → Calls Tryz.prog 9 #[.slice a fs.length capf, .agg #[.string key, .slice p cs.length capc], .string nm] wx fun e w' => ∃ v, e = .returned v ∧ w'.ownsRow wx.heap.size 9 1 v (dtags fs key cs nm).length ((dtags fs key cs nm).map Value.string) ∧ Below wx.heap.size wx w') := fun a capf p capc wx hc h1 h2 h3 => docTagsI_any a capf fs key p capc cs nm wx hz1 hc HSF.out h1 hk2 hz2 HSC.out h2 h3
  have HTL : Hid ((dtags fs key cs nm).length ≤ 2000000) := dtags_len HSC.out
  generalize dtags fs key cs nm = T at *
  have hTL := HTL.out
  clear HTL
  have rf2 := HRF.out _ hw2
  have rc2 := HRC.out _ hw2
  have hl2 := B2.lt
  go_wp2_with fail
  go_region_with (first
    | (go_at_call 7; refine (toFieldS3_any af capf fs _ hz1 (by exact rf2)).mono ?_; rintro e u3 ⟨p3, c3, rfl, hc3, r3, hb3d⟩; have hb3 : Below u2.heap.size u2 u3 := ⟨hb3d.os, hb3d.tape, hb3d.output, hb3d.size, hb3d.block⟩; clear hb3d; obtain ⟨hcl3, hfz3⟩ := bcell hb3; have q3 := rc2.below hb3)
    | (go_at_call 8; refine (toDoc_any key a0 cap0 cs _ hz2 (by exact q3)).mono ?_; rintro e u4 ⟨p4, c4, rfl, hc4, _, _, q4, hb4⟩; have r4 := r3.below hb4)
    | (go_at_call 6; refine (HTS.out p3 c3 p4 c4 _ (by exact r4) (by exact q4)).mono ?_; rintro e u5 ⟨v5, rfl, ho5, hb5⟩))
  all_goals
    obtain ⟨p5, c5, rfl⟩ := own_slice ho5
    have hr5 := (own_strs ho5).2
    have R5 : Hid (StrRow u5 p5 T) := hr5
    clear ho5 hr5
    have hb25 : Below u2.heap.size u2 u5 := below_trans hb3 (below_trans hb4 hb5)
    have B5 := B2.below hb25 B2.lt
    have hw5 := below_trans hw2 hb25
    clear k0 k1 B2 hb25 hw2 r3 r4 q3 q4 rf2 rc2 hcl3 hfz3 hb3 hb4 hb5
    have k0 := B5.cell 0
    have k1 := B5.cell 1
    simp at k0 k1
    go_wp2_with fail
    refine (toFieldSO_any af capf fs _ hz1 (HRF.out _ hw5)).mono ?_
    rintro e u6 ⟨p6, c6, xs6, rfl, hc6, ho6, r6, hb6⟩
    have B6 := B5.below hb6 B5.lt
    have hw6 := below_trans hw5 hb6
    clear k0 k1 B5
    have k0 := B6.cell 0
    have k1 := B6.cell 1
    simp at k0 k1
    go_wp2_with fail
    refine (toDocO_any key a0 cap0 cs _ hz2 (HRC.out _ hw6)).mono ?_
    rintro e u7 ⟨p7, c7, xs7, rfl, ho7, ht7, hb7⟩
    have q7 : CelRow u7 p7 cs := by
      obtain ⟨p', c', e, _, _, _, h⟩ := owns_celRow ho7 ht7
      injection e with h1 h2 h3
      subst h1
      exact h
    have hA : Below u7.heap.size u7 (u7.alloc (.cells #[.string key, .slice p7 cs.length c7] 34)) := (Below.refl _ _).alloc (Nat.le_refl _) _
    have hb7a := below_trans hb7 hA
    have r7 := r6.below hb7a
    have q7a := q7.below hA
    have B7 := (B6.below hb7 B6.lt).alloc (.cells #[.string key, .slice p7 cs.length c7] 34)
    have X7 := Blk.new u7 #[.string key, .slice p7 cs.length c7] 34
    have hw7 := below_trans hw6 hb7a
    have ho7a := ho7.kept (grown_none hA) (Classical.em _)
    have hs7 := hA.size
    clear k0 k1 B6 hb7 hw6 r6 q7 hA ht7 ho7
    go_wp2_with fail
    refine (HTI.out p6 c6 p7 c7 _ hc6 r7 q7a (HM.out _ hw7)).mono ?_
    rintro e u8 ⟨x8, rfl, ho8, hb8⟩
    generalize u7.alloc (.cells #[.string key, .slice p7 cs.length c7] 34) = v7 at *
    obtain ⟨p8, c8, rfl⟩ := own_slice ho8
    have R8 := (own_strs ho8).2
    have r8 := r7.below hb8
    have q8 := q7a.below hb8
    have B8 := B7.below hb8 B7.lt
    have X8 := X7.below hb8 X7.lt
    have hw8 := below_trans hw7 hb8
    clear B7 X7 r7 q7a hw7
    have R58 := R5.out.below (below_trans hb6 (below_trans hb7a hb8))
    go_wp2_with fail
    refine (eqStringS_same p8 p5 c8 c5 T _ (by omega) R8 R58).mono ?_
    rintro e u9 ⟨rfl, hb9⟩
    have r9 := r8.below hb9
    have q9 := q8.below hb9
    have B9 := B8.below hb9 B8.lt
    have X9 := X8.below hb9 X8.lt
    have hw9 := below_trans hw8 hb9
    have hb89 := below_trans hb8 hb9
    have ho9 := ho8.kept (grown_none hb9) (Classical.em _)
    clear B8 X8 r8 q8 hw8 R8 R58 hb9 hb8 ho8
    have k0 := B9.cell 0
    have k1 := B9.cell 1
    have x0 := X9.cell 0
    have x1 := X9.cell 1
    simp at k0 k1 x0 x1
    go_wp2_with fail
    refine (toFieldS3_any af capf fs _ hz1 (HRF.out _ hw9)).mono ?_
    rintro e u10 ⟨p10, c10, rfl, hc10, r10, hb10⟩
    have r10b := r9.below hb10
    have q10 := q9.below hb10
    have B10 := B9.below hb10 B9.lt
    have X10 := X9.below hb10 X9.lt
    have hw10 := below_trans hw9 hb10
    clear k0 k1 x0 x1 B9 X9 hw9 r9 q9
    go_wp2_with fail
    refine (eqFieldS_same p6 p10 c6 c10 fs _ (by omega) r10b r10).mono ?_
    rintro e u11 ⟨rfl, hb11⟩
    have q11 := q10.below hb11
    have B11 := B10.below hb11 B10.lt
    have X11 := X10.below hb11 X10.lt
    have hw11 := below_trans hw10 hb11
    have hb811 := below_trans hb89 (below_trans hb10 hb11)
    have ho11 := ho9.kept (grown_none (below_trans hb10 hb11)) (Classical.em _)
    clear B10 X10 hb10 hb11 hw10 r10 r10b q10 hb89 ho9
    have k0 := B11.cell 0
    have k1 := B11.cell 1
    have x0 := X11.cell 0
    have x1 := X11.cell 1
    simp at k0 k1 x0 x1
    have r11 := HRC.out _ hw11
    have hlB := B11.lt
    have hlX := X11.lt
    go_wp2_with fail
    go_region_with (first
      | (go_at_call 8; refine (toDoc_any key a0 cap0 cs _ hz2 (by exact r11)).mono ?_; rintro e u12 ⟨p12, c12, rfl, hc12, _, _, q12, hb12d⟩; have hb12 : Below u11.heap.size u11 u12 := ⟨hb12d.os, hb12d.tape, hb12d.output, hb12d.size, hb12d.block⟩; clear hb12d; obtain ⟨hcl12, hfz12⟩ := bcell hb12; have q12b := q11.below hb12)
      | (go_at_call 12; refine (eqDoc_same key p7 p12 c7 c12 cs _ (by omega) (by exact q12b) (by exact q12)).mono ?_; rintro e u13 ⟨rfl, hb13d⟩; have hb13 : Below u12.heap.size u12 u13 := ⟨hb13d.os, hb13d.tape, hb13d.output, hb13d.size, hb13d.block⟩; clear hb13d))
    all_goals
      have hb1113 := below_trans hb12 hb13
      have B13 := B11.below hb1113 B11.lt
      have X13 := X11.below hb1113 X11.lt
      have hw13 := below_trans hw11 hb1113
      have hb813 := below_trans hb811 hb1113
      have ho13 := ho11.kept (grown_none hb1113) (Classical.em _)
      have hF13 := ho6.kept (grown_none (below_trans hb7a hb813)) (Classical.em _)
      have hC13 := ho7a.kept (grown_none hb813) (Classical.em _)
      clear k0 k1 x0 x1 hlB hlX q11 q12 q12b r11 hcl12 hfz12 B11 X11 hb12 hb13 hw11 ho11 hb811 hb1113
      have hb513 := below_trans hb6 (below_trans hb7a hb813)
      have x0 := X13.cell 0
      have x1 := X13.cell 1
      simp at x0 x1
      go_wp2_with fail
      refine (markFieldS_any u5.heap.size (.slice p6 fs.length c6) fs.length 1 xs6 _ (by have := hF13.1; omega) (by omega) (by omega) (by omega) hF13).mono ?_
      rintro e u14 ⟨rfl, _, hg14⟩
      have hCa := own_apart ho6 hC13 (Nat.le_refl _)
      have hTa := own_apart ho6 ho13 (by have := hb7a.size; omega)
      have hC14 := hC13.kept hg14 hCa
      have ho14 := ho13.kept hg14 hTa
      have B14 := B13.grown hg14 (fun e => own_type hF13 B13 (by decide) e.symm)
      have X14 := X13.grown hg14 (fun e => own_type hF13 X13 (by decide) e.symm)
      have hb514 : Below u5.heap.size u5 u14 := hb513.grown hg14 (by have := hb513.size; omega) (fun j hj => (hF13.lt j hj).1)
      clear x0 x1 hCa hTa B13 X13 hg14 hF13 hC13 ho13 hb513 hw13 ho6 hb813
      have x0 := X14.cell 0
      have x1 := X14.cell 1
      simp at x0 x1
      have hn3 : ((1 + 3 * fs.length : Nat) : Int) = 1 + 3 * (fs.length : Int) := by omega
      go_wp2_with fail
      refine (markDoc_any u6.heap.size key (.slice p7 cs.length c7) cs.length (1 + 3 * fs.length) xs7 _ (by have := hC14.1; omega) (by omega) (by omega) (by omega) hC14).mono ?_
      rintro e u15 ⟨rfl, _, hg15⟩
      have hTa := own_apart ho7a ho14 (Nat.le_refl _)
      have ho15 := ho14.kept hg15 hTa
      have B15 := B14.grown hg15 (fun e => own_type hC14 B14 (by decide) e.symm)
      have hb515 : Below u5.heap.size u5 u15 := hb514.grown hg15 (by have := hb514.size; omega) (fun j hj => by have := (hC14.lt j hj).1; have := hb6.size; omega)
      clear x0 x1 hTa B14 X14 hg15 hC14 ho14 hb514 ho7a hn3
      have R15 := R5.out.below hb515
      have S15 := (own_strs ho15).2
      go_wp2_with fail
      refine (eqStringS_same p8 p5 c8 c5 T _ (by omega) S15 R15).mono ?_
      rintro e u16 ⟨rfl, hb16⟩
      have ho16 := ho15.kept (grown_none hb16) (Classical.em _)
      have B16 := B15.below hb16 B15.lt
      have hb516 := below_trans hb515 hb16
      clear ho15 B15 hb16 R15 S15 hb515
      go_wp2_with fail
      refine (markStringS_any v7.heap.size (.slice p8 T.length c8) T.length 1 (T.map Value.string) _ (by simp) (by omega) (by omega) (by omega) ho16).mono ?_
      rintro e u17 ⟨rfl, ho17, hg17⟩
      have B17 := B16.grown hg17 (fun e => own_type ho16 B16 (by decide) e.symm)
      have hb517 : Below u5.heap.size u5 u17 := hb516.grown hg17 (by have := hb516.size; omega) (fun j hj => by have := (ho16.lt j hj).1; have := hb6.size; have := hb7a.size; omega)
      clear ho16 B16 hg17 hb516
      obtain ⟨e1, M17⟩ : T.length = (marksB 1 T.length).length ∧ StrRow u17 p8 (marksB 1 T.length) := by
        have h17 : u17.ownsRow v7.heap.size 9 1 (.slice p8 T.length c8) (marksB 1 T.length).length ((marksB 1 T.length).map Value.string) := by rw [marksB_len]; exact ho17
        exact own_strs h17
      clear e1 ho17
      go_wp2_with fail
      refine (heldStringS_any p8 c8 T.length 1 _ (by omega) (by omega) (by omega) M17).mono ?_
      rintro e u18 ⟨rfl, hb18⟩
      have B18 := B17.below hb18 B17.lt
      have hb518 := below_trans hb517 hb18
      have hw18 := below_trans hw5 hb518
      have M18 := M17.below hb18
      clear B17 M17 hb18 hb517
      have k0 := B18.cell 0
      have k1 := B18.cell 1
      simp at k0 k1
      have rf18 := HRF.out _ hw18
      have rc18 := HRC.out _ hw18
      have hl18 := B18.lt
      go_wp2_with fail
      go_region_with (first
        | (go_at_call 7; refine (toFieldS3_any af capf fs _ hz1 (by exact rf18)).mono ?_; rintro e u19 ⟨p19, c19, rfl, hc19, r19, hb19d⟩; have hb19 : Below u18.heap.size u18 u19 := ⟨hb19d.os, hb19d.tape, hb19d.output, hb19d.size, hb19d.block⟩; clear hb19d; obtain ⟨hcl19, hfz19⟩ := bcell hb19; have q19 := rc18.below hb19)
        | (go_at_call 8; refine (toDoc_any key a0 cap0 cs _ hz2 (by exact q19)).mono ?_; rintro e u20 ⟨p20, c20, rfl, hc20, _, _, q20, hb20⟩; have r20 := r19.below hb20)
        | (go_at_call 9; refine (HTI.out p19 c19 p20 c20 _ hc19 (by exact r20) (by exact q20) (HM.out _ (below_trans hw18 (below_trans hb19 hb20)))).mono ?_; rintro e u21 ⟨v21, rfl, ho21, hb21⟩))
      all_goals
        obtain ⟨p21, c21, rfl⟩ := own_slice ho21
        have R21 := (own_strs ho21).2
        have hb1821 := below_trans hb19 (below_trans hb20 hb21)
        have M21 := M18.below hb1821
        have hb521 := below_trans hb518 hb1821
        have R521 := R5.out.below hb521
        clear k0 k1 r19 r20 q19 q20 rf18 rc18 hcl19 hfz19 hb19 hb20 hb21 ho21 M18 B18 hl18 hb1821 hb518 hw18
        go_wp2_with fail
        refine (eqStringS_same p21 p5 c21 c5 T _ (by omega) R21 R521).mono ?_
        rintro e u22 ⟨rfl, hb22⟩
        have M22 := M21.below hb22
        have hb522 := below_trans hb521 hb22
        clear R21 R521 M21 hb22 hb521
        go_wp2_with fail
        refine (heldStringS_any p8 c8 T.length 1 _ (by omega) (by omega) (by omega) M22).mono ?_
        rintro e u23 ⟨rfl, hb23⟩
        have hw23 := below_trans hw5 (below_trans hb522 hb23)
        clear M22 hb23 hb522
        go_wp2
        go_ret
        exact ⟨rfl, hw23⟩
end Go.Proofs.YtjjfabemhdhppaaGreatDoor
