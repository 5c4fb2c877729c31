/- The walk of the law FnExactHintFind. -/
import Derived.Test.YtgmfaganaeibkaaDoorWHintAdd
import Derived.Test.YtgmfaganaeibkaaDoorHintFindI
import Derived.Test.YtgmfaganaeibkaaDoorHintFindS
namespace Go.Proofs.YtgmfaganaeibkaaDoor
open Go.RowKit
set_option linter.unusedVariables false

set_option maxRecDepth 100000 in
set_option maxHeartbeats 4000000 in
theorem wFnExactHintFind (a0 : Option Addr) (cap0 : Nat) (fs : List Hn) (t : ByteArray) (x : Int) (w : World) (hm : MaxL w) (hz : fs.length ≤ maxLen) (hsm : ∀ i, i < fs.length → (hnat fs i).text.size ≤ maxLen) (hts : t.size ≤ maxLen) (hr : HnRow w a0 fs) :
    Calls Tryd.prog 10 #[.slice a0 fs.length cap0, .string t, .int .i64 x] w fun e w' => e = .returned (.bool true) ∧ Below w.heap.size w w' := by
  have HM : Hid (∀ wx, Below w.heap.size w wx → MaxL wx) := fun wx h => hm.below h
  have HRF : Hid (∀ wx, Below w.heap.size w wx → HnRow wx a0 fs) := fun wx h => hr.below h
  clear hm
  by_cases htb : 1048576 < (t.size : Int)
  · clear hr hsm
    unfold maxLen at hts
    go_enter Tryd.func10, Tryd.ntmps10
    go_wp2
    go_ret
    exact ⟨rfl, Below.refl _ _⟩
  have htd : decide (1048576 < (t.size : Int)) = false := by simpa using htb
  have ht1 : t.size ≤ 1048576 := by omega
  clear htb hts
  go_enter Tryd.func10, Tryd.ntmps10
  go_wp2_with fail
  refine (szHintS_any a0 cap0 fs _ hz hsm hr).mono ?_
  rintro e u1 ⟨r, rfl, hrr, hb1⟩
  clear hr hsm
  by_cases hneg : r < 0
  · go_wp2
    go_ret
    exact ⟨rfl, hb1⟩
  have hnd : decide (r < 0) = false := by simpa using hneg
  obtain ⟨hz1, hsm1⟩ := hrr (by omega)
  have HSM : Hid (HnsSmall fs) := hsm1
  clear hsm1 hrr
  have HI : Hid (∀ a cap wx, Below w.heap.size w wx → HnRow wx a fs → Calls Tryd.prog 18 #[.slice a fs.length cap, .string t, .int .i64 x] wx fun e w' => FindAns wx (FindR fs t x) e w') := fun a cap wx hb h => hintFindI_any a cap fs t x wx hz1 HSM.out (HM.out _ hb) h
  have HS : Hid (∀ a cap wx, HnRow wx a fs → Calls Tryd.prog 19 #[.slice a fs.length cap, .string t, .int .i64 x] wx fun e w' => FindAnsS wx (FindR fs t x) e w') := fun a cap wx h => hintFindS_any a cap fs t x wx hz1 HSM.out h
  have hlr := findR_len fs t x
  generalize FindR fs t x = R at *
  go_wp2_with fail
  refine (toHintSO_any a0 cap0 fs _ hz1 (HRF.out _ hb1)).mono ?_
  rintro e u2 ⟨xs2, rfl, ho2, hg2, r2, hb2⟩
  go_wp2_with fail
  refine (HS.out _ _ _ r2).mono ?_
  rintro e u3 ⟨g3, c3, rfl, ho3, hb3⟩
  have hw3 := below_trans hb1 (below_trans hb2 hb3)
  obtain ⟨p3, c3', e3, r3⟩ := own_hns ho3
  injection e3 with e3 _ e3c
  subst e3
  subst e3c
  have R3 : Hid (HnRow u3 (some ⟨g3, 0, none⟩) R) := r3
  clear r3 ho3 ho2 hg2 r2 hb2 hb3 hb1 HS
  go_wp2_with fail
  refine (toHintSO_any a0 cap0 fs _ hz1 (HRF.out _ hw3)).mono ?_
  rintro e u4 ⟨xs4, rfl, ho4, hg4, r4, hb4⟩
  have hw4 := below_trans hw3 hb4
  go_wp2_with fail
  refine (HI.out _ _ _ hw4 r4).mono ?_
  rintro e u5 ⟨v5, rfl, ho5, hb5⟩
  obtain ⟨p5, c5, rfl, r5⟩ := own_hns ho5
  have hb35 := below_trans hb4 hb5
  have q5 := R3.out.below hb35
  have r45 := r4.below hb5
  have hw5 := below_trans hw4 hb5
  clear r4
  go_wp2_with fail
  refine (eqHintS_same p5 (some ⟨g3, 0, none⟩) c5 c3 R _ (by omega) r5 q5).mono ?_
  rintro e u6 ⟨rfl, hb6⟩
  have ho6 := ho5.kept (grown_none hb6) (Classical.em _)
  have r46 := r45.below hb6
  have hw6 := below_trans hw5 hb6
  have hb36 := below_trans hb35 hb6
  clear r45 q5 r5 hw5
  go_wp2_with fail
  refine (toHintSO_any a0 cap0 fs _ hz1 (HRF.out _ hw6)).mono ?_
  rintro e u7 ⟨xs7, rfl, _, _, r7, hb7⟩
  have r47 := r46.below hb7
  go_wp2_with fail
  refine (eqHintS_same _ _ fs.length fs.length fs _ (by omega) r47 r7).mono ?_
  rintro e u8 ⟨rfl, hb8⟩
  have hb68 := below_trans hb7 hb8
  have hb48 := below_trans hb5 (below_trans hb6 hb68)
  have ho8 := ho6.kept (grown_none hb68) (Classical.em _)
  have hX8 := ho4.kept (grown_none hb48) (Classical.em _)
  have hb38 := below_trans hb36 hb68
  clear r46 r47 r7 ho6 hb7 hb8 hb68 hb36 hw6 hb6 hb48
  go_wp2_with fail
  refine (markHintS_any u3.heap.size (.slice (some ⟨u3.heap.size, 0, none⟩) fs.length fs.length) fs.length 1 xs4 _ (by have := hX8.1; omega) (by omega) (by omega) (by omega) hX8).mono ?_
  rintro e u9 ⟨rfl, _, hg9⟩
  have hTa := own_apart ho4 ho5 (Nat.le_refl _)
  have ho9 := ho8.kept hg9 hTa
  have hb39 : Below u3.heap.size u3 u9 := hb38.grown hg9 hb38.size (fun j hj => (hX8.lt j hj).1)
  have q9 := R3.out.below hb39
  clear hTa hg9 hX8 ho8 hb38 ho4 hb35 hw4
  obtain ⟨p5', c5', e5, r9⟩ := own_hns ho9
  obtain rfl : p5 = p5' := by injection e5
  clear e5
  go_wp2_with fail
  refine (eqHintS_same p5 (some ⟨g3, 0, none⟩) c5 c3 R _ (by omega) r9 q9).mono ?_
  rintro e u10 ⟨rfl, hb10⟩
  have ho10 := ho9.kept (grown_none hb10) (Classical.em _)
  have hb310 := below_trans hb39 hb10
  clear r9 q9 ho9 hb39 hb10
  go_wp2_with fail
  refine (markHintS_any u4.heap.size (.slice p5 R.length c5) R.length 1 (hnCells R) _ (hnCells_len R) (by omega) (by omega) (by omega) ho10).mono ?_
  rintro e u11 ⟨rfl, ho11, hg11⟩
  have hb311 : Below u3.heap.size u3 u11 := hb310.grown hg11 hb310.size (fun j hj => Nat.le_trans hb4.size (ho10.lt j hj).1)
  have hK := owns_markH ho11
  have hw11 := below_trans hw3 hb311
  clear ho10 ho11 hg11 hb310
  go_wp2_with fail
  refine (heldHintS_any p5 c5 R.length 1 _ (by omega) (by omega) (by omega) hK).mono ?_
  rintro e u12 ⟨rfl, hb12⟩
  have hK12 := hK.below hb12
  have hw12 := below_trans hw11 hb12
  have hb312 := below_trans hb311 hb12
  clear hK hw11 hb12 hb311
  go_wp2_with fail
  refine (toHintSO_any a0 cap0 fs _ hz1 (HRF.out _ hw12)).mono ?_
  rintro e u13 ⟨xs13, rfl, _, _, r13, hb13⟩
  have hw13 := below_trans hw12 hb13
  go_wp2_with fail
  refine (HI.out _ _ _ hw13 r13).mono ?_
  rintro e u14 ⟨v14, rfl, ho14, hb14⟩
  obtain ⟨p14, c14, rfl, r14⟩ := own_hns ho14
  have hb1214 := below_trans hb13 hb14
  have hK14 := hK12.below hb1214
  have q14 := R3.out.below (below_trans hb312 hb1214)
  have hw14 := below_trans hw13 hb14
  clear ho14 hw13 hK12 r13 hb13 hb14 hb1214 hb312
  go_wp2_with fail
  refine (eqHintS_same p14 (some ⟨g3, 0, none⟩) c14 c3 R _ (by omega) r14 q14).mono ?_
  rintro e u15 ⟨rfl, hb15⟩
  have hK15 := hK14.below hb15
  have hw15 := below_trans hw14 hb15
  clear hK14 r14 q14 hb15 hw14
  go_wp2_with fail
  refine (heldHintS_any p5 c5 R.length 1 _ (by omega) (by omega) (by omega) hK15).mono ?_
  rintro e u16 ⟨rfl, hb16⟩
  go_wp2
  go_ret
  exact ⟨rfl, below_trans hw15 hb16⟩
end Go.Proofs.YtgmfaganaeibkaaDoor
