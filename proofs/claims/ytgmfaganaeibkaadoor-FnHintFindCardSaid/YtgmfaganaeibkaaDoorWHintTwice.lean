/- The walk of the law FnHintTwice. -/
import Derived.Test.YtgmfaganaeibkaaDoorDrawHints
import Derived.Test.YtgmfaganaeibkaaDoorHintMath
import Derived.Test.YtgmfaganaeibkaaDoorSdHints
namespace Go.Proofs.YtgmfaganaeibkaaDoor
open Go.RowKit
set_option linter.unusedVariables false

theorem own_hns2 {w : World} {base : Nat} {v : Value} {L : List Hn} (h : w.ownsRow base 31 2 v L.length (hnCells L)) : ∃ p c, v = .slice p L.length c ∧ HnRow w p L := by
  obtain ⟨p, c, rfl, _, _, _, hr⟩ := owns_hnRow h (hnTo_cells L)
  exact ⟨p, c, rfl, hr⟩
set_option maxRecDepth 100000 in
set_option maxHeartbeats 4000000 in
theorem wFnHintTwice (a0 : Option Addr) (len0 cap0 : Nat) (w : World) (hm : MaxL w) (b0 : BytesIn w a0 len0 cap0) :
    Calls Tryd.prog 6 #[.slice a0 len0 cap0] w fun e w' => e = .returned (.bool true) ∧ Below w.heap.size w w' := by
  have m0 := b0.le
  have m1 := b0.max
  unfold maxLen at m1
  by_cases hbig0 : 1048576 < (len0 : Int)
  · clear b0 hm
    go_enter Tryd.func6, Tryd.ntmps6
    go_wp2
    go_ret
    exact ⟨rfl, Below.refl _ _⟩
  have HM : Hid (∀ wx, Below w.heap.size w wx → MaxL wx) := fun wx h => hm.below h
  clear hm
  go_enter Tryd.func6, Tryd.ntmps6
  go_wp2_with fail
  refine (drawHintAdd_any _ _ _ _ b0).mono ?_
  rintro e u1 ⟨G, C, L, t, x, rfl, hL, ht, hx, hD, hb1⟩
  have HSM : Hid (HnsSmall L) := hD.2.1
  have hLC := hD.1
  have hGl : G < u1.heap.size := (hD.2.2.lt G rfl).2
  have HR : Hid (∀ wx, Below u1.heap.size u1 wx → HnRow wx (some ⟨G, 0, none⟩) L) := fun wx h => hD.row.below h
  have HMU : Hid (∀ wx, Below u1.heap.size u1 wx → MaxL wx) := fun wx h => HM.out wx (below_trans hb1 h)
  clear hD b0 HM
  go_wp2_with fail
  refine (hintAddI_any (some ⟨G, 0, none⟩) C L t x u1 (by omega) HSM.out (by omega) (by omega) (HMU.out _ (Below.refl _ _)) (HR.out _ (Below.refl _ _))).mono ?_
  rintro e u2 ⟨v2, ⟨X, b⟩, rfl, hA, hlX, ho2, hb2⟩
  simp only at hlX ho2
  obtain ⟨p2, c2, rfl, r2⟩ := own_hns2 ho2
  have HA : Hid (AddH L t x (X, b)) := hA
  have HSX : Hid (HnsSmall X) := addH_small hA HSM.out (by omega)
  have hg2 : G < u2.heap.size := by have := hb2.size; omega
  clear hA ho2
  cases b
  all_goals
    go_wp2_with fail
    refine (hintAddS_any G C L t x u2 (by omega) hLC hg2 HSM.out (by omega) (by omega) (HR.out _ hb2)).mono ?_
    rintro e u3 ⟨g3, c3, r3, rfl, hA3, _, _, ho3, hb3⟩
    obtain rfl := HA.out.same hA3
    simp only at ho3
    obtain ⟨p3, c3', e3, q3⟩ := own_hns2 ho3
    injection e3 with e3 _ e3c
    subst e3
    subst e3c
    have r3 := r2.below hb3
    have hb13 := below_trans hb2 hb3
    clear hA3 ho3
  · go_wp2_with fail
    refine (sdHints_same p2 _ c2 _ X _ (by omega) r3 q3).mono ?_
    rintro e u4 ⟨rfl, hb4⟩
    have r4 := r3.below hb4
    have q4 := q3.below hb4
    go_wp2_with fail
    refine (sdHints_same p2 _ c2 _ X _ (by omega) r4 q4).mono ?_
    rintro e u5 ⟨rfl, hb5⟩
    clear r2 r3 q3 r4 q4
    go_wp2
    go_ret
    exact ⟨rfl, below_trans hb1 (below_trans hb13 (below_trans hb4 hb5))⟩
  · go_wp2_with fail
    refine (sdHints_same p2 _ c2 _ X _ (by omega) r3 q3).mono ?_
    rintro e u4 ⟨rfl, hb4⟩
    have r4 := r3.below hb4
    have hb14 := below_trans hb13 hb4
    clear r2 r3 q3 hb13 hb4 hb2 hb3
    go_wp2_with fail
    refine (hintAddI_any p2 c2 X t 3 u4 (by omega) HSX.out (by omega) (by omega) (HMU.out _ hb14) r4).mono ?_
    rintro e u5 ⟨v5, ⟨Y, b5⟩, rfl, hA5, hl5, ho5, hb5⟩
    simp only at hl5 ho5
    obtain ⟨p5, c5, rfl, r5⟩ := own_hns2 ho5
    have HA5 : Hid (AddH X t 3 (Y, b5)) := hA5
    have hb15 := below_trans hb14 hb5
    clear hA5 ho5 r4
    go_wp2_with fail
    refine (hintAddI_any (some ⟨G, 0, none⟩) C L t (x + 3) u5 (by omega) HSM.out (by omega) (by omega) (HMU.out _ hb15) (HR.out _ hb15)).mono ?_
    rintro e u6 ⟨v6, ⟨Z, b6⟩, rfl, hA6, hl6, ho6, hb6⟩
    simp only at hl6 ho6
    obtain ⟨p6, c6, rfl, r6⟩ := own_hns2 ho6
    have hb16 := below_trans hb15 hb6
    have r56 := r5.below hb6
    obtain ⟨hbb, hYZ⟩ := add_twice HA.out HA5.out hA6
    subst hbb
    clear hA6 ho6 r5 HA5 HA HR HMU
    cases b5 with
    | false =>
      go_wp2
      go_ret
      exact ⟨rfl, below_trans hb1 hb16⟩
    | true =>
      obtain rfl := hYZ rfl
      go_wp2_with fail
      refine (sdHints_same p5 p6 c5 c6 Y _ (by omega) r56 r6).mono ?_
      rintro e u7 ⟨rfl, hb7⟩
      clear r56 r6
      go_wp2
      go_ret
      exact ⟨rfl, below_trans hb1 (below_trans hb16 hb7)⟩
end Go.Proofs.YtgmfaganaeibkaaDoor
