/- The walk of the law FnExactDocGet. -/
import Derived.Test.YtinniomeblkmeaaDoorDocGetS
import Derived.Test.YtinniomeblkmeaaDoorCelsMark
namespace Go.Proofs.YtinniomeblkmeaaDoor
open Go.RowKit
set_option linter.unusedVariables false

theorem getC_len (s : ByteArray) : (getC s).length ≤ 4 := by
  unfold getC
  cases h : getB s with
  | false => simp
  | true =>
    have h1 : docOkP (dparts s) = true := h
    simp only [docOkP, Bool.and_eq_true] at h1
    exact (form_of h1.2).2.1

set_option maxRecDepth 100000 in
set_option maxHeartbeats 1000000 in
theorem wFnExactDocGet (s : ByteArray) (w : World) (hm : MaxL w) (hs : s.size ≤ maxLen) :
    Calls Tryd.prog 11 #[.string s] w fun e w' => e = .returned (.bool true) ∧ Below w.heap.size w w' := by
  unfold maxLen at hs
  by_cases hbig : 1048576 < (s.size : Int)
  · clear hm
    go_enter Tryd.func11, Tryd.ntmps11
    go_wp2
    go_ret
    exact ⟨rfl, Below.refl _ _⟩
  have HM : Hid (MaxL w) := hm
  clear hm
  go_enter Tryd.func11, Tryd.ntmps11
  go_wp2_with fail
  refine (getS_any s _ (by omega)).mono ?_
  rintro e u1 ⟨p0, c0, rfl, hr0, hb1⟩
  have HG : Hid (∀ w, MaxL w → Calls Tryd.prog 23 #[.string s] w fun e w' => GetAns w w' s e) := fun w hm => getI_any s w (by omega) hm
  have hL := getC_len s
  unfold GetAns at HG
  generalize getC s = C at *
  generalize getK s = K at *
  generalize getB s = B at *
  have b0 := Blk.new u1 #[.string K, .slice p0 C.length c0] 34
  have hb1' : Below w.heap.size w (u1.alloc (.cells #[.string K, .slice p0 C.length c0] 34)) := hb1.alloc hb1.size _
  have r0' := hr0.below ((Below.refl _ u1).alloc (Nat.le_refl _) (.cells #[.string K, .slice p0 C.length c0] 34))
  have hz1 : (u1.alloc (.cells #[.string K, .slice p0 C.length c0] 34)).heap.size = u1.heap.size + 1 := by simp
  have hs1 := hb1.size
  obtain ⟨v1, hv1⟩ : ∃ v1, u1.alloc (.cells #[.string K, .slice p0 C.length c0] 34) = v1 := ⟨_, rfl⟩
  clear hr0
  rw [hv1] at b0 hb1' r0' hz1
  have R0 : Hid (CelRow v1 p0 C) := r0'
  go_wp2_with fail
  refine (HG.out v1 (HM.out.below hb1')).mono ?_
  rintro e u2 ⟨p1, c1, rfl, ho2, hb2⟩
  clear hv1
  have hs2 := hb2.size
  have b0a := (b0.below hb2 (by omega)).alloc (.cells #[.string K, .slice p1 C.length c1] 34)
  have b1a := Blk.new u2 #[.string K, .slice p1 C.length c1] 34
  have ho2a := ho2.alloc (.cells #[.string K, .slice p1 C.length c1] 34)
  have hb2a : Below v1.heap.size v1 (u2.alloc (.cells #[.string K, .slice p1 C.length c1] 34)) := hb2.alloc hs2 _
  have r0a := r0'.below hb2a
  obtain ⟨p1', c1', ev, _, _, _, r1a⟩ := owns_celRow ho2a (celTo_cells C)
  obtain ⟨rfl, rfl⟩ : p1 = p1' ∧ c1 = c1' := by injection ev with h1 h2 h3; exact ⟨h1, h3⟩
  have k0 := b0a.cell 0
  have k1 := b0a.cell 1
  have k2 := b1a.cell 0
  have k3 := b1a.cell 1
  simp at k0 k1 k2 k3
  have hz2 : (u2.alloc (.cells #[.string K, .slice p1 C.length c1] 34)).heap.size = u2.heap.size + 1 := by simp
  clear ev b0 r0' ho2
  go_wp2_with fail
  refine (eqDoc_same K p1 p0 c1 c0 C _ (by omega) r1a r0a).mono ?_
  rintro e u3 ⟨rfl, hb3⟩
  generalize u2.alloc (.cells #[.string K, .slice p1 C.length c1] 34) = v2 at *
  have hs3 := hb3.size
  have b0b := b0a.below hb3 (by omega)
  have b1b := b1a.below hb3 (by omega)
  have ho3 := ho2a.kept (grown_none hb3) (Classical.em _)
  have r0b := r0a.below hb3
  have k4 := b1b.cell 0
  have k5 := b1b.cell 1
  simp at k4 k5
  clear k0 k1 k2 k3 r1a r0a ho2a b0a b1a
  go_wp2_with fail
  refine (markDoc_any v1.heap.size K (.slice p1 C.length c1) C.length 1 (celCells C) _ (by have := ho3.1; omega) (by omega) (by omega) (by omega) ho3).mono ?_
  rintro e u4 ⟨rfl, ho4, hg4⟩
  have hrl : ∀ j, (Value.slice p1 C.length c1).ownBlock = some j → v1.heap.size ≤ j := fun j hj => (ho3.lt j hj).1
  have b0c := b0b.grown hg4 (fun e => own_type ho3 b0b (by decide) e.symm)
  have b1c := b1b.grown hg4 (fun e => own_type ho3 b1b (by decide) e.symm)
  have hb13 : Below v1.heap.size v1 u3 := hb2a.trans (hb3.mono (by omega))
  have hb14 : Below v1.heap.size v1 u4 := hb13.grown hg4 (by have := hb13.size; omega) hrl
  have r0c : CelRow u4 p0 C := R0.out.below hb14
  have m4 := owns_markC ho4
  have k6 := b1c.cell 0
  have k7 := b1c.cell 1
  simp at k6 k7
  clear k4 k5 r0b b0b b1b ho3 ho4
  go_wp2_with fail
  refine (heldDoc_any K p1 c1 C.length 1 _ (by omega) (by omega) (by omega) m4).mono ?_
  rintro e u5 ⟨rfl, hb5⟩
  have hs5 := hb5.size
  have b0d := b0c.below hb5 b0c.lt
  have b1d := b1c.below hb5 b1c.lt
  have r0d := r0c.below hb5
  have m5 := m4.below hb5
  have hw5 : Below w.heap.size w u5 := hb1'.trans ((hb14.trans (hb5.mono (by have := hb14.size; omega))).mono (by omega))
  clear k6 k7 b0c b1c r0c m4
  go_wp2_with fail
  refine (HG.out _ (HM.out.below hw5)).mono ?_
  rintro e u6 ⟨p2, c2, rfl, ho6, hb6⟩
  have hs6 := hb6.size
  have b0e := (b0d.below hb6 b0d.lt).alloc (.cells #[.string K, .slice p2 C.length c2] 34)
  have b1e := (b1d.below hb6 b1d.lt).alloc (.cells #[.string K, .slice p2 C.length c2] 34)
  have b2e := Blk.new u6 #[.string K, .slice p2 C.length c2] 34
  have ho6a := ho6.alloc (.cells #[.string K, .slice p2 C.length c2] 34)
  have hb6a : Below u5.heap.size u5 (u6.alloc (.cells #[.string K, .slice p2 C.length c2] 34)) := hb6.alloc hs6 _
  have r0e := r0d.below hb6a
  have m6 := m5.below hb6a
  obtain ⟨p2', c2', ev, _, _, _, r2e⟩ := owns_celRow ho6a (celTo_cells C)
  obtain ⟨rfl, rfl⟩ : p2 = p2' ∧ c2 = c2' := by injection ev with h1 h2 h3; exact ⟨h1, h3⟩
  have k0 := b0e.cell 0
  have k1 := b0e.cell 1
  have k2 := b2e.cell 0
  have k3 := b2e.cell 1
  simp at k0 k1 k2 k3
  have hz6 : (u6.alloc (.cells #[.string K, .slice p2 C.length c2] 34)).heap.size = u6.heap.size + 1 := by simp
  clear ev ho6 ho6a b0d b1d r0d m5
  go_wp2_with fail
  refine (eqDoc_same K p2 p0 c2 c0 C _ (by omega) r2e r0e).mono ?_
  rintro e u7 ⟨rfl, hb7⟩
  generalize u6.alloc (.cells #[.string K, .slice p2 C.length c2] 34) = v6 at *
  have m7 := m6.below hb7
  have b1f := b1e.below hb7 b1e.lt
  have k4 := b1f.cell 0
  have k5 := b1f.cell 1
  simp at k4 k5
  have hw7 : Below w.heap.size w u7 := below_trans hw5 (below_trans hb6a hb7)
  clear k0 k1 k2 k3 r2e r0e m6 b0e b1e b2e
  go_wp2_with fail
  refine (heldDoc_any K p1 c1 C.length 1 _ (by omega) (by omega) (by omega) m7).mono ?_
  rintro e u8 ⟨rfl, hb8⟩
  clear m7 b1f k4 k5
  go_wp2
  go_ret
  exact ⟨rfl, below_trans hw7 hb8⟩
end Go.Proofs.YtinniomeblkmeaaDoor
