/- The walk of the law FnExactFieldsGet. -/
import Derived.Test.YtinniomeblkmeaaDoorFldsGetS
namespace Go.Proofs.YtinniomeblkmeaaDoor
open Go.RowKit
set_option linter.unusedVariables false

theorem getFL_len (s : ByteArray) : (getFL s).length ≤ 4 := by
  unfold getFL
  cases h : getFB s with
  | false => exact Nat.zero_le _
  | true =>
    have h2 := h
    unfold getFB at h2
    simp only [fieldsB, Bool.and_eq_true, decide_eq_true_eq] at h2
    exact h2.1.2
theorem owns_row {w : World} {b : Nat} {a : Option Addr} {c : Nat} {C : List Fld} (h : w.ownsRow b 53 3 (.slice a C.length c) C.length (fldCells C)) : FldRow w a C := by
  obtain ⟨a', c', ev, _, _, hr⟩ := owns_fldRow h (fldTo_cells C)
  obtain ⟨rfl, rfl⟩ : a = a' ∧ c = c' := by injection ev with h1 h2 h3; exact ⟨h1, h3⟩
  exact hr

set_option maxRecDepth 100000 in
set_option maxHeartbeats 1000000 in
theorem wFnExactFieldsGet (s : ByteArray) (w : World) (hm : MaxL w) (hs : s.size ≤ maxLen) :
    Calls Tryd.prog 9 #[.string s] w fun e w' => e = .returned (.bool true) ∧ Below w.heap.size w w' := by
  unfold maxLen at hs
  by_cases hbig : 1048576 < (s.size : Int)
  · clear hm
    go_enter Tryd.func9, Tryd.ntmps9
    go_wp2
    go_ret
    exact ⟨rfl, Below.refl _ _⟩
  have HM : Hid (MaxL w) := hm
  clear hm
  go_enter Tryd.func9, Tryd.ntmps9
  go_wp2_with fail
  refine (getFS_any s _ (by omega)).mono ?_
  rintro e u1 ⟨p0, c0, rfl, hr0, hb1⟩
  have HG : Hid (∀ w, MaxL w → Calls Tryd.prog 14 #[.string s] w fun e w' => GetF w w' s e) := fun w hm => getFI_any s w (by omega) hm
  have hL := getFL_len s
  unfold GetF at HG
  generalize getFL s = C at *
  generalize getFB s = B at *
  have R0 : Hid (FldRow u1 p0 C) := hr0
  have hs1 := hb1.size
  clear hr0
  go_wp2_with fail
  refine (HG.out u1 (HM.out.below hb1)).mono ?_
  rintro e u2 ⟨p1, c1, rfl, ho2, hb2⟩
  have r1 := owns_row ho2
  have r0a := R0.out.below hb2
  have hs2 := hb2.size
  go_wp2_with fail
  refine (eqFieldS_same p1 p0 c1 c0 C _ (by omega) r1 r0a).mono ?_
  rintro e u3 ⟨rfl, hb3⟩
  have ho3 := ho2.kept (grown_none hb3) (Classical.em _)
  have hs3 := hb3.size
  clear r1 r0a ho2
  go_wp2_with fail
  refine (markFieldS_any u1.heap.size (.slice p1 C.length c1) C.length 1 (fldCells C) _ (by have := ho3.1; omega) (by omega) (by omega) (by omega) ho3).mono ?_
  rintro e u4 ⟨rfl, ho4, hg4⟩
  have hrl : ∀ j, (Value.slice p1 C.length c1).ownBlock = some j → u1.heap.size ≤ j := fun j hj => (ho3.lt j hj).1
  have hb13 : Below u1.heap.size u1 u3 := below_trans hb2 hb3
  have hb14 : Below u1.heap.size u1 u4 := hb13.grown hg4 (by have := hb13.size; omega) hrl
  have r0c : FldRow u4 p0 C := R0.out.below hb14
  have m4 := owns_markF ho4
  clear ho3 ho4 hrl
  go_wp2_with fail
  refine (heldFieldS_any p1 c1 C.length 1 _ (by omega) (by omega) (by omega) m4).mono ?_
  rintro e u5 ⟨rfl, hb5⟩
  have r0d := r0c.below hb5
  have m5 := m4.below hb5
  have hw5 : Below w.heap.size w u5 := below_trans hb1 (below_trans hb14 hb5)
  clear r0c m4
  go_wp2_with fail
  refine (HG.out _ (HM.out.below hw5)).mono ?_
  rintro e u6 ⟨p2, c2, rfl, ho6, hb6⟩
  have r2 := owns_row ho6
  have r0e := r0d.below hb6
  have m6 := m5.below hb6
  clear ho6 r0d m5
  go_wp2_with fail
  refine (eqFieldS_same p2 p0 c2 c0 C _ (by omega) r2 r0e).mono ?_
  rintro e u7 ⟨rfl, hb7⟩
  have m7 := m6.below hb7
  have hw7 : Below w.heap.size w u7 := below_trans hw5 (below_trans hb6 hb7)
  clear r2 r0e m6
  go_wp2_with fail
  refine (heldFieldS_any p1 c1 C.length 1 _ (by omega) (by omega) (by omega) m7).mono ?_
  rintro e u8 ⟨rfl, hb8⟩
  clear m7
  go_wp2
  go_ret
  exact ⟨rfl, below_trans hw7 hb8⟩
end Go.Proofs.YtinniomeblkmeaaDoor
