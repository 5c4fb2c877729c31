/- The walk of the law FnExactWords. -/
import Derived.Test.YtbkehpoigaeboaaWordsMark
import Derived.Test.YtbkehpoigaeboaaFoldMore
namespace Go.Proofs.Ytbkehpoigaeboaa
open Go.RowKit

theorem wordsS2_any (s : ByteArray) (w : World) (hs : s.size ≤ 1048576) :
    Calls Try.prog 20 #[.string s] w fun e w' => ∃ a cap, e = .returned (.slice a (wordsOn s 0).length cap) ∧ WordRow w' a s (wordsOn s 0) ∧ Below w.heap.size w w' := by
  refine (wordsS_any s w hs).mono ?_
  rintro e w' ⟨g, cap, rfl, h1, h3⟩
  obtain ⟨a, c, hv, hr⟩ := owns_wordRow h1
  exact ⟨a, c, by rw [hv], hr, h3⟩
theorem wordsI2_any (s : ByteArray) (w : World) (hs : s.size ≤ 1048576) :
    Calls Try.prog 19 #[.string s] w fun e w' => ∃ a cap, e = .returned (.slice a (wordsOn s 0).length cap) ∧ w'.ownsRow w.heap.size 29 3 (.slice a (wordsOn s 0).length cap) (wordsOn s 0).length (wordCells s (wordsOn s 0)) ∧ WordRow w' a s (wordsOn s 0) ∧ Below w.heap.size w w' := by
  refine (wordsI_any s w hs).mono ?_
  rintro e w' ⟨v, rfl, h1, _, h3⟩
  obtain ⟨a, c, rfl, hr⟩ := owns_wordRow h1
  exact ⟨a, c, rfl, h1, hr, h3⟩

set_option maxHeartbeats 1000000 in
theorem wFnExactWords (a0 : ByteArray) (w : World) :
    Calls Try.prog 10 #[.string a0] w fun e w' => e = .returned (.bool true) ∧ Below w.heap.size w w' := by
  by_cases hbig : 1048576 < (a0.size : Int)
  · go_enter Try.func10, Try.ntmps10
    go_wp2
    go_ret
    exact ⟨rfl, Below.refl _ _⟩
  have hN := wordsOn_len a0 a0.size 0 (by omega)
  go_enter Try.func10, Try.ntmps10
  go_wp2_with fail
  refine (wordsS2_any a0 _ (by omega)).mono ?_
  rintro e u1 ⟨p0, c0, rfl, hr0, hb1⟩
  go_wp2_with fail
  refine (wordsI2_any a0 _ (by omega)).mono ?_
  rintro e u2 ⟨p1, c1, rfl, ho1, hr1, hb2⟩
  have r0 := hr0.below hb2
  go_wp2_with fail
  refine (eqWordS_same p1 p0 c1 c0 a0 (wordsOn a0 0) _ (by omega) hr1 r0).mono ?_
  rintro e u3 ⟨rfl, hb3⟩
  have ho3 := ho1.kept (grown_of_below (r := none) hb3) (by cases p1 <;> simp [Value.ownBlock])
  have hb13 : Below u1.heap.size u1 u3 := below_trans hb2 hb3
  clear hr1 r0 ho1
  go_wp2_with fail
  refine (markWordS_any u1.heap.size _ (wordsOn a0 0).length 1 _ _ (wordCells_len _ _) (by omega) (by omega) (by omega) ho3).mono ?_
  rintro e u4 ⟨rfl, ho4, hg4⟩
  have hb14 : Below u1.heap.size u1 u4 := hb13.grown hg4 hb13.size (fun j hj => (ho3.lt j hj).1)
  have hr4 := owns_markRow ho4
  have r04 := hr0.below hb14
  clear ho4 hg4 ho3 hr0
  go_wp2_with fail
  refine (heldWordS_any p1 c1 (wordsOn a0 0).length 1 _ (by omega) (by omega) (by omega) hr4).mono ?_
  rintro e u5 ⟨rfl, hb5⟩
  go_wp2_with fail
  refine (wordsI2_any a0 _ (by omega)).mono ?_
  rintro e u6 ⟨p2, c2, rfl, ho6, hr6, hb6⟩
  have r06 := r04.below (below_trans hb5 hb6)
  clear ho6
  go_wp2_with fail
  refine (eqWordS_same p2 p0 c2 c0 a0 (wordsOn a0 0) _ (by omega) hr6 r06).mono ?_
  rintro e u7 ⟨rfl, hb7⟩
  have r47 := hr4.below (below_trans hb5 (below_trans hb6 hb7))
  clear hr6 r06 hr4 r04
  go_wp2_with fail
  refine (heldWordS_any p1 c1 (wordsOn a0 0).length 1 _ (by omega) (by omega) (by omega) r47).mono ?_
  rintro e u8 ⟨rfl, hb8⟩
  go_wp2
  go_ret
  exact ⟨rfl, below_trans (hb1.trans (hb14.mono hb1.size)) (below_trans hb5 (below_trans hb6 (below_trans hb7 hb8)))⟩
end Go.Proofs.Ytbkehpoigaeboaa
