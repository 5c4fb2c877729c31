/- The walk of the law FnExactPage. -/
import Derived.Test.YtfnigdecmecoaaaPageS
import Derived.Test.YtfnigdecmecoaaaHitsMark
namespace Go.Proofs.Ytfnigdecmecoaaa
open Go.RowKit
set_option linter.unusedVariables false

theorem toHitS2_any (a : Option Addr) (cap : Nat) (fs : List Ht) (w : World) (hz : fs.length ≤ 1048576) (hr : HtRow w a fs) :
    Calls Try.prog 11 #[.slice a fs.length cap] w fun e w' => ∃ p c xs, e = .returned (.slice p fs.length c) ∧ fs.length ≤ c ∧ LiesAt w' p c fs.length ∧ w'.ownsRow w.heap.size 51 3 (.slice p fs.length c) fs.length xs ∧ HtRow w' p fs ∧ Below w.heap.size w w' := by
  refine (toHitS_any a cap fs w hz hr).mono ?_
  rintro e w' ⟨v, xs, rfl, ho, ht, hb⟩
  obtain ⟨p, c, rfl, hc, hn, hrow⟩ := owns_htRow ho ht
  refine ⟨p, c, xs, rfl, hc, ?_, ho, hrow, hb⟩
  rcases ho.2 with ⟨h, h0⟩ | ⟨g, c', cur, h, _, hg, _⟩
  · injection h with h1 h2 h3
    exact .inl ⟨h1, h3, h0⟩
  · injection h with h1 h2 h3
    exact .inr ⟨g, 0, h1, lt_of_block hg, hc⟩
theorem HtsSmall_of {fs : List Ht} {skip many : Int} (h : HtsSmall fs) : HtsSmall (pageL fs skip many) := by
  unfold pageL
  split
  · intro i hi
    rw [List.length_take, List.length_drop] at hi
    rw [hat_take _ _ _ (by omega), hat_drop]
    exact h _ (by omega)
  · intro i hi
    simp at hi
theorem pageL_len (fs : List Ht) (skip many : Int) : (pageL fs skip many).length ≤ fs.length := by
  unfold pageL
  split
  · rw [List.length_take, List.length_drop]; omega
  · simp

set_option maxRecDepth 100000 in
set_option maxHeartbeats 4000000 in
theorem wFnExactPage (a0 : Option Addr) (cap0 : Nat) (fs : List Ht) (skip many : Int) (w : World) (hz : fs.length ≤ maxLen) (hsm : ∀ i, i < fs.length → (hat fs i).name.size ≤ maxLen) (hr : HtRow w a0 fs) :
    Calls Try.prog 5 #[.slice a0 fs.length cap0, .int .i64 skip, .int .i64 many] w fun e w' => e = .returned (.bool true) ∧ Below w.heap.size w w' := by
  go_enter Try.func5, Try.ntmps5
  go_wp2_with fail
  refine (szHitS_any a0 cap0 fs _ hz hsm hr).mono ?_
  rintro e u1 ⟨r, rfl, hrr, hb1⟩
  by_cases hneg : r < 0
  · clear hr hsm
    go_wp2
    go_ret
    exact ⟨rfl, hb1⟩
  have hnd : decide (r < 0) = false := by simpa using hneg
  obtain ⟨hz1, hsm1⟩ := hrr (by omega)
  have HR : Hid (∀ wx, Below w.heap.size w wx → HtRow wx a0 fs) := fun wx h => hr.below h
  clear hr hsm hrr
  have HSM : Hid (HtsSmall fs) := hsm1
  clear hsm1
  have hLl := pageL_len fs skip many
  obtain ⟨L, hL⟩ : ∃ L, pageL fs skip many = L := ⟨_, rfl⟩
  have HL : Hid (pageL fs skip many = L) := hL
  rw [hL] at hLl
  clear hL
  go_wp2_with fail
  refine (toHitS2_any a0 cap0 fs _ hz1 (HR.out _ hb1)).mono ?_
  rintro e u2 ⟨p2, c2, _, rfl, hc2, ha2, _, hr2, hb2⟩
  go_wp2_with fail
  refine (pageS_any p2 c2 fs skip many _ hz1 ha2 hr2).mono ?_
  rintro e u3 ⟨q0, d0, rfl, hq3, hb3⟩
  rw [HL.out] at hq3 ⊢
  have hw3 := below_trans hb1 (below_trans hb2 hb3)
  clear hr2 ha2 hb1 hb2 hb3
  go_wp2_with fail
  refine (toHitS2_any a0 cap0 fs _ hz1 (HR.out _ hw3)).mono ?_
  rintro e u4 ⟨px, cx, xs, rfl, hcx, hax, hox, hrx, hb4⟩
  go_wp2_with fail
  refine (pageI_any px cx fs skip many _ hz1 hcx HSM.out hrx).mono ?_
  rintro e u5 ⟨vg, rfl, hog, hb5⟩
  rw [HL.out] at hog
  obtain ⟨pg, cg, rfl, hcg, hng, hrg⟩ := owns_htRow hog (htTo_cells L)
  have hb35 := below_trans hb4 hb5
  have hw5 := below_trans hw3 hb35
  have q5 := hq3.below hb35
  go_wp2_with fail
  refine (eqHitS_same pg q0 cg d0 L _ (by omega) hrg q5).mono ?_
  rintro e u6 ⟨rfl, hb6⟩
  have hw6 := below_trans hw5 hb6
  clear q5 hrg
  go_wp2_with fail
  refine (toHitS2_any a0 cap0 fs _ hz1 (HR.out _ hw6)).mono ?_
  rintro e u7 ⟨p7, c7, _, rfl, _, _, _, hr7, hb7⟩
  have x7 := hrx.below (below_trans hb5 (below_trans hb6 hb7))
  go_wp2_with fail
  refine (eqHitS_same px p7 cx c7 fs _ (by omega) x7 hr7).mono ?_
  rintro e u8 ⟨rfl, hb8⟩
  have hb58 := below_trans hb6 (below_trans hb7 hb8)
  have hb48 := below_trans hb5 hb58
  have hb38 := below_trans hb4 hb48
  have hw8 := below_trans hw3 hb38
  have ox8 := hox.kept (grown_none hb48) (Classical.em _)
  have og8 := hog.kept (grown_none hb58) (Classical.em _)
  clear x7 hr7 hb6 hb7 hb8
  have z45 := hb5.size
  have z34 := hb4.size
  go_wp2_with fail
  refine (markHitS_any u3.heap.size _ fs.length 1 xs _ (by have := ox8.1; omega) (by omega) (by omega) (by omega) ox8).mono ?_
  rintro e u9 ⟨rfl, _, hg9⟩
  have hb39 : Below u3.heap.size u3 u9 := hb38.grown hg9 hb38.size (fun j hj => (hox.lt j hj).1)
  have og9 := og8.kept hg9 (by
    cases hv : (Value.slice pg L.length cg).ownBlock with
    | none => exact .inl rfl
    | some j => exact .inr (fun e => by have h1 := (hog.lt j hv).1; have h2 := (hox.lt j e.symm).2; omega))
  have q9 := hq3.below hb39
  obtain ⟨pg', cg', ev, _, _, hrg9⟩ := owns_htRow og9 (htTo_cells L)
  injection ev with ev1 ev2 ev3
  subst ev1
  subst ev3
  clear hg9 og8 ox8 ev2 hb38 hb48 hb58
  go_wp2_with fail
  refine (eqHitS_same pg q0 cg d0 L _ (by omega) hrg9 q9).mono ?_
  rintro e u10 ⟨rfl, hb10⟩
  have og10 := og9.kept (grown_none hb10) (Classical.em _)
  have hb310 := below_trans hb39 hb10
  clear og9 q9 hrg9 hb10 hb39
  go_wp2_with fail
  refine (markHitS_any u4.heap.size _ L.length 1 _ _ (htCells_len L) (by omega) (by omega) (by omega) og10).mono ?_
  rintro e u11 ⟨rfl, om11, hg11⟩
  have hb311 : Below u3.heap.size u3 u11 := hb310.grown hg11 hb310.size (fun j hj => by have := (hog.lt j hj).1; omega)
  have hm11 := owns_markRow om11
  have hw11 := below_trans hw3 hb311
  have q11 := hq3.below hb311
  clear om11 hg11 og10 hog hox hb310 hq3 hrx hb4 hb5 hb35
  go_wp2_with fail
  refine (heldHitS_any pg cg L.length 1 _ (by omega) (by omega) (by omega) hm11).mono ?_
  rintro e u12 ⟨rfl, hb12⟩
  have hw12 := below_trans hw11 hb12
  go_wp2_with fail
  refine (toHitS2_any a0 cap0 fs _ hz1 (HR.out _ hw12)).mono ?_
  rintro e u13 ⟨p13, c13, _, rfl, hc13, _, _, hr13, hb13⟩
  go_wp2_with fail
  refine (pageI_any p13 c13 fs skip many _ hz1 hc13 HSM.out hr13).mono ?_
  rintro e u14 ⟨vh, rfl, hoh, hb14⟩
  rw [HL.out] at hoh
  obtain ⟨ph, ch, rfl, _, _, hrh⟩ := owns_htRow hoh (htTo_cells L)
  have hb1114 := below_trans hb12 (below_trans hb13 hb14)
  have q14 := q11.below hb1114
  clear hoh hr13
  go_wp2_with fail
  refine (eqHitS_same ph q0 ch d0 L _ (by omega) hrh q14).mono ?_
  rintro e u15 ⟨rfl, hb15⟩
  have hb1115 := below_trans hb1114 hb15
  have m15 := hm11.below hb1115
  clear q14 hrh hm11 q11
  go_wp2_with fail
  refine (heldHitS_any pg cg L.length 1 _ (by omega) (by omega) (by omega) m15).mono ?_
  rintro e u16 ⟨rfl, hb16⟩
  go_wp2
  go_ret
  exact ⟨rfl, below_trans hw11 (below_trans hb1115 hb16)⟩
end Go.Proofs.Ytfnigdecmecoaaa
