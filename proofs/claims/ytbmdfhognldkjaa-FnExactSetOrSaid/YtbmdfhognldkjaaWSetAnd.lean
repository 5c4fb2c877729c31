/- The walk of the law FnExactSetAnd. -/
import Derived.Test.YtbmdfhognldkjaaSetAnd
import Derived.Test.YtbmdfhognldkjaaSetAndS
import Derived.Test.YtbmdfhognldkjaaMarkInts
namespace Go.Proofs.Ytbmdfhognldkjaa
open Go.RowKit

theorem ownsRow_below {w w' : World} {base : Nat} {e : TypeId} {size : Nat} {v : Value} {n : Nat} {xs : List Value} (h : w.ownsRow base e size v n xs) (hb : Below w.heap.size w w') : w'.ownsRow base e size v n xs := h.kept (grown_none hb) (Classical.em _)
theorem apart_rows {X Z : World} {b1 b0 : Nat} {e e' : TypeId} {s s' : Nat} {v v' : Value} {n n' : Nat} {xs xs' : List Value} (h1 : X.ownsRow b1 e s v n xs) (h0 : Z.ownsRow b0 e' s' v' n' xs') (h : Z.heap.size ≤ b1) : v.ownBlock = none ∨ v.ownBlock ≠ v'.ownBlock := by
  cases hv : v.ownBlock with
  | none => exact .inl rfl
  | some j =>
    refine .inr fun e => ?_
    have a1 := (h1.lt j hv).1
    have a2 := (h0.lt j e.symm).2
    omega
theorem marked_below {X Y : World} {n₀ b : Nat} {e : TypeId} {s : Nat} {v : Value} {n : Nat} {xs : List Value} (h : X.ownsRow b e s v n xs) (hg : X.grownBy Y v.ownBlock) (hn : n₀ ≤ b) (hs : n₀ ≤ X.heap.size) : Below n₀ X Y :=
  (Below.refl n₀ X).grown hg hs (fun j hj => by have := (h.lt j hj).1; omega)

set_option maxHeartbeats 2000000 in
theorem wFnExactSetAnd (a0 a1 : Option Addr) (cap0 cap1 : Nat) (zs ys : List Int) (w : World) (hz : zs.length ≤ maxLen) (hy : ys.length ≤ maxLen) (hr : IntRow w a0 zs) (hs : IntRow w a1 ys) :
    Calls Try.prog 10 #[.slice a0 zs.length cap0, .slice a1 ys.length cap1] w fun e w' => e = .returned (.bool true) ∧ Below w.heap.size w w' := by
  unfold maxLen at hz hy
  by_cases hbig : 1048576 < (zs.length : Int)
  · clear hr hs
    go_enter Try.func10, Try.ntmps10
    go_wp2
    go_ret
    exact ⟨rfl, Below.refl _ _⟩
  by_cases hbig1 : 1048576 < (ys.length : Int)
  · have hb0 : decide (1048576 < (zs.length : Int)) = false := by simpa using hbig
    clear hr hs
    go_enter Try.func10, Try.ntmps10
    go_wp2
    go_ret
    exact ⟨rfl, Below.refl _ _⟩
  have hLn := andB_len zs ys true
  obtain ⟨L, hL⟩ : ∃ L, L = andB zs ys true := ⟨_, rfl⟩
  rw [← hL] at hLn
  have HL : Hid (L = andB zs ys true) := hL
  clear hL
  go_enter Try.func10, Try.ntmps10
  go_wp2_with fail
  refine (toIntS2_any a0 cap0 zs _ (by omega) hr).mono ?_
  rintro e u1 ⟨p1, c1, rfl, _, hr1, hb1⟩
  go_wp2_with fail
  refine (toIntS2_any a1 cap1 ys _ (by omega) (hs.below hb1)).mono ?_
  rintro e u2 ⟨p2, c2, rfl, _, hr2, hb2⟩
  go_wp2_with fail
  refine (setAndS_any p1 p2 c1 c2 zs ys _ (by omega) (by omega) (hr1.below hb2) hr2).mono ?_
  rintro e u3 ⟨v0, rfl, ho0, hb3⟩
  rw [← HL.out] at ho0
  obtain ⟨q0, d0, rfl, hq0⟩ := owns_intRow ho0
  have hw3 := below_trans hb1 (below_trans hb2 hb3)
  clear hb1 hb2 hb3 hr1 hr2 ho0
  go_wp2_with fail
  refine (toIntS_any a0 cap0 zs _ (by omega) (hr.below hw3)).mono ?_
  rintro e u4 ⟨vx, rfl, hox, hb4⟩
  obtain ⟨px, cx, rfl, hrx⟩ := owns_intRow hox
  have hw4 := below_trans hw3 hb4
  go_wp2_with fail
  refine (toIntS_any a1 cap1 ys _ (by omega) (hs.below hw4)).mono ?_
  rintro e u5 ⟨vy, rfl, hoy, hb5⟩
  obtain ⟨py, cy, rfl, hry⟩ := owns_intRow hoy
  have hw5 := below_trans hw4 hb5
  have z34 := hb4.size
  have z45 := hb5.size
  go_wp2_with fail
  refine (setAndI_any px py cx cy zs ys _ (by omega) (by omega) (hrx.below hb5) hry).mono ?_
  rintro e u6 ⟨vg, rfl, hog, hb6⟩
  rw [← HL.out] at hog
  obtain ⟨pg, cg, rfl, hrg⟩ := owns_intRow hog
  have hw6 := below_trans hw5 hb6
  have q06 := hq0.below (below_trans hb4 (below_trans hb5 hb6))
  go_wp2_with fail
  refine (eqIntS_same pg q0 cg d0 L _ (by omega) hrg q06).mono ?_
  rintro e u7 ⟨rfl, hb7⟩
  have hw7 := below_trans hw6 hb7
  go_wp2_with fail
  refine (toIntS2_any a0 cap0 zs _ (by omega) (hr.below hw7)).mono ?_
  rintro e u8 ⟨p8, c8, rfl, _, hr8, hb8⟩
  have hx8 := hrx.below (below_trans hb5 (below_trans hb6 (below_trans hb7 hb8)))
  go_wp2_with fail
  refine (eqIntS_same px p8 cx c8 zs _ (by omega) hx8 hr8).mono ?_
  rintro e u9 ⟨rfl, hb9⟩
  have hw9 := below_trans hw7 (below_trans hb8 hb9)
  clear hr8 hx8
  go_wp2_with fail
  refine (toIntS2_any a1 cap1 ys _ (by omega) (hs.below hw9)).mono ?_
  rintro e u10 ⟨p10, c10, rfl, _, hr10, hb10⟩
  have hb610 := below_trans hb7 (below_trans hb8 (below_trans hb9 hb10))
  have hy10 := hry.below (below_trans hb6 hb610)
  go_wp2_with fail
  refine (eqIntS_same py p10 cy c10 ys _ (by omega) hy10 hr10).mono ?_
  rintro e u11 ⟨rfl, hb11⟩
  have hw11 := below_trans hw9 (below_trans hb10 hb11)
  have hb611 := below_trans hb610 hb11
  have hb511 := below_trans hb6 hb611
  have hb411 := below_trans hb5 hb511
  have ox11 := ownsRow_below hox hb411
  have oy11 := ownsRow_below hoy hb511
  have og11 := ownsRow_below hog hb611
  have q011 := (q06.below hb611)
  have ql : RowLow u3.heap.size u11 q0 L := fun hp => by
    obtain ⟨g, off, e, hg, _⟩ := hq0 hp
    obtain ⟨g', off', e', hg', hc'⟩ := q011 hp
    refine ⟨g', off', e', ?_, hg', hc'⟩
    rw [e] at e'
    simp only [Option.some.injEq, Addr.mk.injEq] at e'
    omega
  have z511 := hb511.size
  have z611 := hb611.size
  have z56 := hb6.size
  clear hr10 hy10 hb610 hb7 hb8 hb9 hb10 hb11 q06 hrx hry hrg hq0 q011
  go_wp2_with fail
  refine (markIntS_any u3.heap.size _ zs.length 1 _ _ (by simp) (by omega) (by omega) ox11).mono ?_
  rintro e u12 ⟨rfl, ox12, hg12⟩
  have hl12 := marked_below (n₀ := u3.heap.size) ox11 hg12 (Nat.le_refl _) (by omega)
  have oy12 := oy11.kept hg12 (apart_rows oy11 hox (Nat.le_refl _))
  have og12 := og11.kept hg12 (apart_rows og11 hox (by omega))
  have ql12 := ql.keep hl12
  have zw3 := hw3.size
  have hw12 : Below w.heap.size w u12 := hw11.trans (hl12.mono zw3)
  have z12 := hl12.size
  clear ox12 hg12 hl12 ql og11 ox11
  go_wp2_with fail
  refine (markIntS_any u4.heap.size _ ys.length (1 + zs.length) _ _ (by simp) (by omega) (by omega) oy12).mono ?_
  rintro e u13 ⟨rfl, oy13, hg13⟩
  have hl13 := marked_below (n₀ := u3.heap.size) oy12 hg13 (by omega) (by omega)
  have og13 := og12.kept hg13 (apart_rows og12 hoy (by omega))
  have ql13 := ql12.keep hl13
  have hw13 : Below w.heap.size w u13 := hw12.trans (hl13.mono zw3)
  have z13 := hl13.size
  clear oy13 hg13 hl13 ql12 og12 oy12 oy11 hox hoy
  obtain ⟨pg', cg', ev, hrg13⟩ := owns_intRow og13
  simp only [Value.slice.injEq] at ev
  obtain ⟨rfl, hq, rfl⟩ := ev
  clear hq
  go_wp2_with fail
  refine (eqIntS_same pg q0 cg d0 L _ (by omega) hrg13 ql13.row).mono ?_
  rintro e u14 ⟨rfl, hb14⟩
  have og14 := ownsRow_below og13 hb14
  have z14 := hb14.size
  have ql14 := ql13.keep (hb14.mono (by omega))
  have hw14 := below_trans hw13 hb14
  clear og13 ql13 hrg13 hb14
  go_wp2_with fail
  refine (markIntS_any u5.heap.size _ L.length 1 _ _ (by simp) (by omega) (by omega) og14).mono ?_
  rintro e u15 ⟨rfl, om15, hg15⟩
  have hl15 := marked_below (n₀ := u3.heap.size) og14 hg15 (by omega) (by omega)
  have ql15 := ql14.keep hl15
  have hw15 : Below w.heap.size w u15 := hw14.trans (hl15.mono zw3)
  have om' : u15.ownsRow u5.heap.size 3 1 (.slice pg L.length cg) (marksI 1 L.length).length ((marksI 1 L.length).map (Value.int .i64)) := by rw [marksI_len]; exact om15
  obtain ⟨pm, cm, ev, hm15⟩ := owns_intRow om'
  simp only [Value.slice.injEq] at ev
  obtain ⟨rfl, hq, rfl⟩ := ev
  clear hq
  clear om' om15 og14 hg15 ql14 hl15
  go_wp2_with fail
  refine (heldIntS_any pg cg L.length 1 _ (by omega) (by omega) hm15).mono ?_
  rintro e u16 ⟨rfl, hb16⟩
  have hw16 := below_trans hw15 hb16
  go_wp2_with fail
  refine (toIntS2_any a0 cap0 zs _ (by omega) (hr.below hw16)).mono ?_
  rintro e u17 ⟨p17, c17, rfl, _, hr17, hb17⟩
  have hw17 := below_trans hw16 hb17
  go_wp2_with fail
  refine (toIntS2_any a1 cap1 ys _ (by omega) (hs.below hw17)).mono ?_
  rintro e u18 ⟨p18, c18, rfl, _, hr18, hb18⟩
  have hw18 := below_trans hw17 hb18
  go_wp2_with fail
  refine (setAndI_any p17 p18 c17 c18 zs ys _ (by omega) (by omega) (hr17.below hb18) hr18).mono ?_
  rintro e u19 ⟨vh, rfl, hoh, hb19⟩
  rw [← HL.out] at hoh
  obtain ⟨ph, ch, rfl, hrh⟩ := owns_intRow hoh
  have hb1519 := below_trans hb16 (below_trans hb17 (below_trans hb18 hb19))
  have ql19 := ql15.row.below hb1519
  have hw19 := below_trans hw18 hb19
  clear hr17 hr18 hoh
  go_wp2_with fail
  refine (eqIntS_same ph q0 ch d0 L _ (by omega) hrh ql19).mono ?_
  rintro e u20 ⟨rfl, hb20⟩
  have hm20 := hm15.below (below_trans hb1519 hb20)
  have hw20 := below_trans hw19 hb20
  clear hrh ql19 hm15 ql15
  go_wp2_with fail
  refine (heldIntS_any pg cg L.length 1 _ (by omega) (by omega) hm20).mono ?_
  rintro e u21 ⟨rfl, hb21⟩
  have hw21 := below_trans hw20 hb21
  clear hm20 hr hs
  go_wp2
  go_ret
  exact ⟨rfl, hw21⟩
end Go.Proofs.Ytbmdfhognldkjaa
