/- The walks of the laws FnSetNone, FnSetHas and FnSetLess. -/
import Derived.Test.YtbmdfhognldkjaaSetRows
namespace Go.Proofs.Ytbmdfhognldkjaa
open Go.RowKit

theorem intRow_one (w : World) (n : Int) (e : TypeId) : RowC (w.alloc (.cells #[.int .i64 n] e)) (some ⟨w.heap.size, 0, none⟩) 1 [n] := by
  refine ⟨Nat.le_refl _, fun h => (by cases h), fun _ => ⟨w.heap.size, 0, rfl, by simp, fun i hi => ?_⟩⟩
  obtain rfl : i = 0 := by simp at hi; exact hi
  rw [World.cell?_alloc_new]
  rfl

set_option maxHeartbeats 2000000 in
theorem wFnSetNone (a0 : Option Addr) (len0 cap0 : Nat) (w : World) (b0 : BytesIn w a0 len0 cap0) :
    Calls Try.prog 8 #[.slice a0 len0 cap0] w fun e w' => e = .returned (.bool true) ∧ Below w.heap.size w w' := by
  have m0 := b0.le
  have m1 := b0.max
  unfold maxLen at m1
  by_cases hbig : 1048576 < (len0 : Int)
  · clear b0
    go_enter Try.func8, Try.ntmps8
    go_wp2
    go_ret
    exact ⟨rfl, Below.refl _ _⟩
  go_enter Try.func8, Try.ntmps8
  go_wp2_with fail
  refine (drawSetOk_any a0 len0 cap0 _ b0).mono ?_
  rintro e u1 ⟨p, c, zs, rfl, hz, hr, hb1⟩
  clear b0
  go_wp2_with fail
  refine (setI_any p c zs _ (by omega) hr.2.2).mono ?_
  rintro e u2 ⟨rfl, rfl⟩
  go_wp2_with fail
  refine (setS_any p c zs _ (by omega) hr.2.2).mono ?_
  rintro e u3 ⟨rfl, hb3⟩
  have r3 := hr.below hb3
  have hw3 := below_trans hb1 hb3
  clear hr hb1 hb3
  cases hs : setB zs with
  | false =>
    go_wp2_with fail
    refine (setS_any p c zs _ (by omega) r3.2.2).mono ?_
    rintro e u4 ⟨rfl, hb4⟩
    rw [hs]
    clear r3
    go_wp2
    go_ret
    exact ⟨rfl, below_trans hw3 hb4⟩
  | true =>
    go_wp2_with fail
    refine (orI_row p none c 0 zs [] zs _ (by omega) (by simp) r3 (rowC_nil _) (or_nil zs hs)).mono ?_
    rintro e u4 ⟨q4, d4, rfl, hq4, hb4⟩
    have r4 := r3.below hb4
    have hw4 := below_trans hw3 hb4
    clear r3 hb4
    go_wp2_with fail
    refine (sdInts_same q4 p d4 c zs _ (by omega) hq4.2.2 r4.2.2).mono ?_
    rintro e u5 ⟨rfl, hb5⟩
    have r5 := r4.below hb5
    have hw5 := below_trans hw4 hb5
    clear r4 hb5 hq4
    go_wp2_with fail
    refine (orI_row none p 0 c [] zs zs _ (by simp) (by omega) (rowC_nil _) r5 (nil_or zs hs)).mono ?_
    rintro e u6 ⟨q6, d6, rfl, hq6, hb6⟩
    have r6 := r5.below hb6
    have hw6 := below_trans hw5 hb6
    clear r5 hb6
    go_wp2_with fail
    refine (sdInts_same q6 p d6 c zs _ (by omega) hq6.2.2 r6.2.2).mono ?_
    rintro e u7 ⟨rfl, hb7⟩
    have r7 := r6.below hb7
    have hw7 := below_trans hw6 hb7
    clear r6 hb7 hq6
    go_wp2_with fail
    refine (andI_row p none c 0 zs [] [] _ (by omega) (by simp) r7 (rowC_nil _) (and_nil zs hs)).mono ?_
    rintro e u8 ⟨q8, d8, rfl, _, hb8⟩
    have r8 := r7.below hb8
    have hw8 := below_trans hw7 hb8
    clear r7 hb8
    go_wp2_with fail
    refine (lessI_row none p 0 c [] zs [] _ (by simp) (by omega) (rowC_nil _) r8 (nil_less zs hs)).mono ?_
    rintro e u9 ⟨q9, d9, rfl, _, hb9⟩
    have hw9 := below_trans hw8 hb9
    clear r8 hb9
    go_wp2_with fail
    refine (setI_any none 0 [] _ (by simp) (rowC_nil _).2.2).mono ?_
    rintro e u10 ⟨rfl, rfl⟩
    rw [set_nil]
    go_wp2
    go_ret
    exact ⟨rfl, hw9⟩

set_option maxHeartbeats 2000000 in
theorem wFnSetHas (a0 : Option Addr) (len0 cap0 : Nat) (w : World) (b0 : BytesIn w a0 len0 cap0) :
    Calls Try.prog 6 #[.slice a0 len0 cap0] w fun e w' => e = .returned (.bool true) ∧ Below w.heap.size w w' := by
  have m0 := b0.le
  have m1 := b0.max
  unfold maxLen at m1
  by_cases hbig : 1048576 < (len0 : Int)
  · clear b0
    go_enter Try.func6, Try.ntmps6
    go_wp2
    go_ret
    exact ⟨rfl, Below.refl _ _⟩
  go_enter Try.func6, Try.ntmps6
  go_wp2_with fail
  refine (drawSetHas_any a0 len0 cap0 _ b0).mono ?_
  rintro e u1 ⟨p, c, zs, n, rfl, hz, hn0, hn1, hr, hb1⟩
  clear b0
  go_wp2_with fail
  refine (setHasI_any p c zs n _ (by omega) hr.2.2).mono ?_
  rintro e u2 ⟨rfl, rfl⟩
  go_wp2_with fail
  refine (setHasS_any p c zs n _ (by omega) hr.2.2).mono ?_
  rintro e u3 ⟨rfl, hb3⟩
  have r3 := hr.below hb3
  have hw3 := below_trans hb1 hb3
  clear hr hb1 hb3
  cases hs : setB zs with
  | false =>
    rw [Bool.false_and]
    go_wp2_with fail
    refine (setS_any p c zs _ (by omega) r3.2.2).mono ?_
    rintro e u4 ⟨rfl, hb4⟩
    rw [hs]
    have r4 := r3.below hb4
    have hw4 := below_trans hw3 hb4
    clear r3 hb4
    go_wp2_with fail
    refine (setHasS_any p c zs n _ (by omega) r4.2.2).mono ?_
    rintro e u5 ⟨rfl, hb5⟩
    rw [hs, Bool.false_and]
    clear r4
    go_wp2
    go_ret
    exact ⟨rfl, below_trans hw4 hb5⟩
  | true =>
    rw [Bool.true_and]
    cases hh : hasB zs n
    all_goals
      go_wp2_with fail
      refine (setS_any p c zs _ (by omega) r3.2.2).mono ?_
      rintro e u4 ⟨rfl, hb4⟩
      rw [hs]
      have r4 := r3.below hb4
      have hw4 := below_trans hw3 hb4
      clear r3 hb4
      by_cases hneg : n < 0
      · go_wp2_with fail
        refine (setHasS_any p c zs n _ (by omega) r4.2.2).mono ?_
        rintro e u5 ⟨rfl, hb5⟩
        rw [hs, hh, Bool.true_and]
        clear r4
        go_wp2
        go_ret
        exact ⟨rfl, below_trans hw4 hb5⟩
      · have hneg' : decide (n < 0) = false := by simpa using hneg
        go_wp2_with fail
        refine (sdIn_any p c zs n _ (by omega) r4.2.2).mono ?_
        rintro e u5 ⟨rfl, rfl⟩
        rw [hh]
        have r5 := r4.below ((Below.refl _ u5).alloc (Nat.le_refl _) (.cells #[.int .i64 n] 3))
        obtain ⟨L, hL⟩ : ∃ L, andB zs [n] true = L := ⟨_, rfl⟩
        have hone := and_one zs hs n (by omega) (by omega)
        rw [hL, hh] at hone
        have HL : Hid (andB zs [n] true = L) := hL
        clear hL r4
        go_wp2_with fail
        refine (andI_row p (some ⟨u5.heap.size, 0, none⟩) c 1 zs [n] L _ (by omega) (by simp) r5 (intRow_one _ _ _) HL.out).mono ?_
        rintro e u6 ⟨q6, d6, rfl, _, hb6⟩
        clear r5
        have hw6 : Below w.heap.size w u6 := below_trans (hw4.alloc hw4.size _) hb6
        clear hb6
        go_wp2
        go_ret
        exact ⟨rfl, hw6⟩

set_option maxHeartbeats 2000000 in
theorem wFnSetLess (a0 : Option Addr) (len0 cap0 : Nat) (w : World) (b0 : BytesIn w a0 len0 cap0) :
    Calls Try.prog 5 #[.slice a0 len0 cap0] w fun e w' => e = .returned (.bool true) ∧ Below w.heap.size w w' := by
  have m0 := b0.le
  have m1 := b0.max
  unfold maxLen at m1
  by_cases hbig : 1048576 < (len0 : Int)
  · clear b0
    go_enter Try.func5, Try.ntmps5
    go_wp2
    go_ret
    exact ⟨rfl, Below.refl _ _⟩
  go_enter Try.func5, Try.ntmps5
  go_wp2_with fail
  refine (drawSetLess_any a0 len0 cap0 _ b0).mono ?_
  rintro e u1 ⟨p, c, zs, q, d, ys, rfl, hz, hy, hr, hs, hb1⟩
  clear b0
  have hLl := andB_len zs ys false
  obtain ⟨L, hL⟩ : ∃ L, andB zs ys false = L := ⟨_, rfl⟩
  rw [hL] at hLl
  have HL : Hid (andB zs ys false = L) := hL
  clear hL
  go_wp2_with fail
  refine (lessI_row p q c d zs ys L _ (by omega) (by omega) hr hs HL.out).mono ?_
  rintro e u2 ⟨x, dx, rfl, hx, hb2⟩
  have r2 := hr.below hb2
  have s2 := hs.below hb2
  have hw2 := below_trans hb1 hb2
  clear hr hs hb1 hb2
  go_wp2_with fail
  refine (lessS_row p q c d zs ys L _ (by omega) (by omega) r2 s2 HL.out).mono ?_
  rintro e u3 ⟨x3, d3, rfl, hx3, hb3⟩
  have x3' := hx.below hb3
  have r3 := r2.below hb3
  have s3 := s2.below hb3
  have hw3 := below_trans hw2 hb3
  clear hx r2 s2 hb3 hw2
  go_wp2_with fail
  refine (sdInts_same x x3 dx d3 L _ (by omega) x3'.2.2 hx3.2.2).mono ?_
  rintro e u4 ⟨rfl, hb4⟩
  have x4 := x3'.below hb4
  have r4 := r3.below hb4
  have s4 := s3.below hb4
  have hw4 := below_trans hw3 hb4
  clear x3' hx3 r3 s3 hb4 hw3
  go_wp2_with fail
  refine (setS_any p c zs _ (by omega) r4.2.2).mono ?_
  rintro e u5 ⟨rfl, hb5⟩
  have x5 := x4.below hb5
  have r5 := r4.below hb5
  have s5 := s4.below hb5
  have hw5 := below_trans hw4 hb5
  clear x4 r4 s4 hb5 hw4
  cases h1 : setB zs with
  | false =>
    go_wp2_with fail
    refine (lessS_row p q c d zs ys L _ (by omega) (by omega) r5 s5 HL.out).mono ?_
    rintro e u6 ⟨x6, d6, rfl, hx6, hb6⟩
    have x7 := x5.below hb6
    have hw6 := below_trans hw5 hb6
    clear r5 s5 x5 hb6
    go_wp2_with fail
    refine (sdInts_same x x6 dx d6 L _ (by omega) x7.2.2 hx6.2.2).mono ?_
    rintro e u7 ⟨rfl, hb7⟩
    clear x7 hx6
    go_wp2
    go_ret
    exact ⟨rfl, below_trans hw6 hb7⟩
  | true =>
    go_wp2_with fail
    refine (setS_any q d ys _ (by omega) s5.2.2).mono ?_
    rintro e u6 ⟨rfl, hb6⟩
    have x6 := x5.below hb6
    have r6 := r5.below hb6
    have s6 := s5.below hb6
    have hw6 := below_trans hw5 hb6
    clear x5 r5 s5 hb6 hw5
    cases h2 : setB ys with
    | false =>
      go_wp2_with fail
      refine (lessS_row p q c d zs ys L _ (by omega) (by omega) r6 s6 HL.out).mono ?_
      rintro e u7 ⟨x7, d7, rfl, hx7, hb7⟩
      have x8 := x6.below hb7
      have hw7 := below_trans hw6 hb7
      clear r6 s6 x6 hb7
      go_wp2_with fail
      refine (sdInts_same x x7 dx d7 L _ (by omega) x8.2.2 hx7.2.2).mono ?_
      rintro e u8 ⟨rfl, hb8⟩
      clear x8 hx7
      go_wp2
      go_ret
      exact ⟨rfl, below_trans hw7 hb8⟩
    | true =>
      have HO : Hid (orB L (andB zs ys true) = zs) := by unfold Hid; rw [← HL.out]; exact or_less zs ys h1 h2
      have HA : Hid (andB L ys true = []) := by unfold Hid; rw [← HL.out]; exact less_and zs ys h1 h2
      have hMl := andB_len zs ys true
      obtain ⟨M, hM⟩ : ∃ M, andB zs ys true = M := ⟨_, rfl⟩
      rw [hM] at HO hMl
      have HM : Hid (andB zs ys true = M) := hM
      clear hM
      go_wp2_with fail
      refine (andI_row p q c d zs ys M _ (by omega) (by omega) r6 s6 HM.out).mono ?_
      rintro e u7 ⟨x7, d7, rfl, hx7, hb7⟩
      have y7 := x6.below hb7
      have r7 := r6.below hb7
      have s7 := s6.below hb7
      have hw7 := below_trans hw6 hb7
      clear x6 r6 s6 hb7 hw6
      go_wp2_with fail
      refine (orI_row x x7 dx d7 L M zs _ (by omega) (by omega) y7 hx7 HO.out).mono ?_
      rintro e u8 ⟨x8, d8, rfl, hx8, hb8⟩
      have y8 := y7.below hb8
      have r8 := r7.below hb8
      have s8 := s7.below hb8
      have hw8 := below_trans hw7 hb8
      clear y7 hx7 r7 s7 hb8 hw7
      go_wp2_with fail
      refine (sdInts_same x8 p d8 c zs _ (by omega) hx8.2.2 r8.2.2).mono ?_
      rintro e u9 ⟨rfl, hb9⟩
      have y9 := y8.below hb9
      have r9 := r8.below hb9
      have s9 := s8.below hb9
      have hw9 := below_trans hw8 hb9
      clear y8 hx8 r8 s8 hb9 hw8
      go_wp2_with fail
      refine (andI_row x q dx d L ys [] _ (by omega) (by omega) y9 s9 HA.out).mono ?_
      rintro e u10 ⟨x10, d10, rfl, _, hb10⟩
      have r10 := r9.below hb10
      have hw10 := below_trans hw9 hb10
      clear y9 s9 r9 hb10 hw9
      go_wp2_with fail
      refine (lessI_row p p c c zs zs [] _ (by omega) (by omega) r10 r10 (less_self zs h1)).mono ?_
      rintro e u11 ⟨x11, d11, rfl, _, hb11⟩
      have r11 := r10.below hb11
      have hw11 := below_trans hw10 hb11
      clear r10 hb11 hw10
      go_wp2_with fail
      refine (lessI_row p none c 0 zs [] zs _ (by omega) (by simp) r11 (rowC_nil _) (less_nil zs h1)).mono ?_
      rintro e u12 ⟨x12, d12, rfl, hx12, hb12⟩
      have r12 := r11.below hb12
      have hw12 := below_trans hw11 hb12
      clear r11 hb12 hw11
      go_wp2_with fail
      refine (sdInts_same x12 p d12 c zs _ (by omega) hx12.2.2 r12.2.2).mono ?_
      rintro e u13 ⟨rfl, hb13⟩
      clear hx12 r12
      go_wp2
      go_ret
      exact ⟨rfl, below_trans hw12 hb13⟩
end Go.Proofs.Ytbmdfhognldkjaa
