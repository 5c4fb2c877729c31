/- The walk of the law FnSetThree. -/
import Derived.Test.YtbmdfhognldkjaaSetRows
namespace Go.Proofs.Ytbmdfhognldkjaa
open Go.RowKit

set_option maxHeartbeats 2000000 in
theorem wFnSetThree (a0 a1 : Option Addr) (len0 cap0 len1 cap1 : Nat) (w : World) (b0 : BytesIn w a0 len0 cap0) (b1 : BytesIn w a1 len1 cap1) :
    Calls Try.prog 7 #[.slice a0 len0 cap0, .slice a1 len1 cap1] w fun e w' => e = .returned (.bool true) ∧ Below w.heap.size w w' := by
  have m0 := b0.le
  have m1 := b0.max
  have m2 := b1.le
  have m3 := b1.max
  unfold maxLen at m1 m3
  by_cases hbig : 1048576 < (len0 : Int)
  · clear b0 b1
    go_enter Try.func7, Try.ntmps7
    go_wp2
    go_ret
    exact ⟨rfl, Below.refl _ _⟩
  have hb0 : decide (1048576 < (len0 : Int)) = false := by simpa using hbig
  by_cases hbig1 : 1048576 < (len1 : Int)
  · clear b0 b1
    go_enter Try.func7, Try.ntmps7
    go_wp2
    go_ret
    exact ⟨rfl, Below.refl _ _⟩
  have hb1 : decide (1048576 < (len1 : Int)) = false := by simpa using hbig1
  go_enter Try.func7, Try.ntmps7
  go_wp2_with fail
  refine (drawSetAnd_any a0 len0 cap0 _ b0).mono ?_
  rintro e u1 ⟨p, c, zs, q, d, ys, rfl, hz, hy, hr0, hs0, hb1⟩
  go_wp2_with fail
  refine (drawSetAnd_any a1 len1 cap1 _ (b1.below hb1)).mono ?_
  rintro e u2 ⟨t, g, ts, t', g', ts', rfl, ht, _, hrt, _, hb2⟩
  have hr := hr0.below hb2
  have hs := hs0.below hb2
  have hw2 := below_trans hb1 hb2
  clear b0 b1 hr0 hs0 hb1 hb2
  have hLl := andB_len zs ys true
  obtain ⟨L, hL⟩ : ∃ L, andB zs ys true = L := ⟨_, rfl⟩
  rw [hL] at hLl
  have HL : Hid (andB zs ys true = L) := hL
  clear hL
  go_wp2_with fail
  refine (andI_row p q c d zs ys L _ (by omega) (by omega) hr hs HL.out).mono ?_
  rintro e u3 ⟨x, dx, rfl, hx, hb3⟩
  have r3 := hr.below hb3
  have s3 := hs.below hb3
  have t3 := hrt.below hb3
  have hw3 := below_trans hw2 hb3
  clear hr hs hrt hb3 hw2
  go_wp2_with fail
  refine (andS_row p q c d zs ys L _ (by omega) (by omega) r3 s3 HL.out).mono ?_
  rintro e u4 ⟨x4, d4, rfl, hx4, hb4⟩
  have y4 := hx.below hb4
  have r4 := r3.below hb4
  have s4 := s3.below hb4
  have t4 := t3.below hb4
  have hw4 := below_trans hw3 hb4
  clear hx r3 s3 t3 hb4 hw3
  go_wp2_with fail
  refine (sdInts_same x x4 dx d4 L _ (by omega) y4.2.2 hx4.2.2).mono ?_
  rintro e u5 ⟨rfl, hb5⟩
  have y5 := y4.below hb5
  have r5 := r4.below hb5
  have s5 := s4.below hb5
  have t5 := t4.below hb5
  have hw5 := below_trans hw4 hb5
  clear y4 hx4 r4 s4 t4 hb5 hw4
  go_wp2_with fail
  refine (setS_any p c zs _ (by omega) r5.2.2).mono ?_
  rintro e u6 ⟨rfl, hb6⟩
  have y6 := y5.below hb6
  have r6 := r5.below hb6
  have s6 := s5.below hb6
  have t6 := t5.below hb6
  have hw6 := below_trans hw5 hb6
  clear y5 r5 s5 t5 hb6 hw5
  cases h1 : setB zs with
  | false =>
    go_wp2_with fail
    refine (andS_row p q c d zs ys L _ (by omega) (by omega) r6 s6 HL.out).mono ?_
    rintro e u7 ⟨x7, d7, rfl, hx7, hb7⟩
    have y7 := y6.below hb7
    have hw7 := below_trans hw6 hb7
    clear r6 s6 t6 y6 hb7
    go_wp2_with fail
    refine (sdInts_same x x7 dx d7 L _ (by omega) y7.2.2 hx7.2.2).mono ?_
    rintro e u8 ⟨rfl, hb8⟩
    clear y7 hx7
    go_wp2
    go_ret
    exact ⟨rfl, below_trans hw7 hb8⟩
  | true =>
    go_wp2_with fail
    refine (setS_any q d ys _ (by omega) s6.2.2).mono ?_
    rintro e u7 ⟨rfl, hb7⟩
    have y7 := y6.below hb7
    have r7 := r6.below hb7
    have s7 := s6.below hb7
    have t7 := t6.below hb7
    have hw7 := below_trans hw6 hb7
    clear y6 r6 s6 t6 hb7 hw6
    cases h2 : setB ys with
    | false =>
      go_wp2_with fail
      refine (andS_row p q c d zs ys L _ (by omega) (by omega) r7 s7 HL.out).mono ?_
      rintro e u8 ⟨x8, d8, rfl, hx8, hb8⟩
      have y8 := y7.below hb8
      have hw8 := below_trans hw7 hb8
      clear r7 s7 t7 y7 hb8
      go_wp2_with fail
      refine (sdInts_same x x8 dx d8 L _ (by omega) y8.2.2 hx8.2.2).mono ?_
      rintro e u9 ⟨rfl, hb9⟩
      clear y8 hx8
      go_wp2
      go_ret
      exact ⟨rfl, below_trans hw8 hb9⟩
    | true =>
      go_wp2_with fail
      refine (setS_any t g ts _ (by omega) t7.2.2).mono ?_
      rintro e u8 ⟨rfl, hb8⟩
      have y8 := y7.below hb8
      have r8 := r7.below hb8
      have s8 := s7.below hb8
      have t8 := t7.below hb8
      have hw8 := below_trans hw7 hb8
      clear y7 r7 s7 t7 hb8 hw7
      cases h3 : setB ts with
      | false =>
        go_wp2_with fail
        refine (andS_row p q c d zs ys L _ (by omega) (by omega) r8 s8 HL.out).mono ?_
        rintro e u9 ⟨x9, d9, rfl, hx9, hb9⟩
        have y9 := y8.below hb9
        have hw9 := below_trans hw8 hb9
        clear r8 s8 t8 y8 hb9
        go_wp2_with fail
        refine (sdInts_same x x9 dx d9 L _ (by omega) y9.2.2 hx9.2.2).mono ?_
        rintro e u10 ⟨rfl, hb10⟩
        clear y9 hx9
        go_wp2
        go_ret
        exact ⟨rfl, below_trans hw9 hb10⟩
      | true =>
        have hOl := orB_len ys ts
        have hMl := andB_len ys ts true
        have hNl := andB_len zs ts true
        have hPl := andB_len L ts true
        have HP : Hid (andB L ts true = andB zs (andB ys ts true) true) := by unfold Hid; rw [← HL.out]; exact and_three zs ys ts h1 h2 h3
        have HQ : Hid (setB (orB ys ts) = true → andB zs (orB ys ts) true = orB L (andB zs ts true)) := by unfold Hid; rw [← HL.out]; exact and_or zs ys ts h1 h2 h3
        obtain ⟨O, hO⟩ : ∃ O, orB ys ts = O := ⟨_, rfl⟩
        obtain ⟨M, hM⟩ : ∃ M, andB ys ts true = M := ⟨_, rfl⟩
        obtain ⟨N, hN⟩ : ∃ N, andB zs ts true = N := ⟨_, rfl⟩
        obtain ⟨P, hP⟩ : ∃ P, andB L ts true = P := ⟨_, rfl⟩
        rw [hO] at hOl HQ
        rw [hM] at hMl HP
        rw [hN] at hNl HQ
        rw [hP] at hPl HP
        have HO : Hid (orB ys ts = O) := hO
        have HM : Hid (andB ys ts true = M) := hM
        have HN : Hid (andB zs ts true = N) := hN
        have HP' : Hid (andB L ts true = P) := hP
        clear hO hM hN hP
        go_wp2_with fail
        refine (orI_row q t d g ys ts O _ (by omega) (by omega) s8 t8 HO.out).mono ?_
        rintro e u9 ⟨o, do9, rfl, ho, hb9⟩
        have y9 := y8.below hb9
        have r9 := r8.below hb9
        have s9 := s8.below hb9
        have t9 := t8.below hb9
        have hw9 := below_trans hw8 hb9
        clear y8 r8 s8 t8 hb9 hw8
        go_wp2_with fail
        refine (andI_row x t dx g L ts P _ (by omega) (by omega) y9 t9 HP'.out).mono ?_
        rintro e u10 ⟨x10, d10, rfl, hx10, hb10⟩
        have y10 := y9.below hb10
        have r10 := r9.below hb10
        have s10 := s9.below hb10
        have t10 := t9.below hb10
        have o10 := ho.below hb10
        have hw10 := below_trans hw9 hb10
        clear y9 r9 s9 t9 ho hb10 hw9
        go_wp2_with fail
        refine (andI_row q t d g ys ts M _ (by omega) (by omega) s10 t10 HM.out).mono ?_
        rintro e u11 ⟨x11, d11, rfl, hx11, hb11⟩
        have y11 := y10.below hb11
        have r11 := r10.below hb11
        have t11 := t10.below hb11
        have o11 := o10.below hb11
        have z11 := hx10.below hb11
        have hw11 := below_trans hw10 hb11
        clear y10 r10 s10 t10 o10 hx10 hb11 hw10
        go_wp2_with fail
        refine (andI_row p x11 c d11 zs M P _ (by omega) (by omega) r11 hx11 HP.out.symm).mono ?_
        rintro e u12 ⟨x12, d12, rfl, hx12, hb12⟩
        have y12 := y11.below hb12
        have r12 := r11.below hb12
        have t12 := t11.below hb12
        have o12 := o11.below hb12
        have z12 := z11.below hb12
        have hw12 := below_trans hw11 hb12
        clear y11 r11 t11 o11 z11 hx11 hb12 hw11
        go_wp2_with fail
        refine (sdInts_same x10 x12 d10 d12 P _ (by omega) z12.2.2 hx12.2.2).mono ?_
        rintro e u13 ⟨rfl, hb13⟩
        have y13 := y12.below hb13
        have r13 := r12.below hb13
        have t13 := t12.below hb13
        have o13 := o12.below hb13
        have hw13 := below_trans hw12 hb13
        clear y12 r12 t12 o12 z12 hx12 hb13 hw12
        go_wp2_with fail
        refine (setI_any o do9 O _ (by omega) o13.2.2).mono ?_
        rintro e u14 ⟨rfl, rfl⟩
        cases h4 : setB O with
        | false =>
          clear y13 r13 t13 o13
          go_wp2
          go_ret
          exact ⟨rfl, hw13⟩
        | true =>
          have hR := HQ.out h4
          have hRl := andB_len zs O true
          obtain ⟨R, hRe⟩ : ∃ R, andB zs O true = R := ⟨_, rfl⟩
          rw [hRe] at hR hRl
          have HR : Hid (andB zs O true = R) := hRe
          have HR' : Hid (orB L N = R) := hR.symm
          clear hR hRe HQ
          go_wp2_with fail
          refine (andI_row p o c do9 zs O R _ (by omega) (by omega) r13 o13 HR.out).mono ?_
          rintro e u15 ⟨x15, d15, rfl, hx15, hb15⟩
          have y15 := y13.below hb15
          have r15 := r13.below hb15
          have t15 := t13.below hb15
          have hw15 := below_trans hw13 hb15
          clear y13 r13 t13 o13 hb15 hw13
          go_wp2_with fail
          refine (andI_row p t c g zs ts N _ (by omega) (by omega) r15 t15 HN.out).mono ?_
          rintro e u16 ⟨x16, d16, rfl, hx16, hb16⟩
          have y16 := y15.below hb16
          have z16 := hx15.below hb16
          have hw16 := below_trans hw15 hb16
          clear y15 r15 t15 hx15 hb16 hw15
          go_wp2_with fail
          refine (orI_row x x16 dx d16 L N R _ (by omega) (by omega) y16 hx16 HR'.out).mono ?_
          rintro e u17 ⟨x17, d17, rfl, hx17, hb17⟩
          have z17 := z16.below hb17
          have hw17 := below_trans hw16 hb17
          clear y16 z16 hx16 hb17 hw16
          go_wp2_with fail
          refine (sdInts_same x15 x17 d15 d17 R _ (by omega) z17.2.2 hx17.2.2).mono ?_
          rintro e u18 ⟨rfl, hb18⟩
          clear z17 hx17
          go_wp2
          go_ret
          exact ⟨rfl, below_trans hw17 hb18⟩
end Go.Proofs.Ytbmdfhognldkjaa
