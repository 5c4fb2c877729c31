/- The walks of the laws FnSetAnd, FnSetThree. -/
import Derived.Test.YtbmdfhognldkjaaSetRows
namespace Go.Proofs.Ytbmdfhognldkjaa
open Go.RowKit

theorem hasB_nth (zs L : List Int) (k : Nat) (h : k < L.length) (hm : ∀ x ∈ L, x ∈ zs) : hasB zs (nth L k) = true := by
  rw [hasB_mem, nth_get _ _ h]
  simpa using hm _ (List.getElem_mem h)

set_option maxHeartbeats 2000000 in
theorem wFnSetAnd (a0 : Option Addr) (len0 cap0 : Nat) (w : World) (b0 : BytesIn w a0 len0 cap0) :
    Calls Try.prog 3 #[.slice a0 len0 cap0] w fun e w' => e = .returned (.bool true) ∧ Below w.heap.size w w' := by
  have m0 := b0.le
  have m1 := b0.max
  unfold maxLen at m1
  by_cases hbig : 1048576 < (len0 : Int)
  · clear b0
    go_enter Try.func3, Try.ntmps3
    go_wp2
    go_ret
    exact ⟨rfl, Below.refl _ _⟩
  go_enter Try.func3, Try.ntmps3
  go_wp2_with fail
  refine (drawSetAnd_any a0 len0 cap0 _ b0).mono ?_
  rintro e u1 ⟨p, c, zs, q, d, ys, rfl, hz, hy, hr, hs, hb1⟩
  clear b0
  have hLl := andB_len zs ys true
  obtain ⟨L, hL⟩ : ∃ L, andB zs ys true = L := ⟨_, rfl⟩
  rw [hL] at hLl
  have HL : Hid (andB zs ys true = L) := hL
  clear hL
  go_wp2_with fail
  refine (andI_row p q c d zs ys L _ (by omega) (by omega) hr hs HL.out).mono ?_
  rintro e u2 ⟨x, dx, rfl, hx, hb2⟩
  have r2 := hr.below hb2
  have s2 := hs.below hb2
  have hw2 := below_trans hb1 hb2
  clear hr hs hb1 hb2
  go_wp2_with fail
  refine (andS_row p q c d zs ys L _ (by omega) (by omega) r2 s2 HL.out).mono ?_
  rintro e u3 ⟨x3, d3, rfl, hx3, hb3⟩
  have x3' := hx.below hb3
  have r3 := r2.below hb3
  have s3 := s2.below hb3
  have hw3 := below_trans hw2 hb3
  clear hx r2 s2 hb3 hw2
  go_wp2_with fail
  refine (sdInts_same x x3 dx d3 L _ (by omega) x3'.2.2 hx3.2.2).mono ?_
  rintro e u4 ⟨rfl, hb4⟩
  have x4 := x3'.below hb4
  have r4 := r3.below hb4
  have s4 := s3.below hb4
  have hw4 := below_trans hw3 hb4
  clear x3' hx3 r3 s3 hb4 hw3
  go_wp2_with fail
  refine (setI_any p c zs _ (by omega) r4.2.2).mono ?_
  rintro e u5' ⟨rfl, rfl⟩
  go_wp2_with fail
  refine (setS_any p c zs _ (by omega) r4.2.2).mono ?_
  rintro e u5 ⟨rfl, hb5⟩
  have x5 := x4.below hb5
  have r5 := r4.below hb5
  have s5 := s4.below hb5
  have hw5 := below_trans hw4 hb5
  clear x4 r4 s4 hb5 hw4
  cases h1 : setB zs with
  | false =>
    go_wp2_with fail
    refine (setS_any p c zs _ (by omega) r5.2.2).mono ?_
    rintro e u6 ⟨rfl, hb6⟩
    rw [h1]
    have x6 := x5.below hb6
    have r6 := r5.below hb6
    have s6 := s5.below hb6
    have hw6 := below_trans hw5 hb6
    clear x5 r5 s5 hb6 hw5
    go_wp2_with fail
    refine (andS_row p q c d zs ys L _ (by omega) (by omega) r6 s6 HL.out).mono ?_
    rintro e u7 ⟨x7, d7, rfl, hx7, hb7⟩
    have x8 := x6.below hb7
    have r7 := r6.below hb7
    have hw7 := below_trans hw6 hb7
    clear r6 s6 x6 hb7
    go_wp2_with fail
    refine (sdInts_same x x7 dx d7 L _ (by omega) x8.2.2 hx7.2.2).mono ?_
    rintro e u8 ⟨rfl, hb8⟩
    have r8 := r7.below hb8
    have hw8 := below_trans hw7 hb8
    clear x8 hx7 r7 hb8
    go_wp2_with fail
    refine (setI_any p c zs _ (by omega) r8.2.2).mono ?_
    rintro e u9' ⟨rfl, rfl⟩
    rw [h1]
    go_wp2_with fail
    refine (setS_any p c zs _ (by omega) r8.2.2).mono ?_
    rintro e u9 ⟨rfl, hb9⟩
    rw [h1]
    clear r8
    go_wp2
    go_ret
    exact ⟨rfl, below_trans hw8 hb9⟩
  | true =>
    go_wp2_with fail
    refine (setS_any p c zs _ (by omega) r5.2.2).mono ?_
    rintro e u6 ⟨rfl, hb6⟩
    rw [h1]
    have x6 := x5.below hb6
    have r6 := r5.below hb6
    have s6 := s5.below hb6
    have hw6 := below_trans hw5 hb6
    clear x5 r5 s5 hb6 hw5
    go_wp2_with fail
    refine (setS_any q d ys _ (by omega) s6.2.2).mono ?_
    rintro e u7 ⟨rfl, hb7⟩
    have x7 := x6.below hb7
    have r7 := r6.below hb7
    have s7 := s6.below hb7
    have hw7 := below_trans hw6 hb7
    clear x6 r6 s6 hb7 hw6
    cases h2 : setB ys with
    | false =>
      go_wp2_with fail
      refine (andS_row p q c d zs ys L _ (by omega) (by omega) r7 s7 HL.out).mono ?_
      rintro e u8 ⟨x8, d8, rfl, hx8, hb8⟩
      have x9 := x7.below hb8
      have r8 := r7.below hb8
      have hw8 := below_trans hw7 hb8
      clear r7 s7 x7 hb8
      go_wp2_with fail
      refine (sdInts_same x x8 dx d8 L _ (by omega) x9.2.2 hx8.2.2).mono ?_
      rintro e u9 ⟨rfl, hb9⟩
      have r9 := r8.below hb9
      have hw9 := below_trans hw8 hb9
      clear x9 hx8 r8 hb9
      go_wp2_with fail
      refine (setI_any p c zs _ (by omega) r9.2.2).mono ?_
      rintro e u10' ⟨rfl, rfl⟩
      rw [h1]
      go_wp2_with fail
      refine (setS_any p c zs _ (by omega) r9.2.2).mono ?_
      rintro e u10 ⟨rfl, hb10⟩
      rw [h1]
      clear r9
      go_wp2
      go_ret
      exact ⟨rfl, below_trans hw9 hb10⟩
    | true =>
      have HI : Hid (∀ k, k < L.length → hasB zs (nth L k) = true ∧ hasB ys (nth L k) = true) := fun k hk =>
        ⟨hasB_nth zs L k hk (fun x hx => ((mem_and zs ys h1 h2 x).1 (by rw [HL.out]; exact hx)).1), hasB_nth ys L k hk (fun x hx => ((mem_and zs ys h1 h2 x).1 (by rw [HL.out]; exact hx)).2)⟩
      have HS : Hid (setB L = true) := by unfold Hid; rw [← HL.out]; exact set_and zs ys h1 h2 true
      have HT : Hid (andB ys zs true = L) := by unfold Hid; rw [← HL.out]; exact and_turn zs ys h1 h2
      go_wp2
      go_loop [6] (fun i => ∃ k : Nat, k ≤ L.length ∧ i = .int .i64 k) (fun i => L.length - (intOf i).toNat)
      case atStart => exact ⟨0, Nat.zero_le _, rfl⟩
      case round =>
        obtain ⟨k, hk, rfl⟩ := hrel
        by_cases hlt : k < L.length
        · obtain ⟨g1, hg2⟩ := HI.out k hlt
          obtain ⟨g, off, rfl, hg, hc⟩ := x7.2.2 (by omega)
          have c1 := hc k hlt
          generalize nth L k = z at *
          clear hc
          go_wp2_with fail
          refine (setHasI_any p c zs z _ (by omega) r7.2.2).mono ?_
          rintro e u8 ⟨rfl, rfl⟩
          rw [h1, g1, Bool.true_and]
          go_wp2_with fail
          refine (setHasI_any q d ys z _ (by omega) s7.2.2).mono ?_
          rintro e u8 ⟨rfl, rfl⟩
          rw [h2, hg2, Bool.true_and]
          clear x7 r7 s7
          go_wp2
          go_round
          case rel => exact ⟨k + 1, by omega, by go_num⟩
          case measure => simp [intOf]; omega
        · have hk' : decide ((k : Int) < (L.length : Int)) = false := by simp; omega
          go_wp2_with fail
          refine (setI_any x dx L _ (by omega) x7.2.2).mono ?_
          rintro e u8 ⟨rfl, rfl⟩
          rw [HS.out]
          go_wp2_with fail
          refine (andI_row q p d c ys zs L _ (by omega) (by omega) s7 r7 HT.out).mono ?_
          rintro e u9 ⟨x9, d9, rfl, hx9, hb9⟩
          have x8 := x7.below hb9
          have r9 := r7.below hb9
          have hw9 := below_trans hw7 hb9
          clear x7 r7 s7 hb9 hw7
          go_wp2_with fail
          refine (sdInts_same x9 x d9 dx L _ (by omega) hx9.2.2 x8.2.2).mono ?_
          rintro e u10 ⟨rfl, hb10⟩
          have r10 := r9.below hb10
          have hw10 := below_trans hw9 hb10
          clear x8 hx9 r9 hb10 hw9
          go_wp2_with fail
          refine (andI_row p p c c zs zs zs _ (by omega) (by omega) r10 r10 (and_self zs h1)).mono ?_
          rintro e u11 ⟨x11, d11, rfl, hx11, hb11⟩
          have r11 := r10.below hb11
          have hw11 := below_trans hw10 hb11
          clear r10 hb11 hw10
          go_wp2_with fail
          refine (sdInts_same x11 p d11 c zs _ (by omega) hx11.2.2 r11.2.2).mono ?_
          rintro e u12 ⟨rfl, hb12⟩
          clear hx11 r11
          go_wp2
          go_ret
          exact ⟨rfl, below_trans hw11 hb12⟩
end Go.Proofs.Ytbmdfhognldkjaa
