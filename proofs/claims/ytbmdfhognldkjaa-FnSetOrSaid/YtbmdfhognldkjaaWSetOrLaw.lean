/- The walk of the law FnSetOr. -/
import Derived.Test.YtbmdfhognldkjaaSetRows
namespace Go.Proofs.Ytbmdfhognldkjaa
open Go.RowKit

theorem setHasI_val (a : Option Addr) (cap : Nat) (zs : List Int) (n : Int) (v : Bool) (w : World) (hz : zs.length ≤ 1099511627776) (hr : IntRow w a zs) (hv : (setB zs && hasB zs n) = v) :
    Calls Try.prog 20 #[.slice a zs.length cap, .int .i64 n] w fun e w' => e = .returned (.bool v) ∧ w' = w := by
  rw [← hv]
  exact setHasI_any a cap zs n w hz hr

set_option maxHeartbeats 2000000 in
theorem wFnSetOr (a0 : Option Addr) (len0 cap0 : Nat) (w : World) (b0 : BytesIn w a0 len0 cap0) :
    Calls Try.prog 4 #[.slice a0 len0 cap0] w fun e w' => e = .returned (.bool true) ∧ Below w.heap.size w w' := by
  have m0 := b0.le
  have m1 := b0.max
  unfold maxLen at m1
  by_cases hbig : 1048576 < (len0 : Int)
  · clear b0
    go_enter Try.func4, Try.ntmps4
    go_wp2
    go_ret
    exact ⟨rfl, Below.refl _ _⟩
  go_enter Try.func4, Try.ntmps4
  go_wp2_with fail
  refine (drawSetOr_any a0 len0 cap0 _ b0).mono ?_
  rintro e u1 ⟨p, c, zs, q, d, ys, rfl, hz, hy, hr, hs, hb1⟩
  clear b0
  have hLl := orB_len zs ys
  obtain ⟨L, hL⟩ : ∃ L, orB zs ys = L := ⟨_, rfl⟩
  rw [hL] at hLl
  have HL : Hid (orB zs ys = L) := hL
  clear hL
  go_wp2_with fail
  refine (orI_row p q c d zs ys L _ (by omega) (by omega) hr hs HL.out).mono ?_
  rintro e u2 ⟨x, dx, rfl, hx, hb2⟩
  have r2 := hr.below hb2
  have s2 := hs.below hb2
  have hw2 := below_trans hb1 hb2
  clear hr hs hb1 hb2
  go_wp2_with fail
  refine (orS_row p q c d zs ys L _ (by omega) (by omega) r2 s2 HL.out).mono ?_
  rintro e u3 ⟨x3, d3, rfl, hx3, hb3⟩
  have x3' := hx.below hb3
  have r3 := r2.below hb3
  have s3 := s2.below hb3
  have hw3 := below_trans hw2 hb3
  clear hx r2 s2 hb3 hw2
  go_wp2_with fail
  refine (sdInts_same x x3 dx d3 L _ (by omega) x3'.2.2 hx3.2.2).mono ?_
  rintro e u4 ⟨rfl, hb4⟩
  have x4 := x3'.below hb4
  have r4 := r3.below hb4
  have s4 := s3.below hb4
  have hw4 := below_trans hw3 hb4
  clear x3' hx3 r3 s3 hb4 hw3
  go_wp2_with fail
  refine (setS_any p c zs _ (by omega) r4.2.2).mono ?_
  rintro e u5 ⟨rfl, hb5⟩
  have x5 := x4.below hb5
  have r5 := r4.below hb5
  have s5 := s4.below hb5
  have hw5 := below_trans hw4 hb5
  clear x4 r4 s4 hb5 hw4
  cases h1 : setB zs with
  | false =>
    go_wp2_with fail
    refine (orS_row p q c d zs ys L _ (by omega) (by omega) r5 s5 HL.out).mono ?_
    rintro e u7 ⟨x7, d7, rfl, hx7, hb7⟩
    have x8 := x5.below hb7
    have hw7 := below_trans hw5 hb7
    clear r5 s5 x5 hb7
    go_wp2_with fail
    refine (sdInts_same x x7 dx d7 L _ (by omega) x8.2.2 hx7.2.2).mono ?_
    rintro e u8 ⟨rfl, hb8⟩
    clear x8 hx7
    go_wp2
    go_ret
    exact ⟨rfl, below_trans hw7 hb8⟩
  | true =>
    go_wp2_with fail
    refine (setS_any q d ys _ (by omega) s5.2.2).mono ?_
    rintro e u7 ⟨rfl, hb7⟩
    have x7 := x5.below hb7
    have r7 := r5.below hb7
    have s7 := s5.below hb7
    have hw7 := below_trans hw5 hb7
    clear x5 r5 s5 hb7 hw5
    cases h2 : setB ys with
    | false =>
      go_wp2_with fail
      refine (orS_row p q c d zs ys L _ (by omega) (by omega) r7 s7 HL.out).mono ?_
      rintro e u8 ⟨x8, d8, rfl, hx8, hb8⟩
      have x9 := x7.below hb8
      have hw8 := below_trans hw7 hb8
      clear r7 s7 x7 hb8
      go_wp2_with fail
      refine (sdInts_same x x8 dx d8 L _ (by omega) x9.2.2 hx8.2.2).mono ?_
      rintro e u9 ⟨rfl, hb9⟩
      clear x9 hx8
      go_wp2
      go_ret
      exact ⟨rfl, below_trans hw8 hb9⟩
    | true =>
      have HI : Hid (∀ k, k < L.length → hasB zs (nth L k) = false → hasB ys (nth L k) = true) := fun k hk hf => by
        rw [hasB_mem, decide_eq_false_iff_not] at hf
        rw [hasB_mem, decide_eq_true_eq]
        rcases (mem_or zs ys h1 h2 (nth L k)).1 (by rw [HL.out, nth_get _ _ hk]; exact List.getElem_mem hk) with h | h
        · exact absurd h hf
        · exact h
      have HA : Hid (∀ k, k + 1 < L.length → nth L k < nth L (k + 1)) := fun k hk => by
        have h := asc_or zs ys h1 h2
        rw [HL.out] at h
        rw [nth_get _ _ hk, nth_get L k (by omega)]
        exact List.pairwise_iff_getElem.1 h k (k + 1) (by omega) hk (by omega)
      have HT : Hid (orB ys zs = L) := by unfold Hid; rw [← HL.out]; exact or_turn zs ys h1 h2
      have hMl := andB_len zs ys true
      have hcn := or_count zs ys h1 h2
      rw [HL.out] at hcn
      obtain ⟨M, hM⟩ : ∃ M, andB zs ys true = M := ⟨_, rfl⟩
      rw [hM] at hMl hcn
      have HM : Hid (andB zs ys true = M) := hM
      clear hM
      have HCN : Hid (L.length + M.length = zs.length + ys.length) := hcn
      clear hcn
      go_wp2
      go_loopw [6] (fun i wr => ∃ k : Nat, k ≤ L.length ∧ i = .int .i64 k ∧ Below u7.heap.size u7 wr) (fun i _ => L.length - (intOf i).toNat)
      case atStart => exact ⟨0, Nat.zero_le _, rfl, Below.refl _ _⟩
      case round =>
        obtain ⟨k, hk, rfl, hbel⟩ := hrel
        have x8 := x7.below hbel
        have r8 := r7.below hbel
        have s8 := s7.below hbel
        by_cases hlt : k < L.length
        · have hki : (k : Int) < (L.length : Int) := by omega
          have HIk := HI.out k hlt
          have HAk : Hid (∀ j, k = j + 1 → nth L j < nth L k) := fun j e => by subst e; exact HA.out j hlt
          obtain ⟨g, off, rfl, hg, hc⟩ := x8.2.2 (by omega)
          have c1 := hc k hlt
          clear HI HA HT HM HCN x7 r7 s7 hMl
          rcases Nat.eq_zero_or_pos k with rfl | hkp
          · have k0 : decide ((0 : Int) < ((0 : Nat) : Int)) = false := by simp
            clear HAk x8
            generalize nth L 0 = z at *
            rw [Nat.add_zero] at c1
            cases g1 : hasB zs z with
            | true =>
              have v1 : Hid ((setB zs && hasB zs z) = true) := by unfold Hid; rw [h1, g1]; rfl
              have HV1 : Hid (∀ n, Calls Try.prog 20 #[.slice p zs.length c, .int .i64 z] (wr.drewN n) fun e w' => e = .returned (.bool true) ∧ w' = wr.drewN n) := fun n => setHasI_val p c zs z true _ (by omega) r8.2.2 v1.out
              clear HIk g1 hc r8 s8 v1 h1 h2
              go_wp2
              go_quiet ((go_at_call 20; with_reducible exact Calls.quiet_of_same (HV1.out _)))
              go_wp2
              go_roundw
              case rel => exact ⟨0 + 1, by omega, by go_num, below_drewN hbel _⟩
              case measure => simp [intOf]; omega
            | false =>
              have v1 : Hid ((setB zs && hasB zs z) = false) := by unfold Hid; rw [h1, g1]; rfl
              have v2 : Hid ((setB ys && hasB ys z) = true) := by unfold Hid; rw [h2, HIk g1]; rfl
              have HV1 : Hid (∀ n, Calls Try.prog 20 #[.slice p zs.length c, .int .i64 z] (wr.drewN n) fun e w' => e = .returned (.bool false) ∧ w' = wr.drewN n) := fun n => setHasI_val p c zs z false _ (by omega) r8.2.2 v1.out
              have HV2 : Hid (∀ n, Calls Try.prog 20 #[.slice q ys.length d, .int .i64 z] (wr.drewN n) fun e w' => e = .returned (.bool true) ∧ w' = wr.drewN n) := fun n => setHasI_val q d ys z true _ (by omega) s8.2.2 v2.out
              clear HIk g1 hc r8 s8 v1 v2 h1 h2
              go_wp2
              go_quiet ((go_at_call 20; first | with_reducible exact Calls.quiet_of_same (HV1.out _) | with_reducible exact Calls.quiet_of_same (HV2.out _)))
              go_wp2
              go_roundw
              case rel => exact ⟨0 + 1, by omega, by go_num, below_drewN hbel _⟩
              case measure => simp [intOf]; omega
          · obtain ⟨j, rfl⟩ : ∃ j, k = j + 1 := ⟨k - 1, by omega⟩
            have c0 := hc j (by omega)
            have hlt2 := HAk.out j rfl
            have i1 : (j : Int) + 1 < (L.length : Int) := by omega
            have i2 : (j : Int) < (L.length : Int) := by omega
            have i3 : (0 : Int) < (j : Int) + 1 := by omega
            have d4 : decide (nth L (j + 1) ≤ nth L j) = false := by simp; omega
            clear HAk x8 hlt2
            generalize nth L (j + 1) = z at *
            generalize nth L j = y at *
            cases g1 : hasB zs z with
            | true =>
              have v1 : Hid ((setB zs && hasB zs z) = true) := by unfold Hid; rw [h1, g1]; rfl
              have HV1 : Hid (∀ n, Calls Try.prog 20 #[.slice p zs.length c, .int .i64 z] (wr.drewN n) fun e w' => e = .returned (.bool true) ∧ w' = wr.drewN n) := fun n => setHasI_val p c zs z true _ (by omega) r8.2.2 v1.out
              clear HIk g1 hc r8 s8 v1 h1 h2
              go_wp2
              go_quiet ((go_at_call 20; with_reducible exact Calls.quiet_of_same (HV1.out _)))
              go_wp2
              go_roundw
              case rel => exact ⟨j + 1 + 1, by omega, by go_num, below_drewN hbel _⟩
              case measure => simp [intOf]; omega
            | false =>
              have v1 : Hid ((setB zs && hasB zs z) = false) := by unfold Hid; rw [h1, g1]; rfl
              have v2 : Hid ((setB ys && hasB ys z) = true) := by unfold Hid; rw [h2, HIk g1]; rfl
              have HV1 : Hid (∀ n, Calls Try.prog 20 #[.slice p zs.length c, .int .i64 z] (wr.drewN n) fun e w' => e = .returned (.bool false) ∧ w' = wr.drewN n) := fun n => setHasI_val p c zs z false _ (by omega) r8.2.2 v1.out
              have HV2 : Hid (∀ n, Calls Try.prog 20 #[.slice q ys.length d, .int .i64 z] (wr.drewN n) fun e w' => e = .returned (.bool true) ∧ w' = wr.drewN n) := fun n => setHasI_val q d ys z true _ (by omega) s8.2.2 v2.out
              clear HIk g1 hc r8 s8 v1 v2 h1 h2
              go_wp2
              go_quiet ((go_at_call 20; first | with_reducible exact Calls.quiet_of_same (HV1.out _) | with_reducible exact Calls.quiet_of_same (HV2.out _)))
              go_wp2
              go_roundw
              case rel => exact ⟨j + 1 + 1, by omega, by go_num, below_drewN hbel _⟩
              case measure => simp [intOf]; omega
        · have hk' : decide ((k : Int) < (L.length : Int)) = false := by simp; omega
          have hw8 := below_trans hw7 hbel
          clear x7 r7 s7 hbel hw7 HI HA
          go_wp2_with fail
          refine (orI_row q p d c ys zs L _ (by omega) (by omega) s8 r8 HT.out).mono ?_
          rintro e u9 ⟨x9, d9, rfl, hx9, hb9⟩
          have y9 := x8.below hb9
          have r9 := r8.below hb9
          have s9 := s8.below hb9
          have hw9 := below_trans hw8 hb9
          clear x8 r8 s8 hb9 hw8
          go_wp2_with fail
          refine (sdInts_same x9 x d9 dx L _ (by omega) hx9.2.2 y9.2.2).mono ?_
          rintro e u10 ⟨rfl, hb10⟩
          have r10 := r9.below hb10
          have s10 := s9.below hb10
          have hw10 := below_trans hw9 hb10
          clear y9 hx9 r9 s9 hb10 hw9
          go_wp2_with fail
          refine (andI_row p q c d zs ys M _ (by omega) (by omega) r10 s10 HM.out).mono ?_
          rintro e u11 ⟨x11, d11, rfl, _, hb11⟩
          have r11 := r10.below hb11
          have hw11 := below_trans hw10 hb11
          clear r10 s10 hb11 hw10
          have hcnt : ((L.length : Int) + (M.length : Int) == (zs.length : Int) + (ys.length : Int)) = true := by
            have := HCN.out
            simp
            omega
          go_wp2_with fail
          refine (orI_row p p c c zs zs zs _ (by omega) (by omega) r11 r11 (or_self' zs h1)).mono ?_
          rintro e u12 ⟨x12, d12, rfl, hx12, hb12⟩
          have r12 := r11.below hb12
          have hw12 := below_trans hw11 hb12
          clear r11 hb12 hw11 hcnt
          go_wp2_with fail
          refine (sdInts_same x12 p d12 c zs _ (by omega) hx12.2.2 r12.2.2).mono ?_
          rintro e u13 ⟨rfl, hb13⟩
          clear hx12 r12
          go_wp2
          go_ret
          exact ⟨rfl, below_trans hw12 hb13⟩
end Go.Proofs.Ytbmdfhognldkjaa
