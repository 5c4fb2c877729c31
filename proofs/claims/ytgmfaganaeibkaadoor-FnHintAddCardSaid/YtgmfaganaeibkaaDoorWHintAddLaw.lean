/- The walk of the law FnHintAdd. -/
import Derived.Test.YtgmfaganaeibkaaDoorWHintTwice
import Derived.Test.YtgmfaganaeibkaaDoorHintAddM
namespace Go.Proofs.YtgmfaganaeibkaaDoor
open Go.RowKit
set_option linter.unusedVariables false

theorem add_no {hs X : List Hn} {t : ByteArray} {x : Int} (h : AddH hs t x (X, false)) (hB : hintsB hs = true) : X = hs := by
  rcases h with ⟨h1, _⟩ | ⟨_, _, h⟩ | ⟨_, _, k, hp, h⟩
  · rw [hB] at h1; cases h1
  · injection h
  · unfold addAt at h
    split at h
    · split at h
      · cases h
      · injection h
    · split at h
      · cases h
      · injection h
theorem was_bd {hs : List Hn} {t : ByteArray} (h : hintsB hs = true) : ∀ {n : Nat}, n ≤ hs.length → 0 ≤ wasTo hs t n ∧ wasTo hs t n ≤ 999999999
  | 0, _ => by simp [wasTo]
  | n + 1, hn => by
    unfold wasTo
    split
    · have := (hints_facts h).2 n (by omega)
      omega
    · exact was_bd h (by omega)
set_option maxRecDepth 100000 in
set_option maxHeartbeats 4000000 in
theorem wFnHintAdd (a0 : Option Addr) (len0 cap0 : Nat) (w : World) (hm : MaxL w) (b0 : BytesIn w a0 len0 cap0) :
    Calls Tryd.prog 3 #[.slice a0 len0 cap0] w fun e w' => e = .returned (.bool true) ∧ Below w.heap.size w w' := by
  have m0 := b0.le
  have m1 := b0.max
  unfold maxLen at m1
  by_cases hbig0 : 1048576 < (len0 : Int)
  · clear b0 hm
    go_enter Tryd.func3, Tryd.ntmps3
    go_wp2
    go_ret
    exact ⟨rfl, Below.refl _ _⟩
  have HM : Hid (∀ wx, Below w.heap.size w wx → MaxL wx) := fun wx h => hm.below h
  clear hm
  go_enter Tryd.func3, Tryd.ntmps3
  go_wp2_with fail
  refine (drawHintAdd_any _ _ _ _ b0).mono ?_
  rintro e u1 ⟨G, C, L, t, x, rfl, hL, ht, hx, hD, hb1⟩
  have HSM : Hid (HnsSmall L) := hD.2.1
  have hLC := hD.1
  have hGl : G < u1.heap.size := (hD.2.2.lt G rfl).2
  have HR : Hid (∀ wx, Below u1.heap.size u1 wx → HnRow wx (some ⟨G, 0, none⟩) L) := fun wx h => hD.row.below h
  have HMU : Hid (∀ wx, Below u1.heap.size u1 wx → MaxL wx) := fun wx h => HM.out wx (below_trans hb1 h)
  clear hD b0 HM
  go_wp2_with fail
  refine (hintAddI_any (some ⟨G, 0, none⟩) C L t x u1 (by omega) HSM.out (by omega) (by omega) (HMU.out _ (Below.refl _ _)) (HR.out _ (Below.refl _ _))).mono ?_
  rintro e u2 ⟨v2, ⟨X, b⟩, rfl, hA, hlX, ho2, hb2⟩
  simp only at hlX ho2
  obtain ⟨p2, c2, rfl, r2⟩ := own_hns2 ho2
  have HA : Hid (AddH L t x (X, b)) := hA
  have HSX : Hid (HnsSmall X) := addH_small hA HSM.out (by omega)
  have hg2 : G < u2.heap.size := by have := hb2.size; omega
  clear hA ho2
  cases b
  all_goals
    go_wp2_with fail
    refine (hintAddS_any G C L t x u2 (by omega) hLC hg2 HSM.out (by omega) (by omega) (HR.out _ hb2)).mono ?_
    rintro e u3 ⟨g3, c3, r3, rfl, hA3, _, _, ho3, hb3⟩
    obtain rfl := HA.out.same hA3
    simp only at ho3
    obtain ⟨p3, c3', e3, q3⟩ := own_hns2 ho3
    injection e3 with e3 _ e3c
    subst e3
    subst e3c
    have r3 := r2.below hb3
    have hb13 := below_trans hb2 hb3
    clear hA3 ho3 r2 hb2 hb3
    go_wp2_with fail
    refine (sdHints_same p2 _ c2 _ X _ (by omega) r3 q3).mono ?_
    rintro e u4 ⟨rfl, hb4⟩
    have r4 := r3.below hb4
    have q4 := q3.below hb4
    have hb14 := below_trans hb13 hb4
    clear r3 q3 hb13 hb4
    go_wp2_with fail
    refine (hintsI_any (some ⟨G, 0, none⟩) C L _ (by omega) HSM.out (HMU.out _ hb14) (HR.out _ hb14)).mono ?_
    rintro e u5 ⟨rfl, hb5⟩
    have hb15 := below_trans hb14 hb5
    go_wp2_with fail
    refine (hintsS_any (some ⟨G, 0, none⟩) C L _ (by omega) HSM.out (HR.out _ hb15)).mono ?_
    rintro e u6 ⟨rfl, hb6⟩
    have hb16 := below_trans hb15 hb6
    have r6 := r4.below (below_trans hb5 hb6)
    have q6 := q4.below (below_trans hb5 hb6)
    clear r4 q4 hb14 hb15 hb5 hb6
    cases hB : hintsB L
  · -- not ok, nothing was added
    go_wp2_with fail
    refine (hintsS_any (some ⟨G, 0, none⟩) C L _ (by omega) HSM.out (HR.out _ hb16)).mono ?_
    rintro e u7 ⟨rfl, hb7⟩
    have r7 := r6.below hb7
    have q7 := q6.below hb7
    have hb17 := below_trans hb16 hb7
    rw [hB]
    clear r6 q6 hb7
    go_wp2_with fail
    refine (sdHints_same p2 _ c2 _ X _ (by omega) r7 q7).mono ?_
    rintro e u8 ⟨rfl, hb8⟩
    have hb18 := below_trans hb17 hb8
    clear r7 q7
    go_wp2_with fail
    refine (hintsI_any (some ⟨G, 0, none⟩) C L _ (by omega) HSM.out (HMU.out _ hb18) (HR.out _ hb18)).mono ?_
    rintro e u9 ⟨rfl, hb9⟩
    have hb19 := below_trans hb18 hb9
    go_wp2_with fail
    refine (hintsS_any (some ⟨G, 0, none⟩) C L _ (by omega) HSM.out (HR.out _ hb19)).mono ?_
    rintro e ua ⟨rfl, hba⟩
    rw [hB]
    go_wp2
    go_ret
    exact ⟨rfl, below_trans hb1 (below_trans hb19 hba)⟩
  · -- ok, nothing was added
    have hXL : X = L := add_no HA.out hB
    subst hXL
    go_wp2_with fail
    refine (hintsS_any (some ⟨G, 0, none⟩) C X _ (by omega) HSM.out (HR.out _ hb16)).mono ?_
    rintro e u7 ⟨rfl, hb7⟩
    have r7 := r6.below hb7
    have hb17 := below_trans hb16 hb7
    rw [hB]
    clear r6 q6 hb7
    go_wp2_with fail
    refine (sdHints_same p2 (some ⟨G, 0, none⟩) c2 C X _ (by omega) r7 (HR.out _ hb17)).mono ?_
    rintro e u8 ⟨rfl, hb8⟩
    clear r7
    go_wp2
    go_ret
    exact ⟨rfl, below_trans hb1 (below_trans hb17 hb8)⟩
  · -- not ok: something was added: this can't be
    exact absurd (add_ok HA.out).1 (by rw [hB]; simp)
  · obtain ⟨hBX, hwas, hsame, hX1⟩ := add_counts HA.out
    have hwb := was_bd (t := t) hB (Nat.le_refl _)
    have HWAS : Hid (wasTo X t X.length = wasTo L t L.length + x) := hwas
    have HSAME : Hid (((sameTo L X t X.length : Nat) : Int) = (X.length : Int) - 1) := by unfold Hid; omega
    have hX10 := (hints_facts hBX).1
    have hL10 := (hints_facts hB).1
    have hxw : x ≤ 999999999 := by
      have := (add_ok HA.out).2.2.1
      unfold hnW at this
      simp only [Bool.and_eq_true, decide_eq_true_eq] at this
      exact this.2
    clear hwas hsame HA
    go_wp2_with fail
    refine (hintsS_any (some ⟨G, 0, none⟩) C L _ (by omega) HSM.out (HR.out _ hb16)).mono ?_
    rintro e u7 ⟨rfl, hb7⟩
    have r7 := r6.below hb7
    have hb17 := below_trans hb16 hb7
    have HRL : Hid (∀ wx, Below u7.heap.size u7 wx → HnRow wx (some ⟨G, 0, none⟩) L) := fun wx h => HR.out wx (below_trans hb17 h)
    have HRX : Hid (∀ wx, Below u7.heap.size u7 wx → HnRow wx p2 X) := fun wx h => r7.below h
    have HM7 : Hid (∀ wx, Below u7.heap.size u7 wx → MaxL wx) := fun wx h => HMU.out wx (below_trans hb17 h)
    have hw7 := below_trans hb1 hb17
    rw [hB]
    clear r6 q6 hb7 r7 HR hb17 hb16 HMU hb1
    go_wp2
    go_loopw [10, 12] (fun vw vi wr => ∃ k : Nat, k ≤ L.length ∧ vi = .int .i64 k ∧ vw = .int .i64 (wasTo L t k) ∧ Below u7.heap.size u7 wr) (fun _ vi _ => L.length - (intOf vi).toNat)
    case atStart => exact ⟨0, Nat.zero_le _, rfl, rfl, Below.refl _ _⟩
    case round =>
      obtain ⟨k, hk, rfl, rfl, hbr⟩ := hrel
      by_cases hlt : k < L.length
      · have hki : (k : Int) < (L.length : Int) := by omega
        obtain ⟨g, off, e, hg, hc⟩ := HRL.out _ hbr (by omega)
        cases e
        obtain ⟨d0, d1⟩ := hc k hlt
        rw [Nat.zero_add] at d0 d1
        have HW : Hid (wasTo L t (k + 1) = if ((hnat L k).text.toList == t.toList) = true then (hnat L k).weight else wasTo L t k) := rfl
        generalize hnat L k = h0 at *
        obtain ⟨tx, x0⟩ := h0
        simp only at d0 d1 HW
        clear hc
        cases he : (tx.toList == t.toList) with
        | true =>
          go_wp2
          go_roundw
          case rel => exact ⟨k + 1, by omega, by go_num, by rw [HW.out, he, if_pos rfl], hbr⟩
          case measure => simp [intOf]; omega
        | false =>
          go_wp2
          go_roundw
          case rel => exact ⟨k + 1, by omega, by go_num, by rw [HW.out, he, if_neg (by simp)], hbr⟩
          case measure => simp [intOf]; omega
      · have hke : k = L.length := by omega
        subst hke
        obtain ⟨W0, hW0⟩ : ∃ W0, wasTo L t L.length = W0 := ⟨_, rfl⟩
        rw [hW0] at HWAS hwb
        rw [hW0]
        clear hW0
        go_wp2
        go_loopw [11, 13, 14] (fun vn vs vi wq => ∃ i : Nat, i ≤ X.length ∧ vi = .int .i64 i ∧ vn = .int .i64 (wasTo X t i) ∧ vs = .int .i64 (sameTo L X t i : Nat) ∧ Below u7.heap.size u7 wq) (fun _ _ vi _ => X.length - (intOf vi).toNat)
        case atStart => exact ⟨0, Nat.zero_le _, rfl, rfl, rfl, hbr⟩
        case round =>
          rename World => wq
          clear hbr
          obtain ⟨i, hi, rfl, rfl, rfl, hbq⟩ := hrel
          by_cases hli : i < X.length
          · have hii : (i : Int) < (X.length : Int) := by omega
            obtain ⟨g, off, rfl, hg, hc⟩ := HRX.out _ hbq (by omega)
            obtain ⟨d0, d1⟩ := hc i hli
            have HCX : Hid (∀ wx, Below u7.heap.size u7 wx → wx.cell? ⟨g, off + i * 2, none⟩ = some (.string (hnat X i).text) ∧ wx.cell? ⟨g, off + i * 2 + 1, none⟩ = some (.int .i64 (hnat X i).weight)) := fun wx h => by
              obtain ⟨g', off', e, _, hc'⟩ := HRX.out wx h (by omega)
              cases e
              exact hc' i hli
            have HW : Hid (wasTo X t (i + 1) = if ((hnat X i).text.toList == t.toList) = true then (hnat X i).weight else wasTo X t i) := rfl
            have HS : Hid (sameTo L X t (i + 1) = sameTo L X t i + cntT L t (hnat X i) L.length) := rfl
            have HCT : Hid (∀ k, cntT L t (hnat X i) (k + 1) = cntT L t (hnat X i) k + if (hnEq (hnat L k) (hnat X i) && !((hnat X i).text.toList == t.toList)) = true then 1 else 0) := fun k => cntT_step L t (hnat X i) k
            have hsb : sameTo L X t i ≤ 110 := by
              have := sameTo_le L X t i
              have h2 : i * L.length ≤ 10 * 10 := Nat.mul_le_mul (by omega) hL10
              omega
            have HCL : Hid (∀ k, cntT L t (hnat X i) k ≤ k) := fun k => cntT_le _ _ _ _
            have HC0 : Hid (cntT L t (hnat X i) 0 = 0) := by
              have := cntT_le L t (hnat X i) 0
              unfold Hid
              omega
            generalize hnat X i = y at *
            obtain ⟨ty, xy⟩ := y
            simp only at d0 d1 HW HCX HCT
            obtain ⟨S0, hS0⟩ : ∃ S0, sameTo L X t i = S0 := ⟨_, rfl⟩
            rw [hS0] at HS hsb
            rw [hS0]
            clear hS0 hc
            cases he : (ty.toList == t.toList)
            all_goals
              rw [he] at HW HCT
              go_wp2
              go_loopw [13, 15] (fun vs vk wz => ∃ k : Nat, k ≤ L.length ∧ vk = .int .i64 k ∧ vs = .int .i64 ((S0 + cntT L t ⟨ty, xy⟩ k : Nat) : Int) ∧ Below u7.heap.size u7 wz) (fun _ vk _ => L.length - (intOf vk).toNat)
              case atStart => exact ⟨0, Nat.zero_le _, rfl, by rw [HC0.out]; rfl, hbq⟩
              case round =>
                rename World => wz
                clear hbq d0 d1
                obtain ⟨k, hk, rfl, rfl, hbz⟩ := hrel
                by_cases hlk : k < L.length
                · have hki : (k : Int) < (L.length : Int) := by omega
                  obtain ⟨gL, offL, e, hgL, hcL⟩ := HRL.out _ hbz (by omega)
                  cases e
                  obtain ⟨l0, l1⟩ := hcL k hlk
                  rw [Nat.zero_add] at l0 l1
                  obtain ⟨x0, x1⟩ := HCX.out _ hbz
                  have hct := HCT.out k
                  have hcl := HCL.out k
                  have heq := eqHn (hnat L k).text ty (hnat L k).weight xy
                  generalize hnat L k = lk at *
                  obtain ⟨tl, xl⟩ := lk
                  simp only at l0 l1 heq
                  obtain ⟨N, hN⟩ : ∃ N, cntT L t ⟨ty, xy⟩ k = N := ⟨_, rfl⟩
                  rw [hN] at hct hcl
                  rw [hN]
                  have HCK : Hid _ := hct
                  clear hcL hN hct
                  cases hq : hnEq ⟨tl, xl⟩ ⟨ty, xy⟩
                  all_goals
                    rw [hq] at heq HCK
                    go_wp2
                    go_quiet (fail)
                    go_wp2
                    go_roundw
                    case rel => exact ⟨k + 1, by omega, by go_num, by rw [HCK.out]; simp <;> go_num, below_drewN hbz _⟩
                    case measure => simp [intOf]; omega
                · have hke : k = L.length := by omega
                  subst hke
                  go_wp2
                  go_roundw
                  case rel => exact ⟨i + 1, by omega, by go_num, by rw [HW.out]; rfl, by rw [HS.out], hbz⟩
                  case measure => simp [intOf]; omega
          · have hie : i = X.length := by omega
            subst hie
            rw [HWAS.out, HSAME.out]
            clear HWAS HSAME
            go_wp2_with fail
            refine (hintsI_any p2 c2 X _ (by omega) HSX.out (HM7.out _ hbq) (HRX.out _ hbq)).mono ?_
            rintro e u8 ⟨rfl, hb8⟩
            rw [hBX]
            have hw8 := below_trans hw7 (below_trans hbq hb8)
            clear HRX HRL HM7 hbq hb8 hw7
            go_wp2
            go_ret
            exact ⟨rfl, hw8⟩
end Go.Proofs.YtgmfaganaeibkaaDoor
