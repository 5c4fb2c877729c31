/- The walk of the law FnHintLess. -/
import Derived.Test.YtgmfaganaeibkaaDoorWHintTwice
import Derived.Test.YtgmfaganaeibkaaDoorSortMath
import Derived.Test.YtgmfaganaeibkaaDoorHintFindI
import Derived.Test.YtgmfaganaeibkaaDoorHintFindS
namespace Go.Proofs.YtgmfaganaeibkaaDoor
open Go.RowKit
set_option linter.unusedVariables false

/-- How many of the first i are kept. -/
def nKept (M : List Hn) (p : Hn → Bool) (i : Nat) : Nat := ((M.take i).filter p).length
theorem nKept_le (M : List Hn) (p : Hn → Bool) (i : Nat) : nKept M p i ≤ i := by
  unfold nKept
  have h1 := List.length_filter_le p (M.take i)
  rw [List.length_take] at h1
  omega
theorem kept_yes {M : List Hn} {p : Hn → Bool} {i : Nat} (hi : i < M.length) (h : p (hnat M i) = true) : nKept M p i < (M.filter p).length ∧ hnat (M.filter p) (nKept M p i) = hnat M i ∧ nKept M p (i + 1) = nKept M p i + 1 := by
  have e : M.filter p = (M.take i).filter p ++ (hnat M i :: (M.drop (i + 1)).filter p) := by
    conv => lhs; rw [← List.take_append_drop i M]
    rw [List.filter_append, hnat_drop M i hi, List.filter_cons, if_pos h]
  refine ⟨by rw [e, List.length_append, List.length_cons]; unfold nKept; omega, ?_, ?_⟩
  · rw [e, hnat_right (by unfold nKept; exact Nat.le_refl _) (by rw [List.length_cons]; unfold nKept; omega)]
    unfold nKept
    rw [Nat.sub_self]
    rfl
  · unfold nKept
    rw [take_snoc _ _ hi, List.filter_append, List.length_append]
    simp [h]
theorem kept_no {M : List Hn} {p : Hn → Bool} {i : Nat} (hi : i < M.length) (h : p (hnat M i) = false) : nKept M p (i + 1) = nKept M p i ∧ ∀ n, n < (M.filter p).length → hnEq (hnat M i) (hnat (M.filter p) n) = false := by
  refine ⟨?_, fun n hn => ?_⟩
  · unfold nKept
    rw [take_snoc _ _ hi, List.filter_append, List.length_append]
    simp [h]
  · cases hq : hnEq (hnat M i) (hnat (M.filter p) n) with
    | false => rfl
    | true =>
      have e := hnEq_iff.1 hq
      have hm : hnat (M.filter p) n ∈ M.filter p := by rw [hnat_get _ _ hn]; exact List.getElem_mem hn
      have := (List.mem_filter.1 hm).2
      rw [← e, h] at this
      cases this
theorem kept_all (M : List Hn) (p : Hn → Bool) : nKept M p M.length = (M.filter p).length := by
  unfold nKept
  rw [List.take_of_length_le (Nat.le_refl _)]
theorem pre_cut {t : ByteArray} {q : Nat} (h : q ≤ t.size) : preB (t.extract 0 q) t = true := by
  have e : (t.extract 0 q).size = q := by rw [ByteArray.size_extract]; omega
  unfold preB
  rw [e]
  simp [h]
/-- HintFind, its answer as a row. -/
theorem findI_row (a : Option Addr) (cap : Nat) (hs : List Hn) (b : ByteArray) (m : Int) (w : World) (hz : hs.length ≤ 1048576) (hsm : HnsSmall hs) (hm : MaxL w) (hr : HnRow w a hs) :
    Calls Tryd.prog 18 #[.slice a hs.length cap, .string b, .int .i64 m] w fun e w' => ∃ p c, e = .returned (.slice p (FindR hs b m).length c) ∧ HnRow w' p (FindR hs b m) ∧ Below w.heap.size w w' := by
  refine (hintFindI_any a cap hs b m w hz hsm hm hr).mono ?_
  rintro e w' ⟨v, rfl, ho, hb⟩
  obtain ⟨p, c, rfl, hr'⟩ := own_hns2 ho
  exact ⟨p, c, rfl, hr', hb⟩
theorem findS_row (a : Option Addr) (cap : Nat) (hs : List Hn) (b : ByteArray) (m : Int) (w : World) (hz : hs.length ≤ 1048576) (hsm : HnsSmall hs) (hr : HnRow w a hs) :
    Calls Tryd.prog 19 #[.slice a hs.length cap, .string b, .int .i64 m] w fun e w' => ∃ p c, e = .returned (.slice p (FindR hs b m).length c) ∧ HnRow w' p (FindR hs b m) ∧ Below w.heap.size w w' := by
  refine (hintFindS_any a cap hs b m w hz hsm hr).mono ?_
  rintro e w' ⟨g, c, rfl, ho, hb⟩
  obtain ⟨p, c', e', hr'⟩ := own_hns2 ho
  injection e' with e1 _ e2
  subst e1
  exact ⟨_, c, rfl, hr', hb⟩
set_option maxRecDepth 100000 in
set_option maxHeartbeats 4000000 in
theorem wFnHintLess (a0 : Option Addr) (len0 cap0 : Nat) (w : World) (hm : MaxL w) (b0 : BytesIn w a0 len0 cap0) :
    Calls Tryd.prog 7 #[.slice a0 len0 cap0] w fun e w' => e = .returned (.bool true) ∧ Below w.heap.size w w' := by
  have m0 := b0.le
  have m1 := b0.max
  unfold maxLen at m1
  by_cases hbig0 : 1048576 < (len0 : Int)
  · clear b0 hm
    go_enter Tryd.func7, Tryd.ntmps7
    go_wp2
    go_ret
    exact ⟨rfl, Below.refl _ _⟩
  have HM : Hid (∀ wx, Below w.heap.size w wx → MaxL wx) := fun wx h => hm.below h
  clear hm
  go_enter Tryd.func7, Tryd.ntmps7
  go_wp2_with fail
  refine (drawHintFind_any _ _ _ _ b0).mono ?_
  rintro e u1 ⟨G, C, L, t, x, rfl, hL, ht, hx, hD, hb1⟩
  have HSM : Hid (HnsSmall L) := hD.2.1
  have HR : Hid (∀ wx, Below u1.heap.size u1 wx → HnRow wx (some ⟨G, 0, none⟩) L) := fun wx h => hD.row.below h
  have HMU : Hid (∀ wx, Below u1.heap.size u1 wx → MaxL wx) := fun wx h => HM.out wx (below_trans hb1 h)
  have hl1 := findR_len L t 10
  clear hD b0 HM
  go_wp2_with fail
  refine (findI_row (some ⟨G, 0, none⟩) C L t 10 u1 (by omega) HSM.out (HMU.out _ (Below.refl _ _)) (HR.out _ (Below.refl _ _))).mono ?_
  rintro e u2 ⟨p2, c2, rfl, r2, hb2⟩
  go_wp2_with fail
  refine (findS_row (some ⟨G, 0, none⟩) C L t 10 u2 (by omega) HSM.out (HR.out _ hb2)).mono ?_
  rintro e u3 ⟨p3, c3, rfl, q3, hb3⟩
  have r3 := r2.below hb3
  have hb13 := below_trans hb2 hb3
  clear r2 hb2 hb3
  go_wp2_with fail
  refine (sdHints_same p2 p3 c2 c3 _ _ (by omega) r3 q3).mono ?_
  rintro e u4 ⟨rfl, hb4⟩
  have r4 := r3.below hb4
  have hb14 := below_trans hb13 hb4
  clear r3 q3 hb13 hb4
  by_cases ht0 : t.size = 0
  · have hte : t = ⟨#[]⟩ := ByteArray.ext (Array.eq_empty_of_size_eq_zero ht0)
    subst hte
    clear ht0
    go_wp2_with fail
    refine (findS_row (some ⟨G, 0, none⟩) C L _ 10 u4 (by omega) HSM.out (HR.out _ hb14)).mono ?_
    rintro e u5 ⟨p5, c5, rfl, q5, hb5⟩
    have r5 := r4.below hb5
    go_wp2_with fail
    refine (sdHints_same p2 p5 c2 c5 _ _ (by omega) r5 q5).mono ?_
    rintro e u6 ⟨rfl, hb6⟩
    clear r4 r5 q5
    go_wp2
    go_ret
    exact ⟨rfl, below_trans hb1 (below_trans hb14 (below_trans hb5 hb6))⟩
  · have hte : t.toList.isEmpty = false := by
      rw [ByteArray.toList_eq]
      cases h : t.data.toList with
      | nil =>
        exfalso
        apply ht0
        show t.data.size = 0
        rw [← Array.length_toList, h]
        rfl
      | cons a l => rfl
    have hte2 : (t.toList == []) = false := by
      cases h : t.toList with
      | nil => rw [h] at hte; cases hte
      | cons a l => rfl
    obtain ⟨q, hq⟩ : ∃ q, t.size = q + 1 := ⟨t.size - 1, by omega⟩
    have hqi : ((t.size : Int) - 1).toNat = q := by omega
    have hq1 : (0 : Int) ≤ (t.size : Int) - 1 := by omega
    have hq2 : (t.size : Int) - 1 ≤ (t.size : Int) := by omega
    have HX : Hid (FindR L t 10 = (FindR L (t.extract 0 q) 10).filter fun h => preB t h.text) := findR_less (pre_cut (by omega))
    have hl2 := findR_len L (t.extract 0 q) 10
    clear hq ht0
    go_wp2_with fail
    refine (findI_row (some ⟨G, 0, none⟩) C L (t.extract 0 q) 10 u4 (by omega) HSM.out (HMU.out _ hb14) (HR.out _ hb14)).mono ?_
    rintro e u5 ⟨p5, c5, rfl, q5, hb5⟩
    have r5 := r4.below hb5
    have hw5 := below_trans hb1 (below_trans hb14 hb5)
    clear r4 hb14 hb5 hqi hq1 hq2 HR HMU hb1
    generalize FindR L (t.extract 0 q) 10 = M at *
    generalize FindR L t 10 = X at *
    have hXl : X.length = (M.filter fun h => preB t h.text).length := by rw [HX.out]
    have HALL : Hid (((nKept M (fun h => preB t h.text) M.length : Nat) : Int) = (X.length : Int)) := by unfold Hid; rw [kept_all, hXl]
    have HRX : Hid (∀ wx, Below u5.heap.size u5 wx → HnRow wx p2 X) := fun wx h => r5.below h
    have HRM : Hid (∀ wx, Below u5.heap.size u5 wx → HnRow wx p5 M) := fun wx h => q5.below h
    have HKY : Hid (∀ i, i < M.length → preB t (hnat M i).text = true → nKept M (fun h => preB t h.text) i < X.length ∧ hnat X (nKept M (fun h => preB t h.text) i) = hnat M i ∧ nKept M (fun h => preB t h.text) (i + 1) = nKept M (fun h => preB t h.text) i + 1) := fun i hi h => by
      rw [HX.out]
      exact kept_yes (p := fun h => preB t h.text) hi h
    have HKN : Hid (∀ i, i < M.length → preB t (hnat M i).text = false → nKept M (fun h => preB t h.text) (i + 1) = nKept M (fun h => preB t h.text) i ∧ ∀ n, n < X.length → hnEq (hnat M i) (hnat X n) = false) := fun i hi h => by
      rw [HX.out]
      exact kept_no (p := fun h => preB t h.text) hi h
    have HKL : Hid (∀ i, nKept M (fun h => preB t h.text) i ≤ i) := fun i => nKept_le _ _ i
    have HK0 : Hid (nKept M (fun h => preB t h.text) 0 = 0) := by have := nKept_le M (fun h => preB t h.text) 0; unfold Hid; omega
    generalize nKept M (fun h => preB t h.text) = N at *
    clear r5 q5 hXl HX
    go_wp2
    go_loopw [8, 9] (fun vn vi wr => ∃ i : Nat, i ≤ M.length ∧ vi = .int .i64 i ∧ vn = .int .i64 (N i : Nat) ∧ Below u5.heap.size u5 wr) (fun _ vi _ => M.length - (intOf vi).toNat)
    case atStart => exact ⟨0, Nat.zero_le _, rfl, by rw [HK0.out]; rfl, Below.refl _ _⟩
    case round =>
      obtain ⟨i, hi, rfl, rfl, hbr⟩ := hrel
      have hNl := HKL.out i
      by_cases hlt : i < M.length
      · have hii : (i : Int) < (M.length : Int) := by omega
        obtain ⟨g, off, rfl, hg, hc⟩ := HRM.out _ hbr (by omega)
        obtain ⟨d0, d1⟩ := hc i hlt
        have hKY := HKY.out i hlt
        have hKN := HKN.out i hlt
        generalize hnat M i = y at *
        obtain ⟨ty, xy⟩ := y
        simp only at d0 d1 hKY
        clear hc
        cases hp : preB t ty with
        | true =>
          obtain ⟨k1, k2, k3⟩ := hKY hp
          obtain ⟨g2, off2, rfl, hg2, hc2⟩ := HRX.out _ hbr (by omega)
          obtain ⟨l0, l1⟩ := hc2 (N i) k1
          rw [k2] at l0 l1
          have HN1 : Hid (N (i + 1) = N i + 1) := k3
          generalize N i = n at *
          have hni : (n : Int) < (X.length : Int) := by omega
          have heq := eqHn ty ty xy xy
          rw [hnEq_self] at heq
          simp only at l0 l1
          clear hKY hKN hc2 k2 k3
          go_wp2
          go_quiet (fail)
          go_wp2
          go_roundw
          case rel => exact ⟨i + 1, by omega, by go_num, by rw [HN1.out]; go_num, below_drewN hbr _⟩
          case measure => simp [intOf]; omega
        | false =>
          obtain ⟨k3, k4⟩ := hKN hp
          have HN1 : Hid (N (i + 1) = N i) := k3
          by_cases hn : N i < X.length
          · obtain ⟨g2, off2, rfl, hg2, hc2⟩ := HRX.out _ hbr (by omega)
            obtain ⟨l0, l1⟩ := hc2 (N i) hn
            have hq := k4 (N i) hn
            have heq := eqHn ty (hnat X (N i)).text xy (hnat X (N i)).weight
            generalize hnat X (N i) = z at *
            obtain ⟨tz, xz⟩ := z
            simp only at l0 l1 heq
            rw [hq] at heq
            generalize N i = n at *
            have hni : (n : Int) < (X.length : Int) := by omega
            clear hKY hKN hc2 k3 k4 hq
            go_wp2
            go_quiet (fail)
            go_wp2
            go_roundw
            case rel => exact ⟨i + 1, by omega, by go_num, by rw [HN1.out], below_drewN hbr _⟩
            case measure => simp [intOf]; omega
          · generalize N i = n at *
            have hni : decide ((n : Int) < (X.length : Int)) = false := decide_eq_false (by omega)
            have hni2 : decide (n < X.length) = false := decide_eq_false hn
            clear hKY hKN k3 k4
            go_wp2
            go_quiet (fail)
            go_wp2
            go_roundw
            case rel => exact ⟨i + 1, by omega, by go_num, by rw [HN1.out], below_drewN hbr _⟩
            case measure => simp [intOf]; omega
      · have hie : i = M.length := by omega
        subst hie
        rw [HALL.out]
        go_wp2
        go_ret
        exact ⟨rfl, below_trans hw5 hbr⟩
end Go.Proofs.YtgmfaganaeibkaaDoor
