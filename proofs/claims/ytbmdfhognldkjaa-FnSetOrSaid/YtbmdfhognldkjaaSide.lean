/- sideBySide tells each number of two sets once, ascending, with its owners. -/
import Derived.Test.YtbmdfhognldkjaaNextAny
import Derived.RangeFuncNested
import Derived.RangeFuncLeaves
import Derived.Shelf.RegionOpen
namespace Go.Proofs.Ytbmdfhognldkjaa
open Go.RowKit Go.Shelf
attribute [local go_sem] Oper.semAt_some

theorem mg_l (zs ys : List Int) (i j : Nat) (hi : i < zs.length) (hj : ¬ j < ys.length) : mg (zs.drop i) (ys.drop j) = (nth zs i, true, false) :: mg (zs.drop (i + 1)) (ys.drop j) := by
  rw [List.drop_eq_getElem_cons hi, show ys.drop j = [] from List.drop_eq_nil_of_le (by omega), nth_get zs i hi, mg]
theorem mg_r (zs ys : List Int) (i j : Nat) (hi : ¬ i < zs.length) (hj : j < ys.length) : mg (zs.drop i) (ys.drop j) = (nth ys j, false, true) :: mg (zs.drop i) (ys.drop (j + 1)) := by
  rw [List.drop_eq_getElem_cons hj, show zs.drop i = [] from List.drop_eq_nil_of_le (by omega), nth_get ys j hj, mg]
theorem mg_lt (zs ys : List Int) (i j : Nat) (hi : i < zs.length) (hj : j < ys.length) (h : nth zs i < nth ys j) : mg (zs.drop i) (ys.drop j) = (nth zs i, true, false) :: mg (zs.drop (i + 1)) (ys.drop j) := by
  rw [nth_get zs i hi, nth_get ys j hj] at h
  rw [List.drop_eq_getElem_cons hi, List.drop_eq_getElem_cons hj, nth_get zs i hi, mg, if_pos h]
theorem mg_gt (zs ys : List Int) (i j : Nat) (hi : i < zs.length) (hj : j < ys.length) (h : nth ys j < nth zs i) : mg (zs.drop i) (ys.drop j) = (nth ys j, false, true) :: mg (zs.drop i) (ys.drop (j + 1)) := by
  rw [nth_get zs i hi, nth_get ys j hj] at h
  rw [List.drop_eq_getElem_cons hi, List.drop_eq_getElem_cons hj, nth_get ys j hj, mg, if_neg (by omega), if_pos h]
theorem mg_eq (zs ys : List Int) (i j : Nat) (hi : i < zs.length) (hj : j < ys.length) (h : nth zs i = nth ys j) : mg (zs.drop i) (ys.drop j) = (nth zs i, true, true) :: mg (zs.drop (i + 1)) (ys.drop (j + 1)) := by
  rw [nth_get zs i hi, nth_get ys j hj] at h
  rw [List.drop_eq_getElem_cons hi, List.drop_eq_getElem_cons hj, nth_get zs i hi, mg, if_neg (by omega), if_neg (by omega)]

def atOf (V : World) (k : Nat) : Nat := match V.cell? ⟨k, 0, none⟩ with | some (.int _ z) => z.toNat | _ => 0
def bitOf : Value → Nat
  | .bool true => 1
  | _ => 0
theorem atOf_boxed {V : World} {k : Nat} {t : TypeId} {n : Nat} (h : Boxed V k t (.int .i64 (n : Int))) : atOf V k = n := by
  unfold atOf
  rw [h.cell]
  simp
def measS (S n m : Nat) (ma mb : Value) (V : World) : Nat := (n - atOf V (S + 1)) + bitOf ma + ((m - atOf V (S + 3)) + bitOf mb)
theorem St.meas {n₀ S : Nat} {a b : Option Addr} {ca cb : Nat} {zs ys : List Int} {V : World} {i j : Nat} (h : St n₀ S a b ca cb zs ys V (i + 1) (j + 1)) (hi : i ≤ zs.length) (hj : j ≤ ys.length) :
    measS S zs.length ys.length (.bool (decide (i < zs.length))) (.bool (decide (j < ys.length))) V = (zs.length - i) + (ys.length - j) := by
  unfold measS
  rw [atOf_boxed h.ia, atOf_boxed h.ib]
  by_cases h1 : i < zs.length <;> by_cases h2 : j < ys.length <;> simp [h1, h2, bitOf] <;> omega

set_option maxRecDepth 100000 in
set_option maxHeartbeats 12000000 in
theorem side_all (l Ba Bb n₀ : Nat) (a b : Option Addr) (ca cb : Nat) (zs ys : List Int) (hz : zs.length ≤ 1048576) (hy : ys.length ≤ 1048576) (J : List (Int × Bool × Bool) → World → Prop)
    (W : World) (hn0 : n₀ ≤ W.heap.size) (hJ : ∀ pre X Y, J pre X → Below X.heap.size X Y → J pre Y)
    (hJs : ∀ pre X Y k, W.heap.size ≤ k → k < W.heap.size + 4 → Stepped k X Y → J pre X → J pre Y)
    (hY : ∀ pre x W1, J pre W1 → W.heap.size + 4 ≤ W1.heap.size → pre.length < (mg zs ys).length → YieldAt Fence.wide 2 Try.prog l (encT x) W1 fun e W' => e = .returned (.bool true) ∧ J (pre ++ [x]) W' ∧ Kz n₀ W.heap.size W1 W')
    (hra : RowLow n₀ W a zs) (hrb : RowLow n₀ W b ys)
    (hca : W.cell? ⟨Ba, 0, none⟩ = some (.slice a zs.length ca)) (hcb : W.cell? ⟨Bb, 0, none⟩ = some (.slice b ys.length cb)) (hBb : Bb < W.heap.size) (h0 : J [] W) :
    CallsIn Fence.wide 3 Try.prog 52 #[.func (.yield l) #[] #[], .pointer (some ⟨Ba, 0, none⟩), .pointer (some ⟨Bb, 0, none⟩)] W fun e W' => (∃ v, e = .returned v) ∧ J (mg zs ys) W' := by
  have HJ : Hid (∀ pre X Y, J pre X → Below X.heap.size X Y → J pre Y) := hJ
  have HJS : Hid (∀ pre X Y k, W.heap.size ≤ k → k < W.heap.size + 4 → Stepped k X Y → J pre X → J pre Y) := hJs
  have HY : Hid (∀ pre x W1, J pre W1 → W.heap.size + 4 ≤ W1.heap.size → pre.length < (mg zs ys).length → YieldAt Fence.wide 2 Try.prog l (encT x) W1 fun e W' => e = .returned (.bool true) ∧ J (pre ++ [x]) W' ∧ Kz n₀ W.heap.size W1 W') := hY
  have HRA : Hid (RowLow n₀ W a zs) := hra
  have HRB : Hid (RowLow n₀ W b ys) := hrb
  clear hJ hJs hY hra hrb
  refine callsIn_of_wp Try.func52 rfl trivial ?_ rfl
  simp only [Try.ntmps52, List.size_toArray, List.length_cons, List.length_nil, Nat.reduceAdd, Nat.reduceSub, Array.replicate_succ, Array.replicate_zero, List.push_toArray, List.append_toArray, List.nil_append, List.cons_append]
  have hmix : Try.prog.follows .mixedOrders = true := by kernel_rfl
  gi_wp2
  gi_region_with_o (first | (refine ⟨trivial, ?_⟩; gi_at_call 53; refine (callsIn_wide.2 (oneByOne_any a zs.length ca _)).mono ?_; rintro e V1 ⟨rfl, b1, b2, s1, q1d⟩; have q1 : Below W.heap.size W V1 := ⟨q1d.os, q1d.tape, q1d.output, q1d.size, q1d.block⟩; clear q1d; replace b1 : Boxed V1 W.heap.size 23 (.slice a zs.length ca) := b1; replace b2 : Boxed V1 (W.heap.size + 1) 3 (.int .i64 0) := b2; replace s1 : V1.heap.size = W.heap.size + 2 := s1; have hcb1 := (q1.cell (p := ⟨Bb, 0, none⟩) hBb).trans hcb) | (refine ⟨trivial, ?_⟩; gi_at_call 53; refine (callsIn_wide.2 (oneByOne_any b ys.length cb _)).mono ?_; rintro e V2 ⟨rfl, b3, b4, s2, q2⟩))
  all_goals
    rw [s1] at b3 b4
    have st0 : St n₀ W.heap.size a b ca cb zs ys V2 0 0 :=
      ⟨(q2.block _ (by omega)).trans b1, by rw [Nat.zero_min]; exact (q2.block _ (by omega)).trans b2, b3, by rw [Nat.zero_min]; exact b4, HRA.out.keep ((q1.mono hn0).trans (q2.mono (by omega))), HRB.out.keep ((q1.mono hn0).trans (q2.mono (by omega))), by omega⟩
    have hJ2 : J [] V2 := HJ.out _ _ _ (HJ.out _ _ _ h0 q1) q2
    have ia2 : Boxed V2 (W.heap.size + 1) 3 (.int .i64 ((0 : Nat) : Int)) := by have h := st0.ia; rwa [Nat.zero_min] at h
    have ib2 : Boxed V2 (W.heap.size + 3) 3 (.int .i64 ((0 : Nat) : Int)) := by have h := st0.ib; rwa [Nat.zero_min] at h
    clear b1 b2 b3 b4 q1 q2 hca hcb hcb1 h0
    try rw [s1]
    gi_wp2_with (refine ⟨trivial, ?_⟩; gi_at_call 54; refine (callsIn_wide.2 (next_any (W.heap.size + 1) W.heap.size a ca 0 zs n₀ V2 (by omega) st0.ra (by omega) (by omega) ia2 st0.la (by omega))).mono ?_)
    rintro e V4 ⟨rfl, bx4, sp4⟩
    have st4 := st0.stepA hn0 sp4 bx4
    have hJ4 := HJS.out _ _ _ _ (by omega) (by omega) sp4 hJ2
    have ib4 : Boxed V4 (W.heap.size + 3) 3 (.int .i64 ((0 : Nat) : Int)) := (sp4.block (k := W.heap.size + 3) (by omega)).trans ib2
    clear st0 hJ2 ia2 ib2 bx4 sp4
    gi_wp2_with (refine ⟨trivial, ?_⟩; gi_at_call 54; refine (callsIn_wide.2 (next_any (W.heap.size + 3) (W.heap.size + 2) b cb 0 ys n₀ V4 (by omega) st4.rb (by omega) (by omega) ib4 st4.lb (by omega))).mono ?_)
    rintro e V5 ⟨rfl, bx5, sp5⟩
    have st5 := st4.stepB hn0 sp5 bx5
    have hJ5 := HJS.out _ _ _ _ (by omega) (by omega) sp5 hJ4
    clear st4 hJ4 ib4 bx5 sp5 s1 s2
    have HST5 : Hid (St n₀ W.heap.size a b ca cb zs ys V5 (0 + 1) (0 + 1)) := st5
    clear st5
    gi_wp2
    gi_loopw [6, 7, 8, 9] (fun x ma y mb wr => ∃ (i j : Nat) (pre : List (Int × Bool × Bool)), x = .int .i64 (nth zs i) ∧ ma = .bool (decide (i < zs.length)) ∧ y = .int .i64 (nth ys j) ∧ mb = .bool (decide (j < ys.length)) ∧ i ≤ zs.length ∧ j ≤ ys.length ∧ pre ++ mg (zs.drop i) (ys.drop j) = mg zs ys ∧ J pre wr ∧ St n₀ W.heap.size a b ca cb zs ys wr (i + 1) (j + 1)) (fun _ ma _ mb wr => measS W.heap.size zs.length ys.length ma mb wr)
    case atStart => exact ⟨0, 0, [], rfl, rfl, rfl, rfl, Nat.zero_le _, Nat.zero_le _, by simp, hJ5, HST5.out⟩
    case round =>
      obtain ⟨i, j, pre, rfl, rfl, rfl, rfl, hi, hj, hpre, hJr, st⟩ := hrel
      have HP : Hid (pre ++ mg (zs.drop i) (ys.drop j) = mg zs ys) := hpre
      clear hpre HST5 hJ5
      by_cases hiA : i < zs.length
      · by_cases hjB : j < ys.length
        · rcases Int.lt_trichotomy (nth zs i) (nth ys j) with hc | hc | hc
          · have HM : Hid ((pre ++ [(nth zs i, true, false)]) ++ mg (zs.drop (i + 1)) (ys.drop j) = mg zs ys) := by unfold Hid; rw [← HP.out, mg_lt zs ys i j hiA hjB hc]; simp
            have hlen : pre.length < (mg zs ys).length := by rw [← HM.out]; simp
            have dA : decide (i < zs.length) = true := by simp; omega
            have dB : decide (j < ys.length) = true := by simp; omega
            have hme := st.meas hi hj
            rw [dA, dB] at hme
            have HME : Hid (_ = _) := hme
            clear hme
            obtain ⟨fn, tmps, assign, body, hy, hR⟩ := HY.out pre (nth zs i, true, false) (wr.alloc (.cells #[.bool true, .bool false] 42)) (HJ.out _ _ _ hJr ((Below.refl _ wr).alloc (Nat.le_refl _) _)) (by have := st.sz; simp; omega) hlen
            simp only [encT] at hy
            have k1 : decide (nth zs i ≤ nth ys j) = true := by simp; omega
            have k2 : decide (nth ys j ≤ nth zs i) = false := by simp; omega
            clear hc
            have HST : Hid (St n₀ W.heap.size a b ca cb zs ys wr (i + 1) (j + 1)) := st
            have ssz := st.sz
            clear st
            simp only [dA, dB]
            gi_wp2
            refine hR.mono ?_
            rintro e V3 ⟨rfl, hJ3, hk3⟩
            have st3 := (HST.out.alloc hn0 (.cells #[.bool true, .bool false] 42)).kept hk3
            have o3 : Own2 V3 wr.heap.size true false := (hk3.own _ _ (by omega) (heap_alloc_new wr _)).trans (heap_alloc_new wr _)
            have oc0 := o3.c0
            have oc1 := o3.c1
            clear hR hy hk3
            have ia3 : Boxed V3 (W.heap.size + 1) 3 (.int .i64 ((i + 1 : Nat) : Int)) := by have h := st3.ia; rwa [show min (i + 1) zs.length = i + 1 from by omega] at h
            gi_wp2_with (refine ⟨trivial, ?_⟩; gi_at_call 54; refine (callsIn_wide.2 (next_any (W.heap.size + 1) W.heap.size a ca (i + 1) zs n₀ V3 (by omega) st3.ra (by omega) (by omega) ia3 st3.la (by omega))).mono ?_)
            rintro e V4 ⟨rfl, bx4, sp4⟩
            have st4 := st3.stepA hn0 sp4 bx4
            have hJ4 := HJS.out _ _ _ _ (by omega) (by omega) sp4 hJ3
            have oc14 : V4.cell? ⟨wr.heap.size, 1, none⟩ = some (.bool false) := by rw [← oc1]; exact World.cell?_of_block (sp4.block (k := wr.heap.size) (by omega))
            clear oc0 oc1 ia3 bx4 sp4 st3 hJ3 o3
            gi_wp2
            go_roundw
            case rel => exact ⟨(i + 1), j, pre ++ [(nth zs i, true, false)], rfl, by first | rfl | rw [dA], rfl, by first | rfl | rw [dB], by omega, by omega, HM.out, hJ4, st4⟩
            case measure => have e1 := st4.meas (i := (i + 1)) (j := j) (by omega) (by omega); have e2 := HME.out; rw [dB] at e1; simp at e1 e2 ⊢; omega
          · have HM : Hid ((pre ++ [(nth zs i, true, true)]) ++ mg (zs.drop (i + 1)) (ys.drop (j + 1)) = mg zs ys) := by unfold Hid; rw [← HP.out, mg_eq zs ys i j hiA hjB hc]; simp
            have hlen : pre.length < (mg zs ys).length := by rw [← HM.out]; simp
            have dA : decide (i < zs.length) = true := by simp; omega
            have dB : decide (j < ys.length) = true := by simp; omega
            have hme := st.meas hi hj
            rw [dA, dB] at hme
            have HME : Hid (_ = _) := hme
            clear hme
            obtain ⟨fn, tmps, assign, body, hy, hR⟩ := HY.out pre (nth zs i, true, true) (wr.alloc (.cells #[.bool true, .bool true] 42)) (HJ.out _ _ _ hJr ((Below.refl _ wr).alloc (Nat.le_refl _) _)) (by have := st.sz; simp; omega) hlen
            simp only [encT] at hy
            have k1 : decide (nth zs i ≤ nth ys j) = true := by simp; omega
            have k2 : decide (nth ys j ≤ nth zs i) = true := by simp; omega
            clear hc
            have HST : Hid (St n₀ W.heap.size a b ca cb zs ys wr (i + 1) (j + 1)) := st
            have ssz := st.sz
            clear st
            simp only [dA, dB]
            gi_wp2
            refine hR.mono ?_
            rintro e V3 ⟨rfl, hJ3, hk3⟩
            have st3 := (HST.out.alloc hn0 (.cells #[.bool true, .bool true] 42)).kept hk3
            have o3 : Own2 V3 wr.heap.size true true := (hk3.own _ _ (by omega) (heap_alloc_new wr _)).trans (heap_alloc_new wr _)
            have oc0 := o3.c0
            have oc1 := o3.c1
            clear hR hy hk3
            have ia3 : Boxed V3 (W.heap.size + 1) 3 (.int .i64 ((i + 1 : Nat) : Int)) := by have h := st3.ia; rwa [show min (i + 1) zs.length = i + 1 from by omega] at h
            have ib3 : Boxed V3 (W.heap.size + 3) 3 (.int .i64 ((j + 1 : Nat) : Int)) := by have h := st3.ib; rwa [show min (j + 1) ys.length = j + 1 from by omega] at h
            gi_wp2_with (refine ⟨trivial, ?_⟩; gi_at_call 54; refine (callsIn_wide.2 (next_any (W.heap.size + 1) W.heap.size a ca (i + 1) zs n₀ V3 (by omega) st3.ra (by omega) (by omega) ia3 st3.la (by omega))).mono ?_)
            rintro e V4 ⟨rfl, bx4, sp4⟩
            have st4 := st3.stepA hn0 sp4 bx4
            have hJ4 := HJS.out _ _ _ _ (by omega) (by omega) sp4 hJ3
            have oc14 : V4.cell? ⟨wr.heap.size, 1, none⟩ = some (.bool true) := by rw [← oc1]; exact World.cell?_of_block (sp4.block (k := wr.heap.size) (by omega))
            have ib4 : Boxed V4 (W.heap.size + 3) 3 (.int .i64 ((j + 1 : Nat) : Int)) := (sp4.block (k := W.heap.size + 3) (by omega)).trans ib3
            clear oc0 oc1 ia3 bx4 sp4 st3 hJ3 o3 ib3
            gi_wp2_with (refine ⟨trivial, ?_⟩; gi_at_call 54; refine (callsIn_wide.2 (next_any (W.heap.size + 3) (W.heap.size + 2) b cb (j + 1) ys n₀ V4 (by omega) st4.rb (by omega) (by omega) ib4 st4.lb (by omega))).mono ?_)
            rintro e V5 ⟨rfl, bx5, sp5⟩
            have st5 := st4.stepB hn0 sp5 bx5
            have hJ5 := HJS.out _ _ _ _ (by omega) (by omega) sp5 hJ4
            gi_wp2
            go_roundw
            case rel => exact ⟨(i + 1), (j + 1), pre ++ [(nth zs i, true, true)], rfl, by first | rfl | rw [dA], rfl, by first | rfl | rw [dB], by omega, by omega, HM.out, hJ5, st5⟩
            case measure => have e1 := st5.meas (i := (i + 1)) (j := (j + 1)) (by omega) (by omega); have e2 := HME.out; simp at e1 e2 ⊢; omega
          · have HM : Hid ((pre ++ [(nth ys j, false, true)]) ++ mg (zs.drop i) (ys.drop (j + 1)) = mg zs ys) := by unfold Hid; rw [← HP.out, mg_gt zs ys i j hiA hjB hc]; simp
            have hlen : pre.length < (mg zs ys).length := by rw [← HM.out]; simp
            have dA : decide (i < zs.length) = true := by simp; omega
            have dB : decide (j < ys.length) = true := by simp; omega
            have hme := st.meas hi hj
            rw [dA, dB] at hme
            have HME : Hid (_ = _) := hme
            clear hme
            obtain ⟨fn, tmps, assign, body, hy, hR⟩ := HY.out pre (nth ys j, false, true) (wr.alloc (.cells #[.bool false, .bool true] 42)) (HJ.out _ _ _ hJr ((Below.refl _ wr).alloc (Nat.le_refl _) _)) (by have := st.sz; simp; omega) hlen
            simp only [encT] at hy
            have k1 : decide (nth zs i ≤ nth ys j) = false := by simp; omega
            have k2 : decide (nth ys j ≤ nth zs i) = true := by simp; omega
            clear hc
            have HST : Hid (St n₀ W.heap.size a b ca cb zs ys wr (i + 1) (j + 1)) := st
            have ssz := st.sz
            clear st
            simp only [dA, dB]
            gi_wp2
            refine hR.mono ?_
            rintro e V3 ⟨rfl, hJ3, hk3⟩
            have st3 := (HST.out.alloc hn0 (.cells #[.bool false, .bool true] 42)).kept hk3
            have o3 : Own2 V3 wr.heap.size false true := (hk3.own _ _ (by omega) (heap_alloc_new wr _)).trans (heap_alloc_new wr _)
            have oc0 := o3.c0
            have oc1 := o3.c1
            clear hR hy hk3
            have ib3 : Boxed V3 (W.heap.size + 3) 3 (.int .i64 ((j + 1 : Nat) : Int)) := by have h := st3.ib; rwa [show min (j + 1) ys.length = j + 1 from by omega] at h
            gi_wp2_with (refine ⟨trivial, ?_⟩; gi_at_call 54; refine (callsIn_wide.2 (next_any (W.heap.size + 3) (W.heap.size + 2) b cb (j + 1) ys n₀ V3 (by omega) st3.rb (by omega) (by omega) ib3 st3.lb (by omega))).mono ?_)
            rintro e V4 ⟨rfl, bx4, sp4⟩
            have st4 := st3.stepB hn0 sp4 bx4
            have hJ4 := HJS.out _ _ _ _ (by omega) (by omega) sp4 hJ3
            gi_wp2
            go_roundw
            case rel => exact ⟨i, (j + 1), pre ++ [(nth ys j, false, true)], rfl, by first | rfl | rw [dA], rfl, by first | rfl | rw [dB], by omega, by omega, HM.out, hJ4, st4⟩
            case measure => have e1 := st4.meas (i := i) (j := (j + 1)) (by omega) (by omega); have e2 := HME.out; rw [dA] at e1; simp at e1 e2 ⊢; omega
        · have HM : Hid ((pre ++ [(nth zs i, true, false)]) ++ mg (zs.drop (i + 1)) (ys.drop j) = mg zs ys) := by unfold Hid; rw [← HP.out, mg_l zs ys i j hiA hjB]; simp
          have hlen : pre.length < (mg zs ys).length := by rw [← HM.out]; simp
          have dA : decide (i < zs.length) = true := by simp; omega
          have dB : decide (j < ys.length) = false := by simp; omega
          have hme := st.meas hi hj
          rw [dA, dB] at hme
          have HME : Hid (_ = _) := hme
          clear hme
          obtain ⟨fn, tmps, assign, body, hy, hR⟩ := HY.out pre (nth zs i, true, false) (wr.alloc (.cells #[.bool true, .bool false] 42)) (HJ.out _ _ _ hJr ((Below.refl _ wr).alloc (Nat.le_refl _) _)) (by have := st.sz; simp; omega) hlen
          simp only [encT] at hy
          have HST : Hid (St n₀ W.heap.size a b ca cb zs ys wr (i + 1) (j + 1)) := st
          have ssz := st.sz
          clear st
          simp only [dA, dB]
          gi_wp2
          refine hR.mono ?_
          rintro e V3 ⟨rfl, hJ3, hk3⟩
          have st3 := (HST.out.alloc hn0 (.cells #[.bool true, .bool false] 42)).kept hk3
          have o3 : Own2 V3 wr.heap.size true false := (hk3.own _ _ (by omega) (heap_alloc_new wr _)).trans (heap_alloc_new wr _)
          have oc0 := o3.c0
          have oc1 := o3.c1
          clear hR hy hk3
          have ia3 : Boxed V3 (W.heap.size + 1) 3 (.int .i64 ((i + 1 : Nat) : Int)) := by have h := st3.ia; rwa [show min (i + 1) zs.length = i + 1 from by omega] at h
          gi_wp2_with (refine ⟨trivial, ?_⟩; gi_at_call 54; refine (callsIn_wide.2 (next_any (W.heap.size + 1) W.heap.size a ca (i + 1) zs n₀ V3 (by omega) st3.ra (by omega) (by omega) ia3 st3.la (by omega))).mono ?_)
          rintro e V4 ⟨rfl, bx4, sp4⟩
          have st4 := st3.stepA hn0 sp4 bx4
          have hJ4 := HJS.out _ _ _ _ (by omega) (by omega) sp4 hJ3
          have oc14 : V4.cell? ⟨wr.heap.size, 1, none⟩ = some (.bool false) := by rw [← oc1]; exact World.cell?_of_block (sp4.block (k := wr.heap.size) (by omega))
          clear oc0 oc1 ia3 bx4 sp4 st3 hJ3 o3
          gi_wp2
          go_roundw
          case rel => exact ⟨(i + 1), j, pre ++ [(nth zs i, true, false)], rfl, by first | rfl | rw [dA], rfl, by first | rfl | rw [dB], by omega, by omega, HM.out, hJ4, st4⟩
          case measure => have e1 := st4.meas (i := (i + 1)) (j := j) (by omega) (by omega); have e2 := HME.out; rw [dB] at e1; simp at e1 e2 ⊢; omega
      · by_cases hjB : j < ys.length
        · have HM : Hid ((pre ++ [(nth ys j, false, true)]) ++ mg (zs.drop i) (ys.drop (j + 1)) = mg zs ys) := by unfold Hid; rw [← HP.out, mg_r zs ys i j hiA hjB]; simp
          have hlen : pre.length < (mg zs ys).length := by rw [← HM.out]; simp
          have dA : decide (i < zs.length) = false := by simp; omega
          have dB : decide (j < ys.length) = true := by simp; omega
          have hme := st.meas hi hj
          rw [dA, dB] at hme
          have HME : Hid (_ = _) := hme
          clear hme
          obtain ⟨fn, tmps, assign, body, hy, hR⟩ := HY.out pre (nth ys j, false, true) (wr.alloc (.cells #[.bool false, .bool true] 42)) (HJ.out _ _ _ hJr ((Below.refl _ wr).alloc (Nat.le_refl _) _)) (by have := st.sz; simp; omega) hlen
          simp only [encT] at hy
          have HST : Hid (St n₀ W.heap.size a b ca cb zs ys wr (i + 1) (j + 1)) := st
          have ssz := st.sz
          clear st
          simp only [dA, dB]
          gi_wp2
          refine hR.mono ?_
          rintro e V3 ⟨rfl, hJ3, hk3⟩
          have st3 := (HST.out.alloc hn0 (.cells #[.bool false, .bool true] 42)).kept hk3
          have o3 : Own2 V3 wr.heap.size false true := (hk3.own _ _ (by omega) (heap_alloc_new wr _)).trans (heap_alloc_new wr _)
          have oc0 := o3.c0
          have oc1 := o3.c1
          clear hR hy hk3
          have ib3 : Boxed V3 (W.heap.size + 3) 3 (.int .i64 ((j + 1 : Nat) : Int)) := by have h := st3.ib; rwa [show min (j + 1) ys.length = j + 1 from by omega] at h
          gi_wp2_with (refine ⟨trivial, ?_⟩; gi_at_call 54; refine (callsIn_wide.2 (next_any (W.heap.size + 3) (W.heap.size + 2) b cb (j + 1) ys n₀ V3 (by omega) st3.rb (by omega) (by omega) ib3 st3.lb (by omega))).mono ?_)
          rintro e V4 ⟨rfl, bx4, sp4⟩
          have st4 := st3.stepB hn0 sp4 bx4
          have hJ4 := HJS.out _ _ _ _ (by omega) (by omega) sp4 hJ3
          gi_wp2
          go_roundw
          case rel => exact ⟨i, (j + 1), pre ++ [(nth ys j, false, true)], rfl, by first | rfl | rw [dA], rfl, by first | rfl | rw [dB], by omega, by omega, HM.out, hJ4, st4⟩
          case measure => have e1 := st4.meas (i := i) (j := (j + 1)) (by omega) (by omega); have e2 := HME.out; rw [dA] at e1; simp at e1 e2 ⊢; omega
        · have he : pre = mg zs ys := by
            have h := HP.out
            rw [List.drop_eq_nil_of_le (show zs.length ≤ i by omega), List.drop_eq_nil_of_le (show ys.length ≤ j by omega), mg, List.append_nil] at h
            exact h
          have dA : decide (i < zs.length) = false := by simp; omega
          have dB : decide (j < ys.length) = false := by simp; omega
          have hfin : J (mg zs ys) wr := by rw [← he]; exact hJr
          clear st he hJr HP
          simp only [dA, dB]
          gi_wp2
          go_end0
          exact ⟨⟨_, rfl⟩, hfin⟩
end Go.Proofs.Ytbmdfhognldkjaa
