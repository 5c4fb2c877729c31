/- slices.SortStableFunc over at most twenty hints: by weight, the greatest first. -/
import Derived.Test.YtgmfaganaeibkaaDoorFindDel
import Derived.BigRegion
import Derived.Test.YtgmfaganaeibkaaDoorStillOne
namespace Go.Proofs.YtgmfaganaeibkaaDoor
open Go.RowKit
set_option linter.unusedVariables false

/-- A row into which a hint goes leftward: it stands at j. -/
def rowL (out : List Hn) (h : Hn) (rest : List Hn) (j : Nat) : List Hn := out.take j ++ [h] ++ out.drop j ++ rest
theorem rowL_len {out : List Hn} {h : Hn} {rest : List Hn} {j : Nat} : (rowL out h rest j).length = out.length + 1 + rest.length := by
  have e : (out.take j ++ out.drop j).length = out.length := by rw [List.take_append_drop]
  rw [List.length_append] at e
  unfold rowL
  simp only [List.length_append, List.length_singleton]
  omega
theorem rowL_at {out : List Hn} {h : Hn} {rest : List Hn} {j : Nat} (hj : j ≤ out.length) : hnat (rowL out h rest j) j = h := by
  unfold hnat rowL
  rw [List.getD_eq_getElem?_getD, List.append_assoc, List.append_assoc, List.getElem?_append_right (by rw [List.length_take]; omega), List.length_take, Nat.min_eq_left hj, Nat.sub_self]
  rfl
theorem rowL_ahead {out : List Hn} {h : Hn} {rest : List Hn} {j : Nat} (hj : j + 1 ≤ out.length) : hnat (rowL out h rest (j + 1)) j = hnat out j := by
  unfold hnat rowL
  rw [List.getD_eq_getElem?_getD, List.getD_eq_getElem?_getD, List.append_assoc, List.append_assoc, List.getElem?_append_left (by rw [List.length_take]; omega), List.getElem?_take, if_pos (by omega)]
theorem hnat_drop (l : List Hn) (j : Nat) (h : j < l.length) : l.drop j = hnat l j :: l.drop (j + 1) := by
  rw [List.drop_eq_getElem_cons h, hnat_get _ _ h]
theorem rowL_swap {out : List Hn} {h : Hn} {rest : List Hn} {j : Nat} (hj : j + 1 ≤ out.length) : ((rowL out h rest (j + 1)).set (j + 1) (hnat out j)).set j h = rowL out h rest j := by
  unfold rowL
  have e1 : (out.take (j + 1)).length = j + 1 := by rw [List.length_take]; omega
  have e2 : (out.take j).length = j := by rw [List.length_take]; omega
  have e3 : out.take (j + 1) = out.take j ++ [hnat out j] := take_snoc _ _ (by omega)
  rw [hnat_drop out j (by omega), List.append_assoc, List.append_assoc, List.set_append_right _ _ (by omega), e1, Nat.sub_self, List.singleton_append, List.set_cons_zero, e3, List.append_assoc, List.set_append_right _ _ (by omega), e2, Nat.sub_self]
  simp
theorem hnCells_set2 : ∀ (hs : List Hn) (k : Nat) (y : Hn), k < hs.length → hnCells (hs.set k y) = ((hnCells hs).set (k * 2) (.string y.text)).set (k * 2 + 1) (.int .i64 y.weight)
  | [], k, y, h => absurd h (by simp)
  | c :: cs, 0, y, _ => by
    rw [List.set_cons_zero, hnCells_cons, hnCells_cons]
    rfl
  | c :: cs, k + 1, y, h => by
    have ih := hnCells_set2 cs k y (by simpa using h)
    rw [List.set_cons_succ, hnCells_cons, ih, hnCells_cons, show (k + 1) * 2 = k * 2 + 1 + 1 by omega, show k * 2 + 1 + 1 + 1 = (k * 2 + 1) + 1 + 1 by omega]
    rfl
theorem rowL_cells {out : List Hn} {h : Hn} {rest : List Hn} {j : Nat} (hj : j + 1 ≤ out.length) :
    (((((hnCells (rowL out h rest (j + 1))).set ((j + 1) * 2) (.string (hnat out j).text)).set ((j + 1) * 2 + 1) (.int .i64 (hnat out j).weight)).set (j * 2) (.string h.text)).set (j * 2 + 1) (.int .i64 h.weight)) = hnCells (rowL out h rest j) := by
  rw [← rowL_swap hj, hnCells_set2 _ j h (by rw [List.length_set, rowL_len]; omega), hnCells_set2 _ (j + 1) _ (by rw [rowL_len]; omega)]
theorem rowL_end {out : List Hn} {h : Hn} {rest : List Hn} {k : Nat} (hk : posW out h.weight out.length = k) : rowL out h rest k = insW out h ++ rest := by
  unfold rowL insW
  rw [hk]
theorem rowL_start {l : List Hn} {i : Nat} (hi : i < l.length) : rowL (sortW (l.take i)) (hnat l i) (l.drop (i + 1)) i = sortW (l.take i) ++ l.drop i := by
  have e : (sortW (l.take i)).length = i := by rw [sortW_len, List.length_take]; omega
  unfold rowL
  rw [List.take_of_length_le (by omega), List.drop_of_length_le (by omega), hnat_drop l i hi]
  simp
theorem sortW_take {l : List Hn} {i : Nat} (hi : i < l.length) : sortW (l.take (i + 1)) = insW (sortW (l.take i)) (hnat l i) := by
  rw [take_snoc _ _ hi, sortW_snoc]
theorem sortW_one (l : List Hn) : sortW (l.take 1) ++ l.drop 1 = l := by
  cases l with
  | nil => rfl
  | cons a l =>
    have e : sortW [a] = [a] := by simp [sortW, insW, posW]
    simp [e]
theorem cmpI_less (x y : Int) : decide (cmpI x y < 0) = decide (x < y) := by
  unfold cmpI
  split
  · rename_i h; simp [h]
  · rename_i h
    split
    · simp [h]
    · simp [h]

theorem own_drewN {w : World} {B s n : Nat} {e : TypeId} {v : Value} {xs : List Value} (h : w.ownsRow B e s v n xs) (k : Nat) : (w.drewN k).ownsRow B e s v n xs := h.kept (grown_none (below_drewN (Below.refl _ _) k)) (Classical.em _)
theorem grown_drewN {w w' : World} {r : Option Nat} (h : w.grownBy w' r) (k : Nat) : w.grownBy (w'.drewN k) r := grown_then h (grown_of_below (below_drewN (Below.refl _ _) k))
set_option maxRecDepth 100000 in
set_option maxHeartbeats 4000000 in
theorem insertionH_any (base g c : Nat) (l : List Hn) (w : World) (hz : l.length ≤ 1048576) (hown : w.ownsRow base 31 2 (.slice (some ⟨g, 0, none⟩) l.length c) l.length (hnCells l)) :
    Calls Tryd.prog 71 #[.slice (some ⟨g, 0, none⟩) l.length c, .int .i64 0, .int .i64 l.length, .func (.func 43) #[] #[]] w fun e w' => e = .returned (.tuple #[]) ∧ w'.ownsRow base 31 2 (.slice (some ⟨g, 0, none⟩) l.length c) l.length (hnCells (sortW l)) ∧ w.grownBy w' (some g) := by
  obtain ⟨n, hn⟩ : ∃ n, l.length = n := ⟨_, rfl⟩
  have HN : Hid (l.length = n) := hn
  have HO : Hid (w.ownsRow base 31 2 (.slice (some ⟨g, 0, none⟩) n c) n (hnCells (sortW (l.take 1) ++ l.drop 1))) := by unfold Hid; rw [sortW_one, ← hn]; exact hown
  rw [hn] at hz
  rw [hn]
  clear hown hn
  go_enter Tryd.func71, Tryd.ntmps71
  go_wp2
  go_loopw [8] (fun vi wr => ∃ i : Nat, vi = .int .i64 i ∧ 1 ≤ i ∧ i ≤ n + 1 ∧ wr.ownsRow base 31 2 (.slice (some ⟨g, 0, none⟩) n c) n (hnCells (sortW (l.take i) ++ l.drop i)) ∧ w.grownBy wr (some g)) (fun vi _ => n + 1 - (intOf vi).toNat)
  case atStart => exact ⟨1, rfl, Nat.le_refl _, by omega, HO.out, World.grownBy.refl _ _⟩
  case round =>
    obtain ⟨i, rfl, hi1, hin, hor, hgr⟩ := hrel
    clear HO
    by_cases hlt : i < n
    · have hii : (i : Int) < (n : Int) := by omega
      have hll : i < l.length := by rw [HN.out]; exact hlt
      have HST : Hid (rowL (sortW (l.take i)) (hnat l i) (l.drop (i + 1)) i = sortW (l.take i) ++ l.drop i) := rowL_start hll
      have HTK : Hid (sortW (l.take (i + 1)) = insW (sortW (l.take i)) (hnat l i)) := sortW_take hll
      have HOL : Hid ((sortW (l.take i)).length = i) := by unfold Hid; rw [sortW_len, List.length_take]; omega
      have HRL : Hid ((l.drop (i + 1)).length = n - (i + 1)) := by unfold Hid; rw [List.length_drop, HN.out]
      generalize sortW (l.take i) = out at *
      generalize hnat l i = h at *
      have HR0 : Hid (wr.ownsRow base 31 2 (.slice (some ⟨g, 0, none⟩) n c) n (hnCells (rowL out h (l.drop (i + 1)) i))) := by unfold Hid; rw [HST.out]; exact hor
      have HGR : Hid (w.grownBy wr (some g)) := hgr
      obtain ⟨S, hS⟩ : ∃ S, S = sortW (l.take (i + 1)) ++ l.drop (i + 1) := ⟨_, rfl⟩
      have HSS : Hid (S = sortW (l.take (i + 1)) ++ l.drop (i + 1)) := hS
      have HTI : Hid (∀ k, posW out h.weight i = k → hnCells (rowL out h (l.drop (i + 1)) k) = hnCells S) := fun k hk => by
        rw [rowL_end (by rw [HOL.out]; exact hk), hS, HTK.out]
      clear hS
      obtain ⟨rest, hrest⟩ : ∃ rest, l.drop (i + 1) = rest := ⟨_, rfl⟩
      rw [hrest] at HTI HRL HR0
      clear hrest
      clear hor hgr HST HTK hll
      obtain ⟨ht, hx⟩ := h
      go_wp2
      go_loopw [9] (fun vj w2 => ∃ j : Nat, vj = .int .i64 j ∧ j ≤ i ∧ w2.ownsRow base 31 2 (.slice (some ⟨g, 0, none⟩) n c) n (hnCells (rowL out ⟨ht, hx⟩ rest j)) ∧ posW out hx i = posW out hx j ∧ w.grownBy w2 (some g)) (fun vj _ => (intOf vj).toNat)
      case atStart => exact ⟨i, rfl, Nat.le_refl _, HR0.out, rfl, HGR.out⟩
      case round =>
        rename World => w2
        obtain ⟨j, rfl, hji, hor2, hpos, hgr2⟩ := hrel
        have HP : Hid (posW out hx i = posW out hx j) := hpos
        have HG2 : Hid (w.grownBy w2 (some g)) := hgr2
        have HO2 : Hid (w2.ownsRow base 31 2 (.slice (some ⟨g, 0, none⟩) n c) n (hnCells (rowL out ⟨ht, hx⟩ rest j))) := hor2
        clear HR0 HGR hpos hgr2
        cases j with
        | zero =>
          have HE : Hid (w2.ownsRow base 31 2 (.slice (some ⟨g, 0, none⟩) n c) n (hnCells (S))) := by
            unfold Hid
            rw [← HTI.out 0 HP.out]
            exact HO2.out
          clear hor2 HTI HP HO2
          go_wp2
          go_quiet (fail)
          go_wp2
          go_roundw
          case rel => exact ⟨i + 1, by go_num, by omega, by omega, by rw [← HSS.out]; exact own_drewN HE.out nq, grown_drewN HG2.out nq⟩
          case measure => simp [intOf]; omega
        | succ jp =>
          have hjo : jp + 1 ≤ out.length := by rw [HOL.out]; exact hji
          have HQ : Hid (posW out hx (jp + 1) = if (hnat out jp).weight < hx then posW out hx jp else jp + 1) := rfl
          have HSW : Hid (((((hnCells (rowL out ⟨ht, hx⟩ rest (jp + 1))).set ((jp + 1) * 2) (.string (hnat out jp).text)).set ((jp + 1) * 2 + 1) (.int .i64 (hnat out jp).weight)).set (jp * 2) (.string ht)).set (jp * 2 + 1) (.int .i64 hx) = hnCells (rowL out ⟨ht, hx⟩ rest jp)) := rowL_cells hjo
          have hLL : (rowL out ⟨ht, hx⟩ rest (jp + 1)).length = n := by rw [rowL_len, HOL.out, HRL.out]; omega
          have hCL : (hnCells (rowL out ⟨ht, hx⟩ rest (jp + 1))).length = n * 2 := by rw [hnCells_len, hLL]
          obtain ⟨a0, a1⟩ := hnTo_cells (rowL out ⟨ht, hx⟩ rest (jp + 1)) (jp + 1) (by omega)
          obtain ⟨b0, b1⟩ := hnTo_cells (rowL out ⟨ht, hx⟩ rest (jp + 1)) jp (by omega)
          rw [rowL_at hjo] at a0 a1
          rw [rowL_ahead hjo] at b0 b1
          rw [← hor2.cellAt ((jp + 1) * 2) (by omega)] at a0
          rw [← hor2.cellAt ((jp + 1) * 2 + 1) (by omega)] at a1
          rw [← hor2.cellAt (jp * 2) (by omega)] at b0
          rw [← hor2.cellAt (jp * 2 + 1) (by omega)] at b1
          obtain ⟨o, ho⟩ : ∃ o, hnat out jp = o := ⟨_, rfl⟩
          rw [ho] at b0 b1 HSW HQ
          have HOE : Hid (hnat out jp = o) := ho
          clear ho
          obtain ⟨pt, px⟩ := o
          simp only at a0 a1 b0 b1 HSW HQ
          have hwp : IntKind.i64.wrap (jp : Int) = (jp : Int) := by rw [IntKind.wrap_i64]; omega
          have jz : (jp : Int) + 1 < (n : Int) := by omega
          have jz1 : (jp : Int) < (n : Int) := by omega
          have p0 : (0 : Int) ≤ (jp : Int) + 1 := by omega
          have p1 : (0 : Int) < (jp : Int) + 1 := by omega
          have e0 : ((jp : Int) + 1).toNat = jp + 1 := by omega
          clear hLL hCL hor2
          go_wp2_with fail
          refine wp_region_still_one 14 (by kernel_rfl) (by kernel_rfl) rfl ?_
          simp only [List.take_succ_cons, List.take_zero]
          still_step
          still_step
          still_step
          still_step
          still_step
          still_step
          still_step
          still_step
          still_step
          still_step
          still_step
          still_step
          still_step
          still_step
          refine wpStill_nil ?_
          unfold OneK
          go_simp
          go_at_call 43
          refine (byWeight_any ht pt hx px _).mono ?_
          rintro e w3 ⟨rfl, hb3d⟩
          have hb3 : Below w2.heap.size w2 w3 := ⟨hb3d.os, hb3d.tape, hb3d.output, hb3d.size, hb3d.block⟩
          have ho3 := HO2.out.kept (grown_none hb3) (Classical.em _)
          have hg3 := grown_then HG2.out (grown_of_below (r := some g) hb3)
          have HCM : Hid (decide (cmpI px hx < 0) = decide (px < hx)) := cmpI_less px hx
          clear HG2 HO2 hb3d hb3 a0 a1 b0 b1
          unfold RestK
          simp only [List.drop_succ_cons, List.drop_zero]
          by_cases hpx : px < hx
          · have hcm : decide (cmpI px hx < 0) = true := by rw [HCM.out]; exact decide_eq_true hpx
            have hcl : cmpI px hx < 0 := of_decide_eq_true hcm
            have HPP : Hid (posW out hx i = posW out hx jp) := by unfold Hid; rw [HP.out, HQ.out, if_pos hpx]
            clear HCM HP HQ
            generalize cmpI px hx = cc at *
            repeat (go_big_quiet_step (fail))
            refine wpQuiet_nil ?_
            intro _ hw'
            obtain ⟨nq, hw''⟩ := hw'
            subst hw''
            have ho4 := own_drewN ho3 nq
            have hg4 := grown_drewN hg3 nq
            generalize w3.drewN nq = wq at *
            have hLL : (rowL out ⟨ht, hx⟩ rest (jp + 1)).length = n := by rw [rowL_len, HOL.out, HRL.out]; omega
            have hCL : (hnCells (rowL out ⟨ht, hx⟩ rest (jp + 1))).length = n * 2 := by rw [hnCells_len, hLL]
            obtain ⟨a0, a1⟩ := hnTo_cells (rowL out ⟨ht, hx⟩ rest (jp + 1)) (jp + 1) (by omega)
            obtain ⟨b0, b1⟩ := hnTo_cells (rowL out ⟨ht, hx⟩ rest (jp + 1)) jp (by omega)
            rw [rowL_at hjo, ← ho4.cellAt ((jp + 1) * 2) (by omega)] at a0
            rw [rowL_at hjo, ← ho4.cellAt ((jp + 1) * 2 + 1) (by omega)] at a1
            rw [rowL_ahead hjo, HOE.out, ← ho4.cellAt (jp * 2) (by omega)] at b0
            rw [rowL_ahead hjo, HOE.out, ← ho4.cellAt (jp * 2 + 1) (by omega)] at b1
            have f0 := ho4.frozenAt ((jp + 1) * 2)
            have f1 := ho4.frozenAt ((jp + 1) * 2 + 1)
            have f2 := ho4.frozenAt (jp * 2)
            have f3 := ho4.frozenAt (jp * 2 + 1)
            obtain ⟨ho5, hg5⟩ := ho4.stored ((jp + 1) * 2) (.string pt)
            obtain ⟨ho6, hg6⟩ := ho5.stored ((jp + 1) * 2 + 1) (.int .i64 px)
            obtain ⟨ho7, hg7⟩ := ho6.stored (jp * 2) (.string ht)
            obtain ⟨ho8, hg8⟩ := ho7.stored (jp * 2 + 1) (.int .i64 hx)
            rw [HSW.out] at ho8
            simp only at a0 a1 b0 b1
            clear hLL hCL ho3 ho5 ho6 ho7 hg3
            go_wp2_with fail
            go_big_region
            all_goals
              go_wp2
              go_roundw
              case rel => exact ⟨jp, rfl, by omega, own_drewN ho8 1, HPP.out, grown_drewN (grown_then (grown_then (grown_then (grown_then hg4 hg5) hg6) hg7) hg8) 1⟩
              case measure => simp [intOf]
          · have hcm : decide (cmpI px hx < 0) = false := by rw [HCM.out]; exact decide_eq_false hpx
            have HPP : Hid (posW out hx i = jp + 1) := by unfold Hid; rw [HP.out, HQ.out, if_neg hpx]
            have HE : Hid ((w3).ownsRow base 31 2 (.slice (some ⟨g, 0, none⟩) n c) n (hnCells (S))) := by
              unfold Hid
              rw [← HTI.out (jp + 1) HPP.out]
              exact ho3
            clear HCM HP HQ HTI HSW ho3
            generalize cmpI px hx = cc at *
            repeat (go_big_quiet_step (fail))
            refine wpQuiet_nil ?_
            intro _ hw'
            obtain ⟨nq, hw''⟩ := hw'
            subst hw''
            go_wp2
            go_roundw
            case rel => exact ⟨i + 1, by go_num, by omega, by omega, by rw [← HSS.out]; exact own_drewN HE.out nq, grown_drewN hg3 nq⟩
            case measure => simp [intOf]; omega
    · have hni : n ≤ i := by omega
      have HF : Hid (sortW (l.take i) ++ l.drop i = sortW l) := by
        unfold Hid
        rw [List.take_of_length_le (by rw [HN.out]; exact hni), List.drop_of_length_le (by rw [HN.out]; exact hni), List.append_nil]
      have HE : Hid (wr.ownsRow base 31 2 (.slice (some ⟨g, 0, none⟩) n c) n (hnCells (sortW l))) := by
        unfold Hid
        rw [← HF.out]
        exact hor
      clear hor HF
      go_wp2
      go_end0
      exact ⟨rfl, HE.out, hgr⟩
set_option maxRecDepth 100000 in
set_option maxHeartbeats 2000000 in
theorem stableH_any (base g c : Nat) (l : List Hn) (w : World) (hz : l.length ≤ 19) (hown : w.ownsRow base 31 2 (.slice (some ⟨g, 0, none⟩) l.length c) l.length (hnCells l)) :
    Calls Tryd.prog 42 #[.slice (some ⟨g, 0, none⟩) l.length c, .func (.func 43) #[] #[]] w fun e w' => e = .returned (.tuple #[]) ∧ w'.ownsRow base 31 2 (.slice (some ⟨g, 0, none⟩) l.length c) l.length (hnCells (sortW l)) ∧ w.grownBy w' (some g) := by
  have HI := insertionH_any base g c l w (by omega) hown
  have hs : Calls Tryd.prog 61 #[.slice (some ⟨g, 0, none⟩) l.length c, .int .i64 l.length, .func (.func 43) #[] #[]] w fun e w' => e = .returned (.tuple #[]) ∧ w'.ownsRow base 31 2 (.slice (some ⟨g, 0, none⟩) l.length c) l.length (hnCells (sortW l)) ∧ w.grownBy w' (some g) := by
    have h20 : decide ((20 : Int) ≤ (l.length : Int)) = false := decide_eq_false (by omega)
    have h20b : decide ((20 : Int) < (l.length : Int)) = false := decide_eq_false (by omega)
    clear hown
    go_enter Tryd.func61, Tryd.ntmps61
    go_wp2
    refine wp_loop_rounds 1 ?_
    rw [rounds_succ]
    go_wp2_with fail
    refine HI.mono ?_
    rintro e w1 ⟨rfl, ho1, hg1⟩
    go_wp2
    refine wp_loop_rounds 1 ?_
    rw [rounds_succ]
    go_wp2
    go_end0
    exact ⟨rfl, ho1, hg1⟩
  clear HI hown
  go_enter Tryd.func42, Tryd.ntmps42
  go_wp2_with fail
  refine hs.mono ?_
  rintro e w1 ⟨rfl, ho1, hg1⟩
  go_wp2
  go_end0
  exact ⟨rfl, ho1, hg1⟩
end Go.Proofs.YtgmfaganaeibkaaDoor
