/- l2Tags, l2Cell, DocOk of the model. -/
import Derived.Test.YtjkimadnopeakaaGreatDoorL2Add
import Derived.Test.YtjkimadnopeakaaGreatDoorDocForm3
import Derived.Test.YtjkimadnopeakaaGreatDoorStillOne
namespace Go.Proofs.YtjkimadnopeakaaGreatDoor
open Go.RowKit
set_option linter.unusedVariables false

theorem insTo_succ (ps : List ByteArray) (k : Nat) (h : k < ps.length) : (ps.take (k + 1)).foldl addL [] = addL ((ps.take k).foldl addL []) (pat ps k) := by
  rw [List.take_add_one, List.getElem?_eq_getElem h, List.foldl_append, pat_get _ _ h]
  rfl
theorem tparts_cuts (s : ByteArray) : cuts 44 (s.size + 1) s = tparts s := cuts_enough 44 (s.size + 1) s (by have := manyB_le 44 s; omega)
set_option maxRecDepth 100000 in
set_option maxHeartbeats 2000000 in
theorem l2TagsX_any (s : ByteArray) (w : World) (hs : s.size ≤ 1048576) :
    Calls Tryz.prog 97 #[.string s] w fun e w' => ∃ (g c : Nat) (ss : List ByteArray), e = .returned (.tuple #[.slice (some ⟨g, 0, none⟩) ss.length c, .bool (tagT s)]) ∧ (tagT s = true → ss = insAll (tparts s)) ∧ w'.ownsRow w.heap.size 9 1 (.slice (some ⟨g, 0, none⟩) ss.length c) ss.length (ss.map Value.string) ∧ Below w.heap.size w w' := by
  have hlen : (tparts s).length = manyB 44 s + 1 := cuts_full_len 44 s
  have hmn := manyB_le 44 s
  have HSZ : Hid (∀ i, i < (tparts s).length → (pat (tparts s) i).size ≤ 1048576) := fun i hi => by have := pat_size 44 (manyB 44 s) s i hi; unfold tparts; omega
  have HCU : Hid (∀ wx, Calls Tryz.prog 129 #[.string s, .int .u8 44, .int .i64 ((s.size : Int) + 1)] wx fun e w' => ∃ v, e = .returned v ∧ w'.ownsRow wx.heap.size 9 1 v (tparts s).length ((tparts s).map Value.string) ∧ Below wx.heap.size wx w') := fun wx => by
    have := l1Cut_any s 44 44 rfl (s.size + 1) wx hs (by omega)
    rw [tparts_cuts, show ((s.size + 1 : Nat) : Int) = (s.size : Int) + 1 by omega] at this
    exact this
  obtain ⟨ps, hps⟩ : ∃ ps, tparts s = ps := ⟨_, rfl⟩
  rw [hps]
  have HI : Hid (tagT s = (ps.all nameI && decide (ps.length ≤ 4))) := by unfold Hid tagT; rw [hps]
  rw [hps] at hlen HSZ HCU
  have hpl : ps.length ≤ 1048577 := by omega
  clear hlen hmn hps
  have hlit : (w.alloc (.cells #[] 9)).ownsRow w.heap.size 9 1 (.slice (some ⟨w.heap.size, 0, none⟩) 0 0) 0 [] := World.ownsRow_lit w #[] 0 (Nat.le_refl _) (by decide) rfl
  have hb0 : Below w.heap.size w (w.alloc (.cells #[] 9)) := (Below.refl _ w).alloc (Nat.le_refl _) _
  go_enter Tryz.func97, Tryz.ntmps97
  go_wp2_with fail
  refine (HCU.out _).mono ?_
  rintro e w1 ⟨v, rfl, hown, hb1⟩
  obtain ⟨p, c, rfl, hrow⟩ := owns_strRow hown
  have HR : Hid (StrRow w1 p ps) := hrow
  have HO1 : Hid (w1.ownsRow w.heap.size 9 1 (.slice (some ⟨w.heap.size, 0, none⟩) 0 0) 0 []) := hlit.kept (grown_none hb1) (Classical.em _)
  have hw1 := below_trans hb0 hb1
  clear hown hlit hb0 hb1 hrow HCU
  go_wp2
  go_loopw [4, 6] (fun v0 i wr => ∃ (k g' c' : Nat) (ss : List ByteArray), k ≤ ps.length ∧ i = .int .i64 k ∧ v0 = .slice (some ⟨g', 0, none⟩) ss.length c' ∧ ss.length ≤ k ∧ ss = (ps.take k).foldl addL [] ∧ wr.ownsRow w.heap.size 9 1 (.slice (some ⟨g', 0, none⟩) ss.length c') ss.length (ss.map Value.string) ∧ allTo (fun j => nameI (pat ps j)) k = true ∧ Below w1.heap.size w1 wr) (fun _ i _ => ps.length - (intOf i).toNat)
  case atStart => exact ⟨0, _, _, [], Nat.zero_le _, rfl, rfl, Nat.le_refl _, rfl, HO1.out, rfl, Below.refl _ _⟩
  case round =>
    obtain ⟨k, g', c', ss, hk, rfl, rfl, hsk, hss, hown, ha, hbel⟩ := hrel
    have HSS : Hid (ss = (ps.take k).foldl addL []) := hss
    clear hss
    have HA : Hid (allTo (fun j => nameI (pat ps j)) k = true) := ha
    clear ha
    have hw2 := below_trans hw1 hbel
    by_cases hlt : k < ps.length
    · have hks : (k : Int) < (ps.length : Int) := by omega
      obtain ⟨g, rfl, hg, hc⟩ := (HR.out.below hbel) (by omega)
      have c1 : wr.cell? ⟨g, k, none⟩ = some (.string (pat ps k)) := hc k hlt
      have hz := HSZ.out k hlt
      have HNO : Hid (nameI (pat ps k) = false → ps.all nameI = false) := fun h => by
        rw [List.all_eq_false]
        exact ⟨ps[k], List.getElem_mem _, by rw [← pat_get _ _ hlt, h]; decide⟩
      have HYS : Hid (nameI (pat ps k) = true → allTo (fun j => nameI (pat ps j)) (k + 1) = true) := fun h => allTo_snoc _ k HA.out h
      have HOW : Hid (wr.ownsRow w.heap.size 9 1 (.slice (some ⟨g', 0, none⟩) ss.length c') ss.length (ss.map Value.string)) := hown
      have HSN : Hid (addL ss (pat ps k) = (ps.take (k + 1)).foldl addL []) := by unfold Hid; rw [insTo_succ ps k hlt, ← HSS.out]
      clear hc hown HSS
      generalize pat ps k = q at *
      have HQ : Hid (nameI q = nameS q) := name_same q
      go_wp2_with fail
      refine (nameS_any q _ (by unfold maxLen; omega)).mono ?_
      rintro e _ ⟨rfl, rfl⟩
      cases hb : nameS q with
      | false =>
        have HB : Hid (tagT s = false) := by unfold Hid; rw [HI.out, HNO.out (by rw [HQ.out, hb])]; rfl
        go_wp2
        go_ret2
        exact ⟨_, 0, [], by rw [HB.out]; rfl, (fun h => by rw [HB.out] at h; cases h), ownsRow_mono (World.ownsRow_lit _ #[] 0 (Nat.le_refl _) (by decide) rfl) hw2.size, hw2.alloc hw2.size _⟩
      | true =>
        have HYH : Hid (allTo (fun j => nameI (pat ps j)) (k + 1) = true) := HYS.out (by rw [HQ.out, hb])
        go_wp2_with fail
        refine (l2Add_any w.heap.size g' c' ss q _ (by omega) hw2.size HOW.out).mono ?_
        rintro e w3 ⟨g3, c3, ss3, rfl, hl3, ho3, hb3, he3⟩
        have HS3 : Hid (ss3 = (ps.take (k + 1)).foldl addL []) := he3.trans HSN.out
        have HO3 : Hid (w3.ownsRow w.heap.size 9 1 (.slice (some ⟨g3, 0, none⟩) ss3.length c3) ss3.length (ss3.map Value.string)) := ho3
        clear ho3 HOW c1 he3 HSN
        go_wp2
        go_roundw
        case rel => exact ⟨k + 1, g3, c3, ss3, by omega, by go_num, rfl, by omega, HS3.out, HO3.out, HYH.out, hbel.trans (hb3.mono hbel.size)⟩
        case measure => simp [intOf]; omega
    · have hkl : k = ps.length := by omega
      have HB : Hid (tagT s = decide ((ps.length : Int) ≤ 4)) := by
        unfold Hid
        rw [HI.out, show ps.all nameI = true from by
          rw [List.all_eq_true]
          intro x hx
          obtain ⟨i, hi, rfl⟩ := List.getElem_of_mem hx
          have := (allTo_iff _ _).1 HA.out i (by omega)
          rw [← pat_get _ _ hi]
          exact this, Bool.true_and]
        exact decide_eq_decide.2 (by omega)
      have HSE : Hid (ss = insAll ps) := by unfold Hid insAll; rw [HSS.out, hkl, List.take_length]
      have HOW : Hid (wr.ownsRow w.heap.size 9 1 (.slice (some ⟨g', 0, none⟩) ss.length c') ss.length (ss.map Value.string)) := hown
      clear hown HSS
      subst hkl
      go_wp2
      go_ret2
      exact ⟨_, _, _, by rw [HB.out]; rfl, fun _ => HSE.out, HOW.out, hw2⟩
theorem l2Tags_any (s : ByteArray) (w : World) (hs : s.size ≤ 1048576) :
    Calls Tryz.prog 97 #[.string s] w fun e w' => ∃ (g n c : Nat), e = .returned (.tuple #[.slice (some ⟨g, 0, none⟩) n c, .bool (tagT s)]) ∧ Below w.heap.size w w' := by
  refine (l2TagsX_any s w hs).mono ?_
  rintro e w' ⟨g, c, ss, rfl, _, _, hb⟩
  exact ⟨g, ss.length, c, rfl, hb⟩

set_option maxHeartbeats 2000000 in
theorem l2Cell_any (n : ByteArray) (kd wt : Int) (s : ByteArray) (w : World) (hs : s.size ≤ 1048576) :
    Calls Tryz.prog 52 #[.agg #[.string n, .int .i64 kd, .int .i64 wt], .string s] w fun e w' => e = .returned (.bool (cellS kd s)) ∧ Below w.heap.size w w' := by
  have hb0 : Below w.heap.size w (w.alloc (.cells #[.string n, .int .i64 kd, .int .i64 wt] 72)) := (Below.refl _ w).alloc (Nat.le_refl _) _
  have B0 := Blk.new w #[.string n, .int .i64 kd, .int .i64 wt] 72
  have hl0 := B0.lt
  have HC : Hid (cellS kd s = (textB s && (kd == 1 || (kd == 2 && numS s) || (kd == 3 && tagT s)))) := rfl
  go_enter Tryz.func52, Tryz.ntmps52
  go_wp2_with fail
  refine (l1Number_any s _ hs).mono ?_
  rintro e w1 ⟨v, rfl, _, rfl⟩
  go_wp2_with fail
  refine (l2Tags_any s _ hs).mono ?_
  rintro e w2 ⟨g, m, c, rfl, hb2⟩
  have B2 := B0.below hb2 hl0
  have k1 := B2.cell 1
  simp at k1
  have hw2 := below_trans hb0 hb2
  clear B0 B2 hb2 hb0
  generalize numS s = bn at *
  generalize tagT s = bt at *
  go_wp2_with fail
  refine (l2Text_any s _ (by unfold maxLen; omega)).mono ?_
  rintro e w3 ⟨rfl, rfl⟩
  cases h1 : textB s with
  | false =>
    rw [h1] at HC
    go_wp2
    go_ret
    exact ⟨ret_bool HC.out.symm, hw2⟩
  | true =>
    rw [h1, Bool.true_and] at HC
    by_cases e1 : kd = 1
    · subst e1
      go_wp2
      go_ret
      exact ⟨ret_bool (by rw [HC.out]; rfl), hw2⟩
    have e1b : (kd == 1) = false := by simpa using e1
    by_cases e2 : kd = 2
    · subst e2
      cases bn
      all_goals
        go_wp2
        go_ret
        exact ⟨ret_bool (by rw [HC.out]; rfl), hw2⟩
    have e2b : (kd == 2) = false := by simpa using e2
    by_cases e3 : kd = 3
    · subst e3
      cases bt
      all_goals
        go_wp2
        go_ret
        exact ⟨ret_bool (by rw [HC.out]; rfl), hw2⟩
    have e3b : (kd == 3) = false := by simpa using e3
    rw [e1b, e2b, e3b] at HC
    go_wp2
    go_ret
    exact ⟨ret_bool (by rw [HC.out]; rfl), hw2⟩
end Go.Proofs.YtjkimadnopeakaaGreatDoor
