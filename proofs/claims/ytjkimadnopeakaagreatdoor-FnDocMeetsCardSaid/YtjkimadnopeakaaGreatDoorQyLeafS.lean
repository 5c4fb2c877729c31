/- spec.l5Leaf. -/
import Derived.Test.YtjkimadnopeakaaGreatDoorQyFormI
import Derived.Deep.DeepCutAuto
import Derived.Deep.CutBlock
import Derived.Test.YtjkimadnopeakaaGreatDoorMg0FnExactMeets
import Derived.Test.YtjkimadnopeakaaGreatDoorStillOne
namespace Go.Proofs.YtjkimadnopeakaaGreatDoor
open Go.RowKit
set_option linter.unusedVariables false

theorem still_w5 {P : Program} {ops : Array Oper} {w : World} {Q : Act → Prop} {a : Act} {o : Oper} {rest : List Oper} (hw : Region.wanted o (yielded ops a.tmps) = true)
    (h : ∀ K : Act → Prop, (∀ a, wpStill P ops w Q rest a → K a) → o.still P a w K) : wpStill P ops w Q (o :: rest) a := by
  unfold wpStill
  rw [if_pos hw]
  exact h _ (fun _ h => h)
theorem oneK_w5 {P : Program} {l : List Oper} {n : Nat} {Q : Exit → Act → World → Prop} {o : Oper} {w : World} {a : Act} (hw : Region.wanted o (yielded l.toArray a.tmps) = true)
    (h : o.wp P a w (fun a' w' => RestK P l n Q w' a') Q) : OneK P l n Q o w a := by
  unfold OneK
  rw [if_pos hw]
  exact h
theorem word_dec (t : ByteArray) : isWordB t = decide (l5W t = 1) := by
  rw [Bool.eq_iff_iff, decide_eq_true_iff]
  exact (l5W_one t).symm
theorem word_size {t : ByteArray} (h : l5W t = 1) : 1 ≤ t.size := by
  have h1 := (l5W_one t).1 h
  unfold isWordB at h1
  rw [Bool.and_eq_true] at h1
  have h2 := h1.1
  rw [ByteArray.toList_eq] at h2
  cases e : t.data.toList with
  | nil => rw [e] at h2; cases h2
  | cons a l =>
    show 1 ≤ t.data.size
    rw [← Array.length_toList, e]
    simp
theorem want_2 (t : ByteArray) : wantB 2 t = (decide ((t.size : Int) ≤ 60) && decide (l5W t = 1) && !(stemA t).toList.isEmpty) := by
  unfold wantB
  rw [if_pos rfl, word_dec, Bool.and_assoc]
theorem want_3 (t : ByteArray) : wantB 3 t = (decide ((t.size : Int) ≤ 60) && inB (l5W t : Nat) 2 4) := by
  unfold wantB
  rw [if_neg (by decide), if_neg (by decide), l5W_parts]
  congr 1
  unfold inB
  cases (hparts t).all isWordB with
  | true =>
    rw [if_pos rfl, Bool.true_and, Bool.eq_iff_iff]
    simp
    omega
  | false =>
    rw [if_neg (by simp)]
    simp
theorem want_4 (t : ByteArray) : wantB 4 t = (inB (t.size : Nat) 1 12 && decide (l5W t = 1) && ((foldA t).toList == t.toList)) := by
  unfold wantB
  rw [if_neg (by decide), if_pos rfl, word_dec]
  have e : foldEq t = ((foldA t).toList == t.toList) := rfl
  rw [e]
  by_cases h : l5W t = 1
  · have := word_size h
    rw [decide_eq_true h, Bool.true_and, Bool.and_true]
    unfold inB
    cases ((foldA t).toList == t.toList) with
    | false => simp
    | true =>
      rw [Bool.and_true, Bool.and_true, Bool.eq_iff_iff]
      simp
      omega
  · rw [decide_eq_false h]
    simp
theorem l1In_b (n a b : Int) (r : Bool) (h : inB n a b = r) (w : World) : Calls Tryz.prog 99 #[.int .i64 n, .int .i64 a, .int .i64 b] w fun e w' => e = .returned (.bool r) ∧ w' = w := by
  rw [← h]
  exact l1In_any n a b w
set_option maxRecDepth 100000 in
set_option maxHeartbeats 8000000 in
theorem l5Leaf_any (k : Int) (f t : ByteArray) (lo hi : Int) (p : Option Addr) (n c : Nat) (w : World) (hfs : f.size ≤ 1048576) (hs : t.size ≤ 1048576) :
    Calls Tryz.prog 131 #[.agg #[.int .i64 k, .string f, .string t, .int .i64 lo, .int .i64 hi, .slice p n c]] w fun e w' => e = .returned (.bool (leafB k f t lo hi)) ∧ Below w.heap.size w w' := by
  have hb0 : Below w.heap.size w (w.alloc (.cells #[.int .i64 k, .string f, .string t, .int .i64 lo, .int .i64 hi, .slice p n c] 41)) := (Below.refl _ w).alloc (Nat.le_refl _) _
  have B0 := Blk.new w #[.int .i64 k, .string f, .string t, .int .i64 lo, .int .i64 hi, .slice p n c] 41
  obtain ⟨wa, hwa⟩ : ∃ wa, w.alloc (.cells #[.int .i64 k, .string f, .string t, .int .i64 lo, .int .i64 hi, .slice p n c] 41) = wa := ⟨_, rfl⟩
  rw [hwa] at hb0 B0
  have HB0 : Hid (Below w.heap.size w wa) := hb0
  have HWA : Hid (w.alloc (.cells #[.int .i64 k, .string f, .string t, .int .i64 lo, .int .i64 hi, .slice p n c] 41) = wa) := hwa
  clear hwa hb0
  go_enter Tryz.func131, Tryz.ntmps131
  go_upto_region 1 with fail
  rw [HWA.out]
  have b0 := B0.cell 0
  have b1 := B0.cell 1
  have b2 := B0.cell 2
  have b3 := B0.cell 3
  have b4 := B0.cell 4
  have hlt := B0.lt
  simp at b0 b1 b2 b3 b4
  go_cut [3] (fun s wx => s = .bool (f.toList.isEmpty || nameS f) ∧ wx = wa)
  case first =>
    cases hf : f.toList.isEmpty with
    | true =>
      go_wp2_with fail
      go_meet
      case rel => exact ⟨by rw [hf]; rfl, rfl⟩
    | false =>
      go_wp2_with fail
      refine (nameS_any f _ (by unfold maxLen; omega)).mono ?_
      rintro e w1 ⟨rfl, hw1⟩
      go_wp2_with fail
      go_meet
      case rel => exact ⟨by rw [hf]; rfl, hw1.symm⟩
  case rest =>
    obtain ⟨rfl, hwc⟩ := hcut
    rw [hwc]
    clear hwc
    go_upto_region 2 with fail
    go_cut [4] (fun s wx => s = .bool (zeroB lo hi) ∧ wx = wa)
    case first =>
      cases h1 : (lo == 0) with
      | true =>
        go_wp2_with fail
        go_meet
        case rel => exact ⟨by unfold zeroB; rw [h1]; rfl, rfl⟩
      | false =>
        go_wp2_with fail
        go_meet
        case rel => exact ⟨by unfold zeroB; rw [h1]; rfl, rfl⟩
    case rest =>
      obtain ⟨rfl, hwc⟩ := hcut
      rw [hwc]
      clear hwc HWA b3 b4
      have HFB : Hid ((f.toList.isEmpty || nameS f) = (noB f || nameI f)) := by unfold Hid noB; rw [name_same]
      have HLF : Hid (leafB k f t lo hi = (if k = 1 then noB f && noB t && zeroB lo hi else if k = 2 ∨ k = 3 ∨ k = 4 then (noB f || nameI f) && wantB k t && zeroB lo hi else if k = 5 then nameI f && noB t && bdB lo && bdB hi else if k = 6 then nameI f && nameI t && zeroB lo hi else false)) := rfl
      rw [← HFB.out] at HLF
      generalize (f.toList.isEmpty || nameS f) = fb at *
      generalize zeroB lo hi = pl at *
      clear HFB
      by_cases h1 : k = 1
      · subst h1
        rw [if_pos rfl] at HLF
        unfold noB at HLF
        cases hf : f.toList.isEmpty
        all_goals cases ht : t.toList.isEmpty
        all_goals cases pl
        all_goals
          rw [hf, ht] at HLF
          go_wp2
          go_ret
          exact ⟨ret_bool (by rw [HLF.out]; rfl), HB0.out⟩
      have h1b : (k == 1) = false := beq_eq_false_iff_ne.2 h1
      rw [if_neg h1] at HLF
      by_cases h2 : k = 2
      · subst h2
        rw [if_pos (by omega), want_2] at HLF
        cases fb
        · go_wp2
          go_ret
          exact ⟨ret_bool (by rw [HLF.out]; rfl), HB0.out⟩
        cases pl
        · go_wp2
          go_ret
          exact ⟨ret_bool (by rw [HLF.out]; simp), HB0.out⟩
        by_cases h60 : (t.size : Int) ≤ 60
        · rw [decide_eq_true h60] at HLF
          go_wp2_with fail
          refine (l5Words_any t _ (by omega)).mono ?_
          rintro e w2 ⟨rfl, hb2⟩
          have HB2 : Hid (Below w.heap.size w w2) := HB0.out.trans (hb2.mono HB0.out.size)
          have B2 := B0.below hb2 hlt
          have c2 := B2.cell 2
          simp at c2
          clear hb2 HB0 B0 b0 b1 b2
          by_cases hq : l5W t = 1
          · have hqi : (((l5W t : Nat) : Int) == 1) = true := by rw [hq]; rfl
            rw [decide_eq_true hq] at HLF
            generalize l5W t = q at *
            clear hq
            go_wp2_with fail
            refine (stemS_any t _ (by omega)).mono ?_
            rintro e w3 ⟨rfl, hb3⟩
            have HB3 : Hid (Below w.heap.size w w3) := HB2.out.trans (hb3.mono HB2.out.size)
            clear hb3 HB2 B2 c2
            generalize stemA t = st at *
            cases he : st.toList.isEmpty
            all_goals
              rw [he] at HLF
              go_wp2
              go_ret
              exact ⟨ret_bool (by rw [HLF.out]; rfl), HB3.out⟩
          · have hqi : (((l5W t : Nat) : Int) == 1) = false := beq_eq_false_iff_ne.2 (by omega)
            rw [decide_eq_false hq] at HLF
            generalize l5W t = q at *
            clear hq
            go_wp2
            go_ret
            exact ⟨ret_bool (by rw [HLF.out]; rfl), HB2.out⟩
        · have h60d : decide ((t.size : Int) ≤ 60) = false := decide_eq_false h60
          rw [h60d] at HLF
          go_wp2
          go_ret
          exact ⟨ret_bool (by rw [HLF.out]; rfl), HB0.out⟩
      have h2b : (k == 2) = false := beq_eq_false_iff_ne.2 h2
      by_cases h3 : k = 3
      · subst h3
        rw [if_pos (by omega), want_3] at HLF
        cases fb
        · go_wp2
          go_ret
          exact ⟨ret_bool (by rw [HLF.out]; rfl), HB0.out⟩
        cases pl
        · go_wp2
          go_ret
          exact ⟨ret_bool (by rw [HLF.out]; simp), HB0.out⟩
        by_cases h60 : (t.size : Int) ≤ 60
        · rw [decide_eq_true h60] at HLF
          go_wp2_with fail
          refine (l5Words_any t _ (by omega)).mono ?_
          rintro e w2 ⟨rfl, hb2⟩
          have HB2 : Hid (Below w.heap.size w w2) := HB0.out.trans (hb2.mono HB0.out.size)
          clear hb2 HB0 B0 b0 b1 b2
          go_wp2_with fail
          refine (l1In_any _ 2 4 w2).mono ?_
          rintro e w3 ⟨rfl, rfl⟩
          generalize inB ((l5W t : Nat) : Int) 2 4 = bq at *
          go_wp2
          go_ret
          exact ⟨ret_bool (by rw [HLF.out]; simp), HB2.out⟩
        · have h60d : decide ((t.size : Int) ≤ 60) = false := decide_eq_false h60
          rw [h60d] at HLF
          go_wp2
          go_ret
          exact ⟨ret_bool (by rw [HLF.out]; rfl), HB0.out⟩
      have h3b : (k == 3) = false := beq_eq_false_iff_ne.2 h3
      by_cases h4 : k = 4
      · subst h4
        rw [if_pos (by omega), want_4] at HLF
        have hlt0 := B0.lt
        cases fb
        · go_wp2
          go_quiet (fail)
          go_wp2
          go_ret
          exact ⟨ret_bool (by rw [HLF.out]; rfl), below_drewN HB0.out nq⟩
        cases pl
        · go_wp2
          go_quiet (fail)
          go_wp2
          go_ret
          exact ⟨ret_bool (by rw [HLF.out]; simp), below_drewN HB0.out nq⟩
        cases hin : inB ((t.size : Nat) : Int) 1 12 with
        | false =>
          rw [hin] at HLF
          go_wp2
          go_quiet ((go_at_call 99; exact Calls.quiet_of_same (l1In_b _ _ _ false hin _)))
          go_wp2
          go_ret
          exact ⟨ret_bool (by rw [HLF.out]; rfl), below_drewN HB0.out nq⟩
        | true =>
          rw [hin] at HLF
          have hz : t.size ≤ 60 := by unfold inB at hin; simp at hin; omega
          by_cases hq : l5W t = 1
          · have HQI : Hid (∀ w, Calls Tryz.prog 149 #[.string t] w fun e w' => e = .returned (.int .i64 1) ∧ Below w.heap.size w w') := fun w => by
              have := l5Words_any t w hz
              rw [hq] at this
              exact this
            rw [decide_eq_true hq] at HLF
            clear hq
            have HFE : Hid (foldEq t = ((foldA t).toList == t.toList)) := rfl
            go_wp2
            go_region_held3 (fun wx => wx.cell? ⟨w.heap.size, 2, none⟩ = some (.string t)) (first | go_keep | assumption) (first
              | (go_at_call 99; refine (l1In_b _ _ _ true hin _).mono ?_; rintro e w1 ⟨rfl, rfl⟩)
              | (go_at_call 149; refine (HQI.out _).mono ?_; rintro e w2 ⟨rfl, hb2⟩; have hlt2 : w.heap.size < w2.heap.size := Nat.lt_of_lt_of_le hlt0 hb2.size; have hc2 : w2.cell? ⟨w.heap.size, 2, none⟩ = some (.string t) := (hb2.cell (p := ⟨w.heap.size, 2, none⟩) (by simpa using hlt0)).trans (by simpa using b2))
              | (go_at_call 151; refine (foldS_any t _ (by omega)).mono ?_; rintro e w3 ⟨rfl, hb3⟩; have hc3 : w3.cell? ⟨w.heap.size, 2, none⟩ = some (.string t) := (hb3.cell (p := ⟨w.heap.size, 2, none⟩) hlt2).trans hc2))
            all_goals
              have HB3 : Hid (Below w.heap.size w w3) := HB0.out.trans (((⟨hb2.os, hb2.tape, hb2.output, hb2.size, hb2.block⟩ : Below wa.heap.size wa w2).mono HB0.out.size).trans (hb3.mono (Nat.le_of_lt hlt2)))
              clear hb2 hb3 B0 hc2 hc3 b2
              go_wp2
              go_ret
              exact ⟨ret_bool (by rw [HLF.out]; simp), HB3.out⟩
          · have hqi : (((l5W t : Nat) : Int) == 1) = false := beq_eq_false_iff_ne.2 (by omega)
            have HQI : Hid (∀ w, Calls Tryz.prog 149 #[.string t] w fun e w' => e = .returned (.int .i64 ((l5W t : Nat) : Int)) ∧ Below w.heap.size w w') := fun w => l5Words_any t w hz
            rw [decide_eq_false hq] at HLF
            generalize l5W t = q at *
            clear hq
            go_wp2
            refine wp_region_still_one 13 (by kernel_rfl) (by kernel_rfl) rfl ?_
            simp only [List.take_succ_cons, List.take_zero]
            still_step
            still_step
            refine still_w5 rfl (fun K hK => ?_)
            go_simp
            refine hK _ ?_
            clear hK K
            still_step
            still_step
            refine still_w5 rfl (fun K hK => ?_)
            go_simp
            refine hK _ ?_
            clear hK K
            refine still_w5 rfl (fun K hK => ?_)
            go_simp
            refine hK _ ?_
            clear hK K
            refine still_w5 rfl (fun K hK => ?_)
            go_simp
            refine hK _ ?_
            clear hK K
            refine still_w5 rfl (fun K hK => ?_)
            go_simp
            refine ⟨_, l1In_b _ _ _ true hin _, hK _ ?_⟩
            clear hK K
            still_step
            still_step
            refine still_w5 rfl (fun K hK => ?_)
            go_simp
            refine hK _ ?_
            clear hK K
            refine still_w5 rfl (fun K hK => ?_)
            go_simp
            refine hK _ ?_
            clear hK K
            refine wpStill_nil ?_
            refine oneK_w5 rfl ?_
            go_simp
            go_at_call 149
            refine (HQI.out _).mono ?_
            rintro e w2 ⟨rfl, hb2⟩
            have HB2 : Hid (Below w.heap.size w w2) := HB0.out.trans ((⟨hb2.os, hb2.tape, hb2.output, hb2.size, hb2.block⟩ : Below wa.heap.size wa w2).mono HB0.out.size)
            clear hb2 B0 b2 HQI
            unfold RestK
            simp only [List.drop_succ_cons, List.drop_zero]
            repeat (go_big_quiet_step (fail))
            refine wpQuiet_nil ?_
            intro _ hw'
            obtain ⟨nq, hw''⟩ := hw'
            subst hw''
            go_wp2
            go_ret
            exact ⟨ret_bool (by rw [HLF.out]; simp), below_drewN HB2.out nq⟩
      have h4b : (k == 4) = false := beq_eq_false_iff_ne.2 h4
      rw [if_neg (by omega)] at HLF
      by_cases h5 : k = 5
      · subst h5
        rw [if_pos rfl, name_same] at HLF
        unfold noB at HLF
        go_wp2_with fail
        refine (nameS_any f _ (by unfold maxLen; omega)).mono ?_
        rintro e w1 ⟨rfl, hw1⟩
        rw [← hw1]
        clear hw1
        cases hnf : nameS f
        all_goals rw [hnf] at HLF
        · go_wp2
          go_ret
          exact ⟨ret_bool (by rw [HLF.out]; rfl), HB0.out⟩
        cases ht : t.toList.isEmpty
        all_goals rw [ht] at HLF
        · go_wp2
          go_ret
          exact ⟨ret_bool (by rw [HLF.out]; rfl), HB0.out⟩
        have b3 := B0.cell 3
        have b4 := B0.cell 4
        simp at b3 b4
        have e1 : bdB lo = inB lo (-999999999) 999999999 := rfl
        have e2 : bdB hi = inB hi (-999999999) 999999999 := rfl
        rw [e1, e2] at HLF
        clear e1 e2
        go_wp2_with fail
        refine (l1In_any lo (-999999999) 999999999 _).mono ?_
        rintro e w1 ⟨rfl, hw1⟩
        rw [hw1]
        clear hw1
        generalize inB lo (-999999999) 999999999 = bl at *
        cases bl
        · go_wp2
          go_ret
          exact ⟨ret_bool (by rw [HLF.out]; rfl), HB0.out⟩
        go_wp2_with fail
        refine (l1In_any hi (-999999999) 999999999 _).mono ?_
        rintro e w1 ⟨rfl, hw1⟩
        rw [hw1]
        clear hw1
        generalize inB hi (-999999999) 999999999 = bh at *
        go_wp2
        go_ret
        exact ⟨ret_bool (by rw [HLF.out]; rfl), HB0.out⟩
      have h5b : (k == 5) = false := beq_eq_false_iff_ne.2 h5
      rw [if_neg h5] at HLF
      by_cases h6 : k = 6
      · subst h6
        rw [if_pos rfl, name_same, name_same] at HLF
        go_wp2_with fail
        refine (nameS_any f _ (by unfold maxLen; omega)).mono ?_
        rintro e w1 ⟨rfl, hw1⟩
        rw [← hw1]
        clear hw1
        cases hnf : nameS f
        all_goals rw [hnf] at HLF
        · go_wp2
          go_ret
          exact ⟨ret_bool (by rw [HLF.out]; rfl), HB0.out⟩
        go_wp2_with fail
        refine (nameS_any t _ (by unfold maxLen; omega)).mono ?_
        rintro e w1 ⟨rfl, hw1⟩
        rw [← hw1]
        clear hw1
        cases hnt : nameS t
        all_goals rw [hnt] at HLF
        · go_wp2
          go_ret
          exact ⟨ret_bool (by rw [HLF.out]; rfl), HB0.out⟩
        go_wp2
        go_ret
        exact ⟨ret_bool (by rw [HLF.out]; rfl), HB0.out⟩
      have h6b : (k == 6) = false := beq_eq_false_iff_ne.2 h6
      rw [if_neg h6] at HLF
      go_wp2
      go_ret
      exact ⟨ret_bool HLF.out.symm, HB0.out⟩
end Go.Proofs.YtjkimadnopeakaaGreatDoor
