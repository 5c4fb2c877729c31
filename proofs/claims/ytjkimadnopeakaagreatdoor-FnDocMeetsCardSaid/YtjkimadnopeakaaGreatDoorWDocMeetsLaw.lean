/- The walk of the law FnDocMeets. -/
import Derived.Test.YtjkimadnopeakaaGreatDoorDocLaw
import Derived.Test.YtjkimadnopeakaaGreatDoorDrawDocNum
import Derived.Test.YtjkimadnopeakaaGreatDoorMtS
import Derived.Test.YtjkimadnopeakaaGreatDoorStillOne
import Derived.Deep.DeepCutAuto
namespace Go.Proofs.YtjkimadnopeakaaGreatDoor
open Go.RowKit
set_option linter.unusedVariables false

theorem fits_leafD {fs : List Fld} {k : Int} {f t : ByteArray} {lo hi : Int} (h1 : fieldsB fs = true) (h2 : leafB k f t lo hi = true) (h3 : fitOneS fs k f = true) : fitsB fs 0 k f t lo hi [] = true := by
  unfold fitsB queryB
  have e : qformB 4 (.mk k f t lo hi []) = leafB k f t lo hi := if_pos rfl
  have e2 : fitS fs 0 (.mk k f t lo hi []) = fitOneS fs k f := rfl
  rw [h1, e, h2, e2, h3]
  rfl
theorem meet_leafD {fs : List Fld} {key : ByteArray} {cs : List Cel} {k : Int} {f t : ByteArray} {lo hi : Int} (h0 : docOkB fs key cs = true) (h1 : fitsB fs 0 k f t lo hi [] = true) (h2 : leafM fs key cs k f t lo hi = true) : meetB fs key cs 0 k f t lo hi [] = true := by
  unfold meetB
  have e : meetsQ fs key cs 0 (.mk k f t lo hi []) = leafM fs key cs k f t lo hi := rfl
  rw [h0, h1, e, h2]
  rfl
theorem docOk_splitD {fs : List Fld} {key : ByteArray} {cs : List Cel} (h : docOkB fs key cs = true) : fieldsB fs = true ∧ ∀ i, i < cs.length → nameI (cat cs i).name = true := by
  unfold docOkB formB at h
  simp only [Bool.and_eq_true, decide_eq_true_eq] at h
  refine ⟨h.1.1, fun i hi => ?_⟩
  have := (allTo_iff _ _).1 h.1.2.2 i hi
  unfold celOk at this
  simp only [Bool.and_eq_true] at this
  exact this.1.2
/-- All that the law asks of a word. -/
theorem kind_name {fs : List Fld} {n : ByteArray} {k : Int} (hf : fieldsB fs = true) (hk : (fat fs (fidx fs n)).kind = k) (h0 : k ≠ 0) : nameI n = true ∧ kindB fs n k = true := by
  refine ⟨?_, by unfold kindB; rw [hk]; simp⟩
  have hlt : fidx fs n < fs.length := by
    rcases Nat.lt_or_ge (fidx fs n) fs.length with h | h
    · exact h
    · exfalso
      apply h0
      rw [← hk]
      unfold fat
      rw [List.getD_eq_getElem?_getD, List.getElem?_eq_none h]
      rfl
  have hnm : ((fat fs (fidx fs n)).name.toList == n.toList) = true := by
    rw [fat_get _ _ hlt]
    unfold fidx at hlt ⊢
    exact List.findIdx_getElem (w := hlt)
  rw [toList_eq_iff, decide_eq_true_iff] at hnm
  rw [← hnm]
  simp only [fieldsB, Bool.and_eq_true, decide_eq_true_eq, allTo_iff] at hf
  have h2 := hf.2 _ hlt
  simp only [fldOk, Bool.and_eq_true] at h2
  exact h2.1.2
theorem noB_nil : noB ⟨#[]⟩ = true := by
  unfold noB
  rw [ByteArray.toList_eq]
  rfl
theorem num_kind {fs : List Fld} {key : ByteArray} {cs : List Cel} {n : ByteArray} (h : dhas fs key cs n = true) : (fat fs (fidx fs n)).kind = 2 := by
  have h2 : toldK fs key cs n = 2 := by
    unfold dhas at h
    by_cases e : toldK fs key cs n = 2
    · exact e
    · rw [cisn_not e] at h
      cases h
  exact (toldK_pos (by rw [h2]; decide)).2.2.trans h2
/-- A document meets its own number. -/
theorem num_meets {fs : List Fld} {key : ByteArray} {cs : List Cel} {n : ByteArray} (h : dhas fs key cs n = true) : meetB fs key cs 0 5 n ⟨#[]⟩ (dnum fs key cs n) (dnum fs key cs n) [] = true ∧ (dnum fs key cs n > -999999999 → meetB fs key cs 0 5 n ⟨#[]⟩ (-999999999) (dnum fs key cs n - 1) [] = false) := by
  obtain ⟨hd, _, _, hb1, hb2⟩ := dhas_yes h
  obtain ⟨hfs, _⟩ := docOk_splitD hd
  obtain ⟨hn, hk⟩ := kind_name hfs (num_kind h) (by decide)
  refine ⟨meet_leafD hd (fits_leafD hfs ?_ ?_) ?_, fun _ => ?_⟩
  · unfold leafB
    rw [if_neg (by decide), if_neg (by decide), if_pos rfl, hn, noB_nil]
    unfold bdB
    rw [decide_eq_true hb1, decide_eq_true hb2]
    rfl
  · unfold fitOneS
    rw [if_neg (by decide), if_pos rfl, hk]
  · rw [leafM_5, h, decide_eq_true (Int.le_refl _)]
    rfl
  · unfold meetB
    have e : meetsQ fs key cs 0 (.mk 5 n ⟨#[]⟩ (-999999999) (dnum fs key cs n - 1) []) = leafM fs key cs 5 n ⟨#[]⟩ (-999999999) (dnum fs key cs n - 1) := rfl
    rw [e, leafM_5, decide_eq_false (show ¬ dnum fs key cs n ≤ dnum fs key cs n - 1 by omega), Bool.and_false, Bool.and_false, Bool.and_false]
/-- A document meets its own tags. -/
theorem tag_meets {fs : List Fld} {key : ByteArray} {cs : List Cel} {n x : ByteArray} (hx : x ∈ dtags fs key cs n) : meetB fs key cs 0 6 n x 0 0 [] = true ∧ nameI x = true := by
  have hne : dtags fs key cs n ≠ [] := List.ne_nil_of_mem hx
  obtain ⟨f1, _, _, f4⟩ := dtags_facts fs key cs n
  obtain ⟨hd, _⟩ := f4 hne
  obtain ⟨hfs, _⟩ := docOk_splitD hd
  have h3 : toldK fs key cs n = 3 := by
    by_cases e : toldK fs key cs n = 3
    · exact e
    · exact absurd (if_neg e) hne
  have hk3 := (toldK_pos (by rw [h3]; decide)).2.2.trans h3
  obtain ⟨hn, hk⟩ := kind_name hfs hk3 (by decide)
  refine ⟨meet_leafD hd (fits_leafD hfs ?_ ?_) ?_, f1 x hx⟩
  · unfold leafB
    rw [if_neg (by decide), if_neg (by decide), if_neg (by decide), if_pos rfl, hn, f1 x hx]
    decide
  · unfold fitOneS
    rw [if_neg (by decide), if_neg (by decide), if_pos rfl, hk]
  · rw [leafM_6, Lib.containsS_iff]
    exact hx
set_option maxRecDepth 100000 in
set_option maxHeartbeats 8000000 in
theorem wFnDocMeets (a0 : Option Addr) (len0 cap0 : Nat) (w : World) (hm : MaxL w) (b0 : BytesIn w a0 len0 cap0) :
    Calls Tryz.prog 7 #[.slice a0 len0 cap0] w fun e w' => e = .returned (.bool true) ∧ Below w.heap.size w w' := by
  have m0 := b0.le
  have m1 := b0.max
  unfold maxLen at m1
  by_cases hbig0 : 1048576 < (len0 : Int)
  · clear b0 hm
    go_enter Tryz.func7, Tryz.ntmps7
    go_wp2
    go_ret
    exact ⟨rfl, Below.refl _ _⟩
  have HM : Hid (∀ wx, Below w.heap.size w wx → MaxL wx) := fun wx h => hm.below h
  clear hm
  go_enter Tryz.func7, Tryz.ntmps7
  go_wp2_with fail
  refine (drawDocNum_any _ _ _ _ b0).mono ?_
  rintro e ua1 ⟨vf, fs, key, vc, cs, nn, rfl, hfl, hfb, hof, hkey, hcs, hcb, hoc, hnn, hb1⟩
  obtain ⟨pf, cf, rfl, hcf, _, hrf⟩ := owns_fldRow hof (fldTo_cells fs)
  obtain ⟨pc, cc, rfl, _, _, _, hrc⟩ := owns_celRow hoc (celTo_cells cs)
  have HB1 : Hid (Below w.heap.size w ua1) := hb1
  have HSC : Hid (CelsSmall cs) := celsB_small hcb
  have HIN : Hid (∀ wx, Below ua1.heap.size ua1 wx → MtIn wx pf cf fs key pc cs) := fun wx h => ⟨by omega, hcf, hfb.small, hrf.below h, by omega, by omega, HSC.out, hrc.below h, HM.out wx (below_trans hb1 h)⟩
  have HNI : Hid (∀ wx, Below ua1.heap.size ua1 wx → Calls Tryz.prog 33 #[.slice pf fs.length cf, .agg #[.string key, .slice pc cs.length cc], .string nn] wx fun e w' => e = .returned (.tuple #[.int .i64 (dnum fs key cs nn), .bool (dhas fs key cs nn)]) ∧ Below wx.heap.size wx w') := fun wx h => by
    have i := HIN.out wx h
    exact docNumI_any pf cf fs key pc cc cs nn wx i.zf i.cf i.sf i.rf i.zk i.zc i.sc i.rc i.m
  have HNS : Hid (∀ wx, Below ua1.heap.size ua1 wx → Calls Tryz.prog 34 #[.slice pf fs.length cf, .agg #[.string key, .slice pc cs.length cc], .string nn] wx fun e w' => e = .returned (.tuple #[.int .i64 (dnum fs key cs nn), .bool (dhas fs key cs nn)]) ∧ Below wx.heap.size wx w') := fun wx h => by
    have i := HIN.out wx h
    exact docNumS_any pf cf fs key pc cc cs nn wx i.zf i.sf i.rf i.zk i.zc i.sc i.rc
  have HMQ : Hid (∀ (k : Int) (f t : ByteArray) (lo hi : Int) (b : Bool), meetB fs key cs 0 k f t lo hi [] = b → f.size ≤ 1048576 → t.size ≤ 1048576 → ∀ wx, Below ua1.heap.size ua1 wx → Calls Tryz.prog 17 #[.slice pf fs.length cf, .agg #[.string key, .slice pc cs.length cc], .agg #[.int .i64 k, .string f, .string t, .int .i64 lo, .int .i64 hi, .slice none 0 0]] wx fun e w' => e = .returned (.bool b) ∧ Below wx.heap.size wx w') := fun k f t lo hi b hb h1 h2 wx h => by
    have := meetsI_any pf cf fs key pc cc cs k f t lo hi [] none 0 0 wx (HIN.out wx h) rfl rfl h1 h2
    rwa [hb] at this
  have HNB : Hid (dhas fs key cs nn = true → -999999999 ≤ dnum fs key cs nn ∧ dnum fs key cs nn ≤ 999999999 ∧ meetB fs key cs 0 5 nn ⟨#[]⟩ (dnum fs key cs nn) (dnum fs key cs nn) [] = true ∧ (dnum fs key cs nn > -999999999 → meetB fs key cs 0 5 nn ⟨#[]⟩ (-999999999) (dnum fs key cs nn - 1) [] = false)) := fun h => ⟨(dhas_yes h).2.2.2.1, (dhas_yes h).2.2.2.2, (num_meets h).1, (num_meets h).2⟩
  have hA1 : Below ua1.heap.size ua1 (ua1.alloc (.cells #[.string key, .slice pc cs.length cc] 37)) := (Below.refl _ _).alloc (Nat.le_refl _) _
  have D0 := Blk.new ua1 #[.string key, .slice pc cs.length cc] 37
  have hzc : cs.length ≤ 1048576 := by omega
  have hnz : nn.size ≤ 1048576 := by omega
  clear b0 HM hof hoc hrf hrc hfb hcb hb1 hcf hfl hkey hcs hnn
  generalize dnum fs key cs nn = x at *
  generalize dhas fs key cs nn = y at *
  go_upto_region 4 with fail
  obtain ⟨N, hN⟩ : ∃ N, ua1.heap.size = N := ⟨_, rfl⟩
  obtain ⟨ua2, hua2⟩ : ∃ ua2, ua1.alloc (.cells #[.string key, .slice pc cs.length cc] 37) = ua2 := ⟨_, rfl⟩
  rw [hua2] at hA1 D0 ⊢
  rw [hN] at D0 ⊢
  have HDC : Hid (∀ wx, Below ua2.heap.size ua2 wx → wx.cell? ⟨N, 0, none⟩ = some (.string key) ∧ wx.cell? ⟨N, 1, none⟩ = some (.slice pc cs.length cc) ∧ N < wx.heap.size) := fun wx h => ⟨(D0.below h D0.lt).cell 0, (D0.below h D0.lt).cell 1, (D0.below h D0.lt).lt⟩
  have HB2 : Hid (∀ wx, Below ua2.heap.size ua2 wx → Below ua1.heap.size ua1 wx) := fun wx h => below_trans hA1 h
  have HWW : Hid (∀ wx, Below ua2.heap.size ua2 wx → Below w.heap.size w wx) := fun wx h => HB1.out.trans ((below_trans hA1 h).mono HB1.out.size)
  obtain ⟨z0, z1, zl⟩ := HDC.out _ (Below.refl _ _)
  have hA2 := HB2.out ua2 (Below.refl _ _)
  clear hua2 hA1 D0 hN
  go_wp2_with fail
  refine (HNI.out _ hA2).mono ?_
  rintro e ua3 ⟨rfl, hb3⟩
  have hA3 := HB2.out _ hb3
  clear z0 z1 zl hA2
  obtain ⟨z0, z1, zl⟩ := HDC.out _ hb3
  go_wp2_with fail
  refine (HNS.out _ hA3).mono ?_
  rintro e ua4 ⟨rfl, hb4d⟩
  have hb4 := below_trans hb3 hb4d
  have hA4 := HB2.out _ hb4
  clear z0 z1 zl hA3 hb3 hb4d HNI HNS
  obtain ⟨z0, z1, zl⟩ := HDC.out _ hb4
  have hyy : (y != y) = false := by cases y <;> rfl
  have hxx : (x != x) = false := by simp
  go_upto_region 8 with fail
  go_cut [67] (fun v wx => v = .bool false ∧ Below ua2.heap.size ua2 wx)
  case first =>
    cases y with
    | false =>
      clear HNB HMQ
      go_wp2_with fail
      go_meet
      case rel => exact ⟨rfl, hb4⟩
    | true =>
      obtain ⟨hx1, hx2, e1, e2⟩ := HNB.out (by first | trivial | rfl)
      have HC1 := HMQ.out 5 nn ⟨#[]⟩ x x true e1 hnz (by decide) _ hA4
      have HE2 : Hid (x > -999999999 → meetB fs key cs 0 5 nn ⟨#[]⟩ (-999999999) (x - 1) [] = false) := e2
      clear e1 e2 HNB
      go_wp2_with fail
      refine HC1.mono ?_
      rintro e ua5 ⟨rfl, hb5d⟩
      have hb5 := below_trans hb4 hb5d
      have hA5 := HB2.out _ hb5
      clear z0 z1 zl HC1 hA4 hb4 hb5d
      obtain ⟨z0, z1, zl⟩ := HDC.out _ hb5
      by_cases hx : x > -999999999
      · have hxb : decide (x > -999999999) = true := decide_eq_true hx
        have HC2 := HMQ.out 5 nn ⟨#[]⟩ (-999999999) (x - 1) false (HE2.out hx) hnz (by decide) _ hA5
        clear HE2 HMQ
        go_wp2_with fail
        refine HC2.mono ?_
        rintro e ua6 ⟨rfl, hb6d⟩
        have hb6 := below_trans hb5 hb6d
        clear z0 z1 zl HC2
        go_wp2_with fail
        go_meet
        case rel => exact ⟨rfl, hb6⟩
      · have hxb : decide (x > -999999999) = false := decide_eq_false hx
        clear HE2 HMQ
        go_wp2_with fail
        go_meet
        case rel => exact ⟨rfl, hb5⟩
  case rest =>
    obtain ⟨rfl, hbc⟩ := hcut
    clear z0 z1 zl HNB hb4 hA4 hyy hxx
    go_wp2
    go_loopw [10] (fun i wr => ∃ j : Nat, j ≤ cs.length ∧ i = .int .i64 j ∧ Below ua2.heap.size ua2 wr) (fun i _ => cs.length - (intOf i).toNat)
    case atStart => exact ⟨0, Nat.zero_le _, rfl, hbc⟩
    case round =>
      obtain ⟨j, hj, rfl, hbel⟩ := hrel
      obtain ⟨z0, z1, zl⟩ := HDC.out _ hbel
      by_cases hlt : j < cs.length
      · have hji : (j : Int) < (cs.length : Int) := by omega
        have hAr := HB2.out _ hbel
        have ir := HIN.out _ hAr
        obtain ⟨g, off, rfl, hg, hc⟩ := ir.rc (by omega)
        have HG : Hid (∀ wx, Below ua2.heap.size ua2 wx → wx.cell? ⟨g, off + j * 2, none⟩ = some (.string (cat cs j).name) ∧ g < wx.heap.size) := fun wx h => by
          obtain ⟨g', off', e, hg', hc'⟩ := (HIN.out wx (HB2.out _ h)).rc (by omega)
          cases e
          exact ⟨(hc' j hlt).1, hg'⟩
        obtain ⟨c0, cg⟩ := HG.out _ hbel
        obtain ⟨s0, s1⟩ := HSC.out j hlt
        have hTz : (dtags fs key cs (cat cs j).name).length ≤ 2000000 := dtags_len HSC.out
        have HTG : Hid (Calls Tryz.prog 35 #[.slice pf fs.length cf, .agg #[.string key, .slice (some ⟨g, off, none⟩) cs.length cc], .string (cat cs j).name] wr.drew fun e w' => ∃ p c, e = .returned (.slice p (dtags fs key cs (cat cs j).name).length c) ∧ StrRow w' p (dtags fs key cs (cat cs j).name) ∧ Below wr.drew.heap.size wr.drew w') := by
          have i := HIN.out wr.drew (below_drew hAr)
          refine (docTagsI_any pf cf fs key (some ⟨g, off, none⟩) cc cs (cat cs j).name wr.drew i.zf i.cf i.sf i.rf i.zk i.zc i.sc i.rc i.m).mono ?_
          rintro e w' ⟨v, rfl, ho, hb⟩
          obtain ⟨p, c, rfl, hr⟩ := owns_strRow ho
          exact ⟨p, c, rfl, hr, hb⟩
        have HTM : Hid (∀ t, t ∈ dtags fs key cs (cat cs j).name → meetB fs key cs 0 6 (cat cs j).name t 0 0 [] = true ∧ t.size ≤ 8) := fun t ht => ⟨(tag_meets ht).1, nameI_size (tag_meets ht).2⟩
        clear hc ir hAr s1
        generalize dtags fs key cs (cat cs j).name = T at *
        generalize (cat cs j).name = nm at *
        go_wp2
        refine wp_region_still_one 8 (by kernel_rfl) (by kernel_rfl) rfl ?_
        simp only [List.take_succ_cons, List.take_zero]
        still_step
        still_step
        still_step
        still_step
        still_step
        still_step
        still_step
        still_step
        refine wpStill_nil ?_
        unfold OneK
        go_simp
        go_at_call 35
        refine HTG.out.mono ?_
        rintro e r0 ⟨pt, ct, rfl, rt0, hr0d⟩
        have hr0 : Below wr.heap.size wr r0 := ⟨hr0d.os, hr0d.tape, hr0d.output, hr0d.size, hr0d.block⟩
        clear hr0d
        unfold RestK
        simp only [List.drop_succ_cons, List.drop_zero]
        repeat (go_big_quiet_step (fail))
        refine wpQuiet_nil ?_
        intro r1 hw'
        have hr1 : Below wr.heap.size wr r1 := by
          obtain ⟨nq, hw''⟩ := hw'
          subst hw''
          exact below_drewN hr0 nq
        have rt : StrRow r1 pt T := by
          obtain ⟨nq, hw''⟩ := hw'
          subst hw''
          exact rt0.below (below_drewN (Below.refl _ _) nq)
        clear hw' hr0 rt0
        all_goals
          have hb12 := below_trans hbel hr1
          have HRT : Hid (∀ wx, Below r1.heap.size r1 wx → StrRow wx pt T) := fun wx h => rt.below h
          have HUP : Hid (∀ wx, Below r1.heap.size r1 wx → Below ua2.heap.size ua2 wx) := fun wx h => below_trans hb12 h
          clear HTG rt z0 z1 zl c0 cg hr1 hbel hb12
          go_wp2
          go_loopw [12] (fun i wq => ∃ n : Nat, n ≤ T.length ∧ i = .int .i64 n ∧ Below r1.heap.size r1 wq) (fun i _ => T.length - (intOf i).toNat)
          case atStart => exact ⟨0, Nat.zero_le _, rfl, Below.refl _ _⟩
          case round =>
            obtain ⟨n, hn, rfl, hbq⟩ := hrel
            have hbu := HUP.out _ hbq
            obtain ⟨z0, z1, zl⟩ := HDC.out _ hbu
            obtain ⟨c0, cg⟩ := HG.out _ hbu
            by_cases hnl : n < T.length
            · have hni : (n : Int) < (T.length : Int) := by omega
              obtain ⟨gt, rfl, hgt, hct⟩ := (HRT.out _ hbq) (by omega)
              have d0 := hct n hnl
              have hmem : T.getD n ⟨#[]⟩ ∈ T := by
                rw [List.getD_eq_getElem?_getD, List.getElem?_eq_getElem hnl]
                exact List.getElem_mem hnl
              obtain ⟨e1, e8⟩ := HTM.out _ hmem
              have HC0 := HMQ.out 6 nm (T.getD n ⟨#[]⟩) 0 0 true e1 s0 (by omega) wr.drew (below_drew (HB2.out _ hbu))
              have HCC := HC0
              clear hct hmem e1 e8 HC0
              generalize T.getD n ⟨#[]⟩ = t at *
              go_wp2
              refine wp_region_still_one 13 (by kernel_rfl) (by kernel_rfl) rfl ?_
              simp only [List.take_succ_cons, List.take_zero]
              still_step
              still_step
              still_step
              still_step
              still_step
              still_step
              still_step
              still_step
              still_step
              still_step
              still_step
              still_step
              still_step
              refine wpStill_nil ?_
              unfold OneK
              go_simp
              go_at_call 17
              refine HCC.mono ?_
              rintro e r3 ⟨rfl, hr3d⟩
              have hr3 : Below wr.heap.size wr r3 := ⟨hr3d.os, hr3d.tape, hr3d.output, hr3d.size, hr3d.block⟩
              clear hr3d
              unfold RestK
              simp only [List.drop_succ_cons, List.drop_zero]
              repeat (go_big_quiet_step (fail))
              refine wpQuiet_nil ?_
              intro r2 hw'
              have hr2 : Below wr.heap.size wr r2 := by
                obtain ⟨nq, hw''⟩ := hw'
                subst hw''
                exact below_drewN hr3 nq
              clear hw' hr3
              all_goals
                have hend := below_trans hbq hr2
                clear HCC z0 z1 zl c0 cg d0 hr2
                go_wp2
                go_roundw
                case rel => exact ⟨n + 1, by omega, by go_num, hend⟩
                case measure => simp [intOf]; omega
            · have hnle : n = T.length := by omega
              subst hnle
              go_wp2
              go_roundw
              case rel => exact ⟨j + 1, by omega, by go_num, hbu⟩
              case measure => simp [intOf]; omega
      · have hjl : j = cs.length := by omega
        subst hjl
        have hww := HWW.out _ hbel
        go_wp2
        go_ret
        exact ⟨rfl, hww⟩
end Go.Proofs.YtjkimadnopeakaaGreatDoor
