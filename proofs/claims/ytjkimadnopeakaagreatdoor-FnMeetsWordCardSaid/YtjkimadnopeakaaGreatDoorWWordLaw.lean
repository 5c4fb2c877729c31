/- The walk of the law FnMeetsWord. -/
import Derived.Test.YtjkimadnopeakaaGreatDoorDrawDoc4
import Derived.Test.YtjkimadnopeakaaGreatDoorDrA
import Derived.Test.YtjkimadnopeakaaGreatDoorTmA
namespace Go.Proofs.YtjkimadnopeakaaGreatDoor
open Go.RowKit
set_option linter.unusedVariables false

set_option maxHeartbeats 1000000 in
theorem sdKind_any (a : Option Addr) (cap : Nat) (fs : List Fld) (n : ByteArray) (w : World) (hz : fs.length ≤ 1048576) (hr : FldRow w a fs) :
    Calls Tryz.prog 30 #[.slice a fs.length cap, .string n] w fun e w' => e = .returned (.int .i64 (fat fs (fidx fs n)).kind) ∧ Below w.heap.size w w' := by
  have HR : Hid (FldRow w a fs) := hr
  have HOUT : Hid (noneTo fs n fs.length = true → (fat fs (fidx fs n)).kind = 0) := fun h => by
    rw [fidx_none h]
    simp [fat]
    rfl
  clear hr
  go_enter Tryz.func30, Tryz.ntmps30
  go_wp2
  go_loopw [5] (fun i wr => ∃ k : Nat, k ≤ fs.length ∧ i = .int .i64 k ∧ noneTo fs n k = true ∧ Below w.heap.size w wr) (fun i _ => fs.length - (intOf i).toNat)
  case atStart => exact ⟨0, Nat.zero_le _, rfl, rfl, Below.refl _ _⟩
  case round =>
    obtain ⟨k, hk, rfl, hno, hbel⟩ := hrel
    have HN0 : Hid (noneTo fs n k = true) := hno
    clear hno
    by_cases hlt : k < fs.length
    · have hks : (k : Int) < (fs.length : Int) := by omega
      obtain ⟨g, off, rfl, hg, hc⟩ := (HR.out.below hbel) (by omega)
      obtain ⟨c0, c1, c2⟩ := hc k hlt
      have HY : Hid (((fat fs k).name.toList == n.toList) = true → (fat fs (fidx fs n)).kind = (fat fs k).kind) := fun h => by rw [fidx_at hlt h HN0.out]
      have HN : Hid (((fat fs k).name.toList == n.toList) = false → noneTo fs n (k + 1) = true) := fun h => noneTo_snoc HN0.out h
      clear hc HN0 HOUT
      generalize (fat fs k).name = nm at *
      generalize (fat fs k).kind = kd at *
      cases hb : (nm.toList == n.toList) with
      | true =>
        have HB : Hid ((fat fs (fidx fs n)).kind = kd) := HY.out hb
        clear HY HN
        go_wp2
        go_ret
        exact ⟨ret_int HB.out.symm, hbel⟩
      | false =>
        have HB : Hid (noneTo fs n (k + 1) = true) := HN.out hb
        clear HY HN
        go_wp2
        go_roundw
        case rel => exact ⟨k + 1, by omega, by go_num, HB.out, hbel⟩
        case measure => simp [intOf]; omega
    · have hkl : k = fs.length := by omega
      subst hkl
      have HB : Hid ((fat fs (fidx fs n)).kind = 0) := HOUT.out HN0.out
      clear HOUT HN0
      go_wp2
      go_ret
      exact ⟨ret_int HB.out.symm, hbel⟩
set_option maxHeartbeats 2000000 in
theorem drawDocOkM_any (a : Option Addr) (len cap : Nat) (w : World) (hB : BytesIn w a len cap) :
    Calls Tryz.prog 28 #[.slice a len cap] w fun e w' => ∃ (vf : Value) (fs : List Fld) (key : ByteArray) (v : Value) (cs : List Cel), e = .returned (.tuple #[vf, .agg #[.string key, v]]) ∧ fs.length ≤ 5 ∧ FldsB fs ∧ w'.ownsRow w.heap.size 72 3 vf fs.length (fldCells fs) ∧ key.size ≤ 9 ∧ cs.length ≤ 5 ∧ CelsB cs ∧ w'.ownsRow w.heap.size 59 2 v cs.length (celCells cs) ∧ Below w.heap.size w w' := by
  have hb0 : Below w.heap.size w (w.alloc (.cells #[.string ⟨#[]⟩, .slice none 0 0] 37)) := (Below.refl _ w).alloc (Nat.le_refl _) _
  have b1 := hB.below hb0
  have q0 := Blk.new w #[.string ⟨#[]⟩, .slice none 0 0] 37
  have s0 : (w.alloc (.cells #[.string ⟨#[]⟩, .slice none 0 0] 37)).heap.size = w.heap.size + 1 := by simp
  clear hB
  go_enter Tryz.func28, Tryz.ntmps28
  go_wp2_with fail
  refine (open_any a len cap _ b1).mono ?_
  rintro e w1 ⟨len', rfl, hR1, hC1, hb1⟩
  rw [s0] at hR1 hC1 hb1 ⊢
  have q1 := q0.below hb1 (by omega)
  have hw1 := hb0.trans (hb1.mono (by omega))
  have hl1 := hR1.lt
  have HC1 : Hid (Code w1 (w.heap.size + 1) a len') := hC1
  clear b1 q0 hb0 hb1
  go_wp2_with fail
  refine (l11AnyFields_any (w.heap.size + 1) a len' cap 0 _ hR1 hC1 (by omega)).mono ?_
  rintro e w2 ⟨vf, fs, p2, rfl, hfl, hfb, hp2, hof, hR2, hg2⟩
  obtain ⟨pf, cf, rfl, hcf, _, hrf⟩ := owns_fldRow hof (fldTo_cells fs)
  have q2 := q1.grown hg2 (by simp)
  have hw2 : Below w.heap.size w w2 := hw1.grown hg2 hw1.size (fun j hj => by cases hj; omega)
  have hC2 := HC1.out.kept hg2 hl1
  have hl2 := hR2.lt
  have hfR : ∀ y, pf = some y → y.block ≠ w.heap.size + 1 := fun y e => by
    have := (hof.lt y.block (by rw [e]; rfl)).1
    omega
  clear hR1 hC1 HC1 q1 hg2
  go_wp2_with fail
  refine (l11AnyDoc_any (w.heap.size + 1) pf cf a len' cap p2 fs _ hR2 hC2 (by omega) (by omega) hrf hfR).mono ?_
  rintro e w3 ⟨key, v, cs, p, rfl, hkey, hcs, hcb, hp, hown, hR3, hg3⟩
  obtain ⟨av, cv, rfl, -, -, -, -⟩ := owns_celRow hown (celTo_cells cs)
  have q5 := q2.grown hg3 (by simp)
  have hw5 : Below w.heap.size w w3 := hw2.grown hg3 hw2.size (fun j hj => by cases hj; omega)
  have HO5 : Hid (w3.ownsRow w.heap.size 59 2 (.slice av cs.length cv) cs.length (celCells cs)) := ownsRow_mono hown hw2.size
  have HF5 : Hid (w3.ownsRow w.heap.size 72 3 (.slice pf fs.length cf) fs.length (fldCells fs)) := ownsRow_mono (own_kept hof hg3 hl1) (by have := hw1.size; omega)
  clear hR2 hC2 q2 hg3 hown hrf hfR hof hR3 hw1
  have z0 := q5.cell 0
  have z1 := q5.cell 1
  have f0 := q5.frozen 0
  have f1 := q5.frozen 1
  have q2 := ((q5.set 0 (.string key)).set 1 (.slice av cs.length cv)).cell 0
  have q6 := ((q5.set 0 (.string key)).set 1 (.slice av cs.length cv)).cell 1
  simp at z0 z1 q2 q6
  have Q2 : Hid (((w3.setCell ⟨w.heap.size, 0, none⟩ (.string key)).setCell ⟨w.heap.size, 1, none⟩ (.slice av cs.length cv)).cell? ⟨w.heap.size, 0, none⟩ = some (.string key)) := q2
  have Q3 : Hid (((w3.setCell ⟨w.heap.size, 0, none⟩ (.string key)).setCell ⟨w.heap.size, 1, none⟩ (.slice av cs.length cv)).cell? ⟨w.heap.size, 1, none⟩ = some (.slice av cs.length cv)) := q6
  have hv := own_type HO5.out q5 (by decide)
  have hvf := own_type HF5.out q5 (by decide)
  have HO6 : Hid (((w3.setCell ⟨w.heap.size, 0, none⟩ (.string key)).setCell ⟨w.heap.size, 1, none⟩ (.slice av cs.length cv)).ownsRow w.heap.size 59 2 (.slice av cs.length cv) cs.length (celCells cs)) := World.ownsRow.kept (World.ownsRow.kept HO5.out (grown_set _ _ 0 _) (.inr hv)) (grown_set _ _ 1 _) (.inr hv)
  have HF6 : Hid (((w3.setCell ⟨w.heap.size, 0, none⟩ (.string key)).setCell ⟨w.heap.size, 1, none⟩ (.slice av cs.length cv)).ownsRow w.heap.size 72 3 (.slice pf fs.length cf) fs.length (fldCells fs)) := World.ownsRow.kept (World.ownsRow.kept HF5.out (grown_set _ _ 0 _) (.inr hvf)) (grown_set _ _ 1 _) (.inr hvf)
  clear q2 q6 q5 hv hvf HO5 HF5
  go_wp2
  exact bodyPost_ret (v := .tuple #[.slice pf fs.length cf, .agg #[.string key, .slice av cs.length cv]]) (by simp [results, Tryz.results28, go_sem, Q2.out, Q3.out]) rfl ⟨_, fs, key, _, cs, rfl, hfl, hfb, HF6.out, hkey, hcs, hcb, HO6.out, (hw5.setCell (Nat.le_refl _) _).setCell (Nat.le_refl _) _⟩
set_option maxRecDepth 100000 in
set_option maxHeartbeats 8000000 in
theorem wFnMeetsWord (a0 : Option Addr) (len0 cap0 : Nat) (w : World) (hm : MaxL w) (b0 : BytesIn w a0 len0 cap0) :
    Calls Tryz.prog 6 #[.slice a0 len0 cap0] w fun e w' => e = .returned (.bool true) ∧ Below w.heap.size w w' := by
  have m0 := b0.le
  have m1 := b0.max
  unfold maxLen at m1
  by_cases hbig0 : 1048576 < (len0 : Int)
  · clear b0 hm
    go_enter Tryz.func6, Tryz.ntmps6
    go_wp2
    go_ret
    exact ⟨rfl, Below.refl _ _⟩
  have HM : Hid (∀ wx, Below w.heap.size w wx → MaxL wx) := fun wx h => hm.below h
  clear hm
  go_enter Tryz.func6, Tryz.ntmps6
  go_wp2_with fail
  refine (drawDocOkM_any _ _ _ _ b0).mono ?_
  rintro e ua1 ⟨vf, fs, key, vc, cs, rfl, hfl, hfb, hof, hkey, hcs, hcb, hoc, hb1⟩
  obtain ⟨pf, cf, rfl, hcf, _, hrf⟩ := owns_fldRow hof (fldTo_cells fs)
  obtain ⟨pc, cc, rfl, _, _, _, hrc⟩ := owns_celRow hoc (celTo_cells cs)
  have HB1 : Hid (Below w.heap.size w ua1) := hb1
  have HSC : Hid (CelsSmall cs) := fun i hi => by
    rw [cat_get _ _ hi]
    have := hcb _ (List.getElem_mem hi)
    omega
  have HIN : Hid (∀ wx, Below ua1.heap.size ua1 wx → MtIn wx pf cf fs key pc cs) := fun wx h => ⟨by omega, hcf, hfb.small, hrf.below h, by omega, by omega, HSC.out, hrc.below h, HM.out wx (below_trans hb1 h)⟩
  have HDI : Hid (∀ wx, Below ua1.heap.size ua1 wx → Calls Tryz.prog 29 #[.slice pf fs.length cf, .agg #[.string key, .slice pc cs.length cc]] wx fun e w' => e = .returned (.bool (docOkB fs key cs)) ∧ Below wx.heap.size wx w') := fun wx h => by
    have i := HIN.out wx h
    exact docOkI_any pf cf fs key pc cc cs wx i.zf i.cf i.sf i.rf i.zk i.zc i.sc i.rc i.m
  have HDO : Hid (∀ wx, Below ua1.heap.size ua1 wx → Calls Tryz.prog 22 #[.slice pf fs.length cf, .agg #[.string key, .slice pc cs.length cc]] wx fun e w' => e = .returned (.bool (docOkB fs key cs)) ∧ Below wx.heap.size wx w') := fun wx h => by
    have i := HIN.out wx h
    exact docOkS_any pf cf fs key pc cc cs wx i.zf i.sf i.rf i.zk i.zc i.sc i.rc
  have HMQ : Hid (∀ (k : Int) (f t : ByteArray), meetB fs key cs 0 k f t 0 0 [] = true → f.size ≤ 1048576 → t.size ≤ 1048576 → ∀ wx, Below ua1.heap.size ua1 wx → Calls Tryz.prog 17 #[.slice pf fs.length cf, .agg #[.string key, .slice pc cs.length cc], .agg #[.int .i64 k, .string f, .string t, .int .i64 0, .int .i64 0, .slice none 0 0]] wx fun e w' => e = .returned (.bool true) ∧ Below wx.heap.size wx w') := fun k f t hb h1 h2 wx h => by
    have := meetsI_any pf cf fs key pc cc cs k f t 0 0 [] none 0 0 wx (HIN.out wx h) rfl rfl h1 h2
    rwa [hb] at this
  have HWD : Hid (docOkB fs key cs = true → ∀ i, i < cs.length → (fat fs (fidx fs (cat cs i).name)).kind = 1 → ∀ x, x ∈ termsL (cat cs i).text → x.toList.isEmpty = false → x.size ≤ 12 ∧ 0 < x.size ∧ meetB fs key cs 0 2 ⟨#[]⟩ x 0 0 [] = true ∧ meetB fs key cs 0 2 (cat cs i).name x 0 0 [] = true ∧ meetB fs key cs 0 4 ⟨#[]⟩ (x.extract 0 1) 0 0 [] = true) := fun hd i hi hk x hx hn => by
    obtain ⟨h1, h12, _⟩ := term_of hx hn
    exact ⟨h12, (term_alone h1).2.2, word_meets hd hi (by unfold kindB; rw [hk]; rfl) hx hn⟩
  have HAL : Hid (docOkB fs key cs = true → meetB fs key cs 0 1 ⟨#[]⟩ ⟨#[]⟩ 0 0 [] = true) := all_meets
  have hA1 : Below ua1.heap.size ua1 (ua1.alloc (.cells #[.string key, .slice pc cs.length cc] 37)) := (Below.refl _ _).alloc (Nat.le_refl _) _
  have D0 := Blk.new ua1 #[.string key, .slice pc cs.length cc] 37
  have hzf : fs.length ≤ 1048576 := by omega
  have hzc : cs.length ≤ 1048576 := by omega
  clear b0 HM hof hoc hrf hrc hfb hcb hb1 hcf hfl hkey hcs
  generalize docOkB fs key cs = bd at *
  go_upto_region 4 with fail
  obtain ⟨N, hN⟩ : ∃ N, ua1.heap.size = N := ⟨_, rfl⟩
  obtain ⟨ua2, hua2⟩ : ∃ ua2, ua1.alloc (.cells #[.string key, .slice pc cs.length cc] 37) = ua2 := ⟨_, rfl⟩
  rw [hua2] at hA1 D0 ⊢
  rw [hN] at D0 ⊢
  have HDC : Hid (∀ wx, Below ua2.heap.size ua2 wx → wx.cell? ⟨N, 0, none⟩ = some (.string key) ∧ wx.cell? ⟨N, 1, none⟩ = some (.slice pc cs.length cc) ∧ N < wx.heap.size) := fun wx h => ⟨(D0.below h D0.lt).cell 0, (D0.below h D0.lt).cell 1, (D0.below h D0.lt).lt⟩
  have HB2 : Hid (∀ wx, Below ua2.heap.size ua2 wx → Below ua1.heap.size ua1 wx) := fun wx h => below_trans hA1 h
  have HWW : Hid (∀ wx, Below ua2.heap.size ua2 wx → Below w.heap.size w wx) := fun wx h => HB1.out.trans ((below_trans hA1 h).mono HB1.out.size)
  obtain ⟨z0, z1, zl⟩ := HDC.out _ (Below.refl _ _)
  have hA2 := HB2.out ua2 (Below.refl _ _)
  clear hua2 hA1 D0 hN
  go_wp2_with fail
  refine (HDI.out _ hA2).mono ?_
  rintro e ua3 ⟨rfl, hb3⟩
  have hA3 := HB2.out _ hb3
  clear z0 z1 zl hA2
  obtain ⟨z0, z1, zl⟩ := HDC.out _ hb3
  go_wp2_with fail
  refine (HDO.out _ hA3).mono ?_
  rintro e ua4 ⟨rfl, hb4d⟩
  have hb4 := below_trans hb3 hb4d
  have hA4 := HB2.out _ hb4
  clear z0 z1 zl hA3 hb3 hb4d
  obtain ⟨z0, z1, zl⟩ := HDC.out _ hb4
  cases bd with
  | false =>
    go_wp2_with fail
    refine (HDO.out _ hA4).mono ?_
    rintro e ua5 ⟨rfl, hb5⟩
    have hww := HWW.out _ (below_trans hb4 hb5)
    clear z0 z1 zl
    go_wp2
    go_ret
    exact ⟨rfl, hww⟩
  | true =>
    have HWDT : Hid (∀ i, i < cs.length → (fat fs (fidx fs (cat cs i).name)).kind = 1 → ∀ x, x ∈ termsL (cat cs i).text → x.toList.isEmpty = false → x.size ≤ 12 ∧ 0 < x.size ∧ meetB fs key cs 0 2 ⟨#[]⟩ x 0 0 [] = true ∧ meetB fs key cs 0 2 (cat cs i).name x 0 0 [] = true ∧ meetB fs key cs 0 4 ⟨#[]⟩ (x.extract 0 1) 0 0 [] = true) := HWD.out (by first | trivial | rfl)
    have HALT : Hid (meetB fs key cs 0 1 ⟨#[]⟩ ⟨#[]⟩ 0 0 [] = true) := HAL.out (by first | trivial | rfl)
    clear HWD HAL HDI HDO hA4
    go_wp2
    clear z0 z1 zl
    go_loopw [6] (fun i wr => ∃ j : Nat, j ≤ cs.length ∧ i = .int .i64 j ∧ Below ua2.heap.size ua2 wr) (fun i _ => cs.length - (intOf i).toNat)
    case atStart => exact ⟨0, Nat.zero_le _, rfl, hb4⟩
    case round =>
      obtain ⟨j, hj, rfl, hbel⟩ := hrel
      obtain ⟨z0, z1, zl⟩ := HDC.out _ hbel
      by_cases hlt : j < cs.length
      · have hji : (j : Int) < (cs.length : Int) := by omega
        have hAr := HB2.out _ hbel
        have ir := HIN.out _ hAr
        obtain ⟨g, off, rfl, hg, hc⟩ := ir.rc (by omega)
        have HG : Hid (∀ wx, Below ua2.heap.size ua2 wx → wx.cell? ⟨g, off + j * 2, none⟩ = some (.string (cat cs j).name) ∧ wx.cell? ⟨g, off + j * 2 + 1, none⟩ = some (.string (cat cs j).text) ∧ g < wx.heap.size) := fun wx h => by
          obtain ⟨g', off', e, hg', hc'⟩ := (HIN.out wx (HB2.out _ h)).rc (by omega)
          cases e
          exact ⟨(hc' j hlt).1, (hc' j hlt).2, hg'⟩
        obtain ⟨c0, c1, cg⟩ := HG.out _ hbel
        obtain ⟨s0, s1⟩ := HSC.out j hlt
        have HWJ : Hid ((fat fs (fidx fs (cat cs j).name)).kind = 1 → ∀ x, x ∈ termsL (cat cs j).text → x.toList.isEmpty = false → x.size ≤ 12 ∧ 0 < x.size ∧ meetB fs key cs 0 2 ⟨#[]⟩ x 0 0 [] = true ∧ meetB fs key cs 0 2 (cat cs j).name x 0 0 [] = true ∧ meetB fs key cs 0 4 ⟨#[]⟩ (x.extract 0 1) 0 0 [] = true) := HWDT.out j hlt
        have HKD : Hid (∀ wx, Below ua2.heap.size ua2 wx → Calls Tryz.prog 30 #[.slice pf fs.length cf, .string (cat cs j).name] wx fun e w' => e = .returned (.int .i64 (fat fs (fidx fs (cat cs j).name)).kind) ∧ Below wx.heap.size wx w') := fun wx h => sdKind_any pf cf fs _ wx hzf (HIN.out wx (HB2.out _ h)).rf
        clear hc ir hAr
        generalize (fat fs (fidx fs (cat cs j).name)).kind = K at *
        generalize cat cs j = cl at *
        obtain ⟨nm, tx⟩ := cl
        simp only at c0 c1 s0 s1 HG HWJ HKD
        go_wp2_with fail
        refine (HKD.out _ hbel).mono ?_
        rintro e v1 ⟨rfl, hv1⟩
        have hb11 := below_trans hbel hv1
        clear z0 z1 zl c0 c1 cg hv1 HKD hg
        obtain ⟨z0, z1, zl⟩ := HDC.out _ hb11
        obtain ⟨c0, c1, cg⟩ := HG.out _ hb11
        by_cases hK : K = 1
        · subst hK
          have hTL := termsL_le tx
          have HT : Hid (Calls Tryz.prog 31 #[.string tx] v1 fun e w' => ∃ p c, e = .returned (.slice p (termsL tx).length c) ∧ StrRow w' p (termsL tx) ∧ Below v1.heap.size v1 w') := by
            refine (termsI2_any tx v1 s1).mono ?_
            rintro e w' ⟨v, rfl, ho, hb⟩
            obtain ⟨p, c, rfl, hr⟩ := owns_strRow ho
            exact ⟨p, c, rfl, hr, hb⟩
          have HWX : Hid (∀ x, x ∈ termsL tx → x.toList.isEmpty = false → x.size ≤ 12 ∧ 0 < x.size ∧ meetB fs key cs 0 2 ⟨#[]⟩ x 0 0 [] = true ∧ meetB fs key cs 0 2 nm x 0 0 [] = true ∧ meetB fs key cs 0 4 ⟨#[]⟩ (x.extract 0 1) 0 0 [] = true) := HWJ.out rfl
          clear HWJ
          generalize termsL tx = ts at *
          go_wp2_with fail
          refine HT.out.mono ?_
          rintro e v2 ⟨pt, ct, rfl, rt, hv2⟩
          have hb12 := below_trans hb11 hv2
          have HRT : Hid (∀ wx, Below v2.heap.size v2 wx → StrRow wx pt ts) := fun wx h => rt.below h
          have HUP : Hid (∀ wx, Below v2.heap.size v2 wx → Below ua2.heap.size ua2 wx) := fun wx h => below_trans hb12 h
          clear HT rt z0 z1 zl c0 c1 cg hb11 hv2 hbel
          go_wp2
          go_loopw [8] (fun i wq => ∃ n : Nat, n ≤ ts.length ∧ i = .int .i64 n ∧ Below v2.heap.size v2 wq) (fun i _ => ts.length - (intOf i).toNat)
          case atStart => exact ⟨0, Nat.zero_le _, rfl, Below.refl _ _⟩
          case round =>
            obtain ⟨n, hn, rfl, hbq⟩ := hrel
            have hbu := HUP.out _ hbq
            obtain ⟨z0, z1, zl⟩ := HDC.out _ hbu
            obtain ⟨c0, c1, cg⟩ := HG.out _ hbu
            by_cases hnl : n < ts.length
            · have hni : (n : Int) < (ts.length : Int) := by omega
              obtain ⟨gt, rfl, hgt, hct⟩ := (HRT.out _ hbq) (by omega)
              have d0 := hct n hnl
              have hgt2 : gt < wr.heap.size := hgt
              have hmem : ts.getD n ⟨#[]⟩ ∈ ts := by
                rw [List.getD_eq_getElem?_getD, List.getElem?_eq_getElem hnl]
                exact List.getElem_mem hnl
              have HX := HWX.out _ hmem
              have HXH : Hid ((ts.getD n ⟨#[]⟩).toList.isEmpty = false → (ts.getD n ⟨#[]⟩).size ≤ 12 ∧ 0 < (ts.getD n ⟨#[]⟩).size ∧ meetB fs key cs 0 2 ⟨#[]⟩ (ts.getD n ⟨#[]⟩) 0 0 [] = true ∧ meetB fs key cs 0 2 nm (ts.getD n ⟨#[]⟩) 0 0 [] = true ∧ meetB fs key cs 0 4 ⟨#[]⟩ ((ts.getD n ⟨#[]⟩).extract 0 1) 0 0 [] = true) := HX
              clear HX hmem hct
              generalize ts.getD n ⟨#[]⟩ = x at *
              cases he : x.toList.isEmpty with
              | true =>
                clear HXH
                go_wp2
                go_roundw
                case rel => exact ⟨n + 1, by omega, by go_num, hbq⟩
                case measure => simp [intOf]; omega
              | false =>
                obtain ⟨x12, x0, e1, e2, e3⟩ := HXH.out he
                have hx1 : (1 : Int) ≤ (x.size : Int) := by omega
                have HM1 := HMQ.out 2 ⟨#[]⟩ x e1 (by decide) (by omega)
                have HM2 := HMQ.out 2 nm x e2 s0 (by omega)
                have HM3 := HMQ.out 4 ⟨#[]⟩ (x.extract 0 1) e3 (by decide) (by simp; omega)
                have HM1H : Hid _ := HM1
                have HM2H : Hid _ := HM2
                have HM3H : Hid _ := HM3
                clear HM1 HM2 HM3 HXH e1 e2 e3
                have hq1 : Below wr.heap.size wr (wr.alloc (.cells #[.int .i64 2, .string ⟨#[]⟩, .string x, .int .i64 0, .int .i64 0, .slice none 0 0] 41)) := (Below.refl _ _).alloc (Nat.le_refl _) _
                have O1 := Blk.new wr #[.int .i64 2, .string ⟨#[]⟩, .string x, .int .i64 0, .int .i64 0, .slice none 0 0] 41
                go_upto_region 17 with fail
                obtain ⟨G1, hG1⟩ : ∃ G1, wr.heap.size = G1 := ⟨_, rfl⟩
                obtain ⟨r1, hr1⟩ : ∃ r1, wr.alloc (.cells #[.int .i64 2, .string ⟨#[]⟩, .string x, .int .i64 0, .int .i64 0, .slice none 0 0] 41) = r1 := ⟨_, rfl⟩
                rw [hr1] at hq1 O1 ⊢
                rw [hG1] at O1 ⊢
                have hb1q := below_trans hbq hq1
                have hbu1 := HUP.out _ hb1q
                obtain ⟨gt', e9, hgt9, hct9⟩ := (HRT.out _ hb1q) (by omega)
                cases e9
                have HO1 : Hid (∀ wx, Below r1.heap.size r1 wx → Blk wx G1 #[.int .i64 2, .string ⟨#[]⟩, .string x, .int .i64 0, .int .i64 0, .slice none 0 0] 41) := fun wx h => O1.below h O1.lt
                have HDT : Hid (∀ wx, Below r1.heap.size r1 wx → wx.cell? ⟨gt, n, none⟩ = some (.string x)) := fun wx h => by
                  rw [h.cell (p := ⟨gt, n, none⟩) hgt9, hq1.cell (p := ⟨gt, n, none⟩) hgt2]
                  exact d0
                clear hct9 d0 z0 z1 zl c0 c1 cg hr1
                have d0 := HDT.out _ (Below.refl _ _)
                obtain ⟨z0, z1, zl⟩ := HDC.out _ hbu1
                obtain ⟨c0, c1, cg⟩ := HG.out _ hbu1
                have hgl1 := O1.lt
                go_cut [10] (fun v wx => v = .pointer (some ⟨r1.heap.size, 0, none⟩) ∧ Blk wx r1.heap.size #[.int .i64 2, .string nm, .string x, .int .i64 0, .int .i64 0, .slice none 0 0] 41 ∧ Below r1.heap.size r1 wx)
                case first =>
                  have HMK : Hid (Blk (r1.alloc (.cells #[.int .i64 2, .string nm, .string x, .int .i64 0, .int .i64 0, .slice none 0 0] 41)).drew r1.heap.size #[.int .i64 2, .string nm, .string x, .int .i64 0, .int .i64 0, .slice none 0 0] 41 ∧ Below r1.heap.size r1 (r1.alloc (.cells #[.int .i64 2, .string nm, .string x, .int .i64 0, .int .i64 0, .slice none 0 0] 41)).drew) := ⟨Blk.new r1 _ _, below_drew ((Below.refl _ _).alloc (Nat.le_refl _) _)⟩
                  go_region_with (fail)
                  all_goals
                    go_wp2_with fail
                    go_meet
                    case rel => exact ⟨rfl, HMK.out⟩
                case rest =>
                  obtain ⟨rfl, hBK, hbk⟩ := hcut
                  obtain ⟨G2, hG2⟩ : ∃ G2, r1.heap.size = G2 := ⟨_, rfl⟩
                  rw [hG2] at hBK ⊢
                  have HO2 : Hid (∀ wx, Below wc.heap.size wc wx → Blk wx G2 #[.int .i64 2, .string nm, .string x, .int .i64 0, .int .i64 0, .slice none 0 0] 41) := fun wx h => hBK.below h hBK.lt
                  have hb1c := below_trans hb1q hbk
                  have hbuc := HUP.out _ hb1c
                  have HO1C : Hid (∀ wx, Below wc.heap.size wc wx → Blk wx G1 #[.int .i64 2, .string ⟨#[]⟩, .string x, .int .i64 0, .int .i64 0, .slice none 0 0] 41) := fun wx h => HO1.out wx (below_trans hbk h)
                  clear d0 z0 z1 zl c0 c1 cg
                  have d0 := HDT.out _ hbk
                  obtain ⟨z0, z1, zl⟩ := HDC.out _ hbuc
                  have hq3 : Below wc.heap.size wc (wc.alloc (.cells #[.int .i64 4, .string ⟨#[]⟩, .string (x.extract 0 1), .int .i64 0, .int .i64 0, .slice none 0 0] 41)) := (Below.refl _ _).alloc (Nat.le_refl _) _
                  have O3 := Blk.new wc #[.int .i64 4, .string ⟨#[]⟩, .string (x.extract 0 1), .int .i64 0, .int .i64 0, .slice none 0 0] 41
                  have HBQC : Hid (Below v2.heap.size v2 wc) := hb1c
                  clear hbk hb1c hBK hG2 HO1 hb1q hbu1 hq1 O1 hgt9 HDT
                  go_upto_region 19 with fail
                  obtain ⟨G3, hG3⟩ : ∃ G3, wc.heap.size = G3 := ⟨_, rfl⟩
                  obtain ⟨r3, hr3⟩ : ∃ r3, wc.alloc (.cells #[.int .i64 4, .string ⟨#[]⟩, .string (x.extract 0 1), .int .i64 0, .int .i64 0, .slice none 0 0] 41) = r3 := ⟨_, rfl⟩
                  rw [hr3] at hq3 O3 ⊢
                  rw [hG3] at O3 ⊢
                  have HQ3 : Hid (∀ wx, Below r3.heap.size r3 wx → Below v2.heap.size v2 wx) := fun wx h => below_trans (below_trans HBQC.out hq3) h
                  have HO123 : Hid (∀ wx, Below r3.heap.size r3 wx → Blk wx G1 #[.int .i64 2, .string ⟨#[]⟩, .string x, .int .i64 0, .int .i64 0, .slice none 0 0] 41 ∧ Blk wx G2 #[.int .i64 2, .string nm, .string x, .int .i64 0, .int .i64 0, .slice none 0 0] 41 ∧ Blk wx G3 #[.int .i64 4, .string ⟨#[]⟩, .string (x.extract 0 1), .int .i64 0, .int .i64 0, .slice none 0 0] 41) := fun wx h => ⟨HO1C.out wx (below_trans hq3 h), HO2.out wx (below_trans hq3 h), O3.below h O3.lt⟩
                  clear d0 z0 z1 zl hr3 hG3 hq3 O3 HO1C HO2 HBQC
                  have hup := HUP.out _ (HQ3.out _ (Below.refl _ _))
                  obtain ⟨z0, z1, zl⟩ := HDC.out _ hup
                  have hOA := (HO123.out _ (Below.refl _ _)).1
                  have o0 := hOA.cell 0
                  have o1 := hOA.cell 1
                  have o2 := hOA.cell 2
                  have o3 := hOA.cell 3
                  have o4 := hOA.cell 4
                  have o5 := hOA.cell 5
                  simp at o0 o1 o2 o3 o4 o5
                  have HC1 := HM1H.out _ (HB2.out _ hup)
                  clear hOA hup
                  go_wp2_with fail
                  refine HC1.mono ?_
                  rintro e r4 ⟨rfl, hr4⟩
                  clear HC1 z0 z1 zl o0 o1 o2 o3 o4 o5
                  have hup := HUP.out _ (HQ3.out _ hr4)
                  obtain ⟨z0, z1, zl⟩ := HDC.out _ hup
                  have hOA := (HO123.out _ hr4).2.1
                  have o0 := hOA.cell 0
                  have o1 := hOA.cell 1
                  have o2 := hOA.cell 2
                  have o3 := hOA.cell 3
                  have o4 := hOA.cell 4
                  have o5 := hOA.cell 5
                  simp at o0 o1 o2 o3 o4 o5
                  have HC1 := HM2H.out _ (HB2.out _ hup)
                  clear hOA hup
                  go_wp2_with fail
                  refine HC1.mono ?_
                  rintro e r5 ⟨rfl, hr5⟩
                  have hr35 := below_trans hr4 hr5
                  clear HC1 z0 z1 zl o0 o1 o2 o3 o4 o5 hr4 hr5
                  have hup := HUP.out _ (HQ3.out _ hr35)
                  obtain ⟨z0, z1, zl⟩ := HDC.out _ hup
                  have hOA := (HO123.out _ hr35).2.2
                  have o0 := hOA.cell 0
                  have o1 := hOA.cell 1
                  have o2 := hOA.cell 2
                  have o3 := hOA.cell 3
                  have o4 := hOA.cell 4
                  have o5 := hOA.cell 5
                  simp at o0 o1 o2 o3 o4 o5
                  have HC1 := HM3H.out _ (HB2.out _ hup)
                  clear hOA hup
                  go_wp2_with fail
                  refine HC1.mono ?_
                  rintro e r6 ⟨rfl, hr6⟩
                  have hend := HQ3.out _ (below_trans hr35 hr6)
                  clear HC1 z0 z1 zl o0 o1 o2 o3 o4 o5 hr35 hr6
                  go_wp2
                  go_roundw
                  case rel => exact ⟨n + 1, by omega, by go_num, hend⟩
                  case measure => simp [intOf]; omega
            · have hnle : n = ts.length := by omega
              subst hnle
              go_wp2
              go_roundw
              case rel => exact ⟨j + 1, by omega, by go_num, hbu⟩
              case measure => simp [intOf]; omega
        · have hKb : (K != 1) = true := bne_iff_ne.2 hK
          clear HWJ
          go_wp2
          go_roundw
          case rel => exact ⟨j + 1, by omega, by go_num, hb11⟩
          case measure => simp [intOf]; omega
      · have hjl : j = cs.length := by omega
        subst hjl
        have HC := HMQ.out 1 ⟨#[]⟩ ⟨#[]⟩ HALT.out (by decide) (by decide) wr (HB2.out _ hbel)
        go_wp2_with fail
        refine HC.mono ?_
        rintro e v1 ⟨rfl, hv1⟩
        have hww := HWW.out _ (below_trans hbel hv1)
        clear HC z0 z1 zl
        go_wp2
        go_ret
        exact ⟨rfl, hww⟩
end Go.Proofs.YtjkimadnopeakaaGreatDoor
