/- The walk of the law FnDocTags. -/
import Derived.Test.YtjjfabemhdhppaaDoorDrawDocTags
import Derived.Test.YtjjfabemhdhppaaDoorDocLaw
import Derived.Test.YtjjfabemhdhppaaDoorStrSd
import Derived.Test.YtjjfabemhdhppaaDoorDocO
namespace Go.Proofs.YtjjfabemhdhppaaDoor
open Go.RowKit
set_option linter.unusedVariables false

theorem own_strs {w : World} {base : Nat} {p : Option Addr} {n c : Nat} {ss : List ByteArray} (h : w.ownsRow base 9 1 (.slice p n c) ss.length (ss.map Value.string)) : n = ss.length ∧ StrRow w p ss := by
  obtain ⟨p', c', e, hr⟩ := owns_strRow h
  injection e with h1 h2 h3
  subst h1
  exact ⟨h2, hr⟩
theorem own_slice {w : World} {base : Nat} {e : TypeId} {s n : Nat} {v : Value} {xs : List Value} (h : w.ownsRow base e s v n xs) : ∃ p c, v = .slice p n c := by
  rcases h.2 with ⟨rfl, rfl⟩ | ⟨g, c, cur, rfl, _⟩
  · exact ⟨_, _, rfl⟩
  · exact ⟨_, _, rfl⟩
theorem nameI_yes (q : ByteArray) (w : World) (h8 : q.size ≤ 8) (h : nameI q = true) : Calls Tryd.prog 9 #[.string q] w fun e w' => e = .returned (.bool true) ∧ w' = w := by
  refine (nameI_any q w (by unfold maxLen; omega)).mono ?_
  rintro e w' ⟨rfl, rfl⟩
  exact ⟨by rw [h], rfl⟩
set_option maxRecDepth 100000 in
set_option maxHeartbeats 2000000 in
theorem wFnDocTags (a0 : Option Addr) (len0 cap0 : Nat) (w : World) (hm : MaxL w) (b0 : BytesIn w a0 len0 cap0) :
    Calls Tryd.prog 3 #[.slice a0 len0 cap0] w fun e w' => e = .returned (.bool true) ∧ Below w.heap.size w w' := by
  have m0 := b0.le
  have m1 := b0.max
  unfold maxLen at m1
  by_cases hbig0 : 1048576 < (len0 : Int)
  · clear b0 hm
    go_enter Tryd.func3, Tryd.ntmps3
    go_wp2
    go_ret
    exact ⟨rfl, Below.refl _ _⟩
  have HM : Hid (∀ wx, Below w.heap.size w wx → MaxL wx) := fun wx h => hm.below h
  clear hm
  go_enter Tryd.func3, Tryd.ntmps3
  go_wp2_with fail
  refine (drawDocTags_any _ _ _ _ b0).mono ?_
  rintro e u1 ⟨vf, fs, key, v, cs, n, rfl, hfl, hfb, hof, hkey, hcs, hcb, hoc, hn, hb1⟩
  obtain ⟨pf, cf, rfl, hcf, _, hrf⟩ := owns_fldRow hof (fldTo_cells fs)
  obtain ⟨pc, cc, rfl, _, _, _, hrc⟩ := owns_celRow hoc (celTo_cells cs)
  have HSF : Hid (FldsSmall fs) := hfb.small
  have HSC : Hid (CelsSmall cs) := celsB_small hcb
  have B1 := Blk.new u1 #[.string key, .slice pc cs.length cc] 26
  have hb1a : Below u1.heap.size u1 (u1.alloc (.cells #[.string key, .slice pc cs.length cc] 26)) := (Below.refl _ u1).alloc (Nat.le_refl _) _
  have HRF : Hid (∀ wx, Below u1.heap.size u1 wx → FldRow wx pf fs) := fun wx h => hrf.below h
  have HRC : Hid (∀ wx, Below u1.heap.size u1 wx → CelRow wx pc cs) := fun wx h => hrc.below h
  have HMU : Hid (∀ wx, Below u1.heap.size u1 wx → MaxL wx) := fun wx h => HM.out wx (below_trans hb1 h)
  have hlt1 := B1.lt
  clear b0 hof hoc hfb hcb hrf hrc HM
  have HTS : Hid (∀ wx, Below u1.heap.size u1 wx → Calls Tryd.prog 8 #[.slice pf fs.length cf, .agg #[.string key, .slice pc cs.length cc], .string n] wx fun e w' => ∃ v, e = .returned v ∧ w'.ownsRow wx.heap.size 9 1 v (dtags fs key cs n).length ((dtags fs key cs n).map Value.string) ∧ Below wx.heap.size wx w') := fun wx h => docTagsS_any pf cf fs key pc cc cs n wx (by omega) HSF.out (HRF.out _ h) (by omega) (by omega) HSC.out (HRC.out _ h)
  have HTI : Hid (∀ wx, Below u1.heap.size u1 wx → Calls Tryd.prog 6 #[.slice pf fs.length cf, .agg #[.string key, .slice pc cs.length cc], .string n] wx fun e w' => ∃ v, e = .returned v ∧ w'.ownsRow wx.heap.size 9 1 v (dtags fs key cs n).length ((dtags fs key cs n).map Value.string) ∧ Below wx.heap.size wx w') := fun wx h => docTagsI_any pf cf fs key pc cc cs n wx (by omega) hcf HSF.out (HRF.out _ h) (by omega) (by omega) HSC.out (HRC.out _ h) (HMU.out _ h)
  obtain ⟨f1, f2, f3, f4⟩ := dtags_facts fs key cs n
  have HF4 : Hid (dtags fs key cs n ≠ [] → docOkB fs key cs = true ∧ dhas fs key cs n = false) := f4
  have HF1 : Hid (∀ x ∈ dtags fs key cs n, nameI x = true) := f1
  have HF2 : Hid (AscB (dtags fs key cs n)) := f2
  clear f1 f2 f4
  generalize dtags fs key cs n = T at *
  have HNS : Hid (∀ x ∈ T, x.size ≤ 8) := fun x hx => nameI_size (HF1.out x hx)
  go_wp2_with fail
  refine (HTI.out _ hb1a).mono ?_
  rintro e u2 ⟨v2, rfl, ho2, hb2⟩
  obtain ⟨p2, c2, rfl⟩ := own_slice ho2
  have R2 := (own_strs ho2).2
  have B2 := B1.below hb2 B1.lt
  have hw2 := below_trans hb1a hb2
  clear B1 hb2 hb1a ho2
  have k0 := B2.cell 0
  have k1 := B2.cell 1
  simp at k0 k1
  go_wp2_with fail
  refine (HTS.out _ hw2).mono ?_
  rintro e u3 ⟨v3, rfl, ho3, hb3⟩
  obtain ⟨p3, c3, rfl⟩ := own_slice ho3
  have R3 := (own_strs ho3).2
  have R23 := R2.below hb3
  have B3 := B2.below hb3 B2.lt
  have hw3 := below_trans hw2 hb3
  clear B2 hb3 hw2 ho3 k0 k1 R2
  go_wp2_with fail
  refine (sdTexts_same p2 p3 c2 c3 T _ (by omega) R23 R3).mono ?_
  rintro e u4 ⟨rfl, hb4⟩
  have R4 : Hid (StrRow u4 p2 T) := R23.below hb4
  have B4 := B3.below hb4 B3.lt
  have hw4 := below_trans hw3 hb4
  clear B3 hb4 hw3 R23 R3
  go_wp2
  go_loopw [7] (fun i wr => ∃ k : Nat, k ≤ T.length ∧ i = .int .i64 k ∧ Below u4.heap.size u4 wr) (fun i _ => T.length - (intOf i).toNat)
  case atStart => exact ⟨0, Nat.zero_le _, rfl, Below.refl _ _⟩
  case round =>
    obtain ⟨k, hk, rfl, hbel⟩ := hrel
    by_cases hlt : k < T.length
    · have hks : (k : Int) < (T.length : Int) := by omega
      obtain ⟨g, rfl, hg, hc⟩ := (R4.out.below hbel) (by omega)
      have c1 := hc k hlt
      have hmem : T.getD k ⟨#[]⟩ ∈ T := by
        rw [List.getD_eq_getElem?_getD, List.getElem?_eq_getElem hlt]
        exact List.getElem_mem _
      have V1 : Hid (∀ m, Calls Tryd.prog 9 #[.string (T.getD k ⟨#[]⟩)] (wr.drewN m) fun e w' => e = .returned (.bool true) ∧ w' = wr.drewN m) := fun m => nameI_yes _ _ (HNS.out _ hmem) (HF1.out _ hmem)
      clear hmem
      by_cases hk0 : k = 0
      · subst hk0
        clear hc
        generalize T.getD 0 ⟨#[]⟩ = q at *
        go_wp2
        go_quiet ((go_at_call 9; with_reducible exact Calls.quiet_of_same (V1.out _)))
        go_wp2
        go_roundw
        case rel => exact ⟨0 + 1, by omega, by go_num, below_drewN hbel _⟩
        case measure => simp [intOf]; omega
      · obtain ⟨j, rfl⟩ : ∃ j, k = j + 1 := ⟨k - 1, by omega⟩
        have c0 := hc j (by omega)
        have hls := asc_less HF2.out j hlt
        have hji : ((j + 1 : Nat) : Int) - 1 = (j : Int) := by omega
        have hjp : (0 : Int) < ((j + 1 : Nat) : Int) := by omega
        clear hc
        generalize T.getD (j + 1) ⟨#[]⟩ = q at *
        generalize T.getD j ⟨#[]⟩ = q0 at *
        go_wp2
        go_quiet ((go_at_call 9; with_reducible exact Calls.quiet_of_same (V1.out _)))
        go_wp2
        go_roundw
        case rel => exact ⟨j + 1 + 1, by omega, by go_num, below_drewN hbel _⟩
        case measure => simp [intOf]; omega
    · have hkl : k = T.length := by omega
      subst hkl
      have B4 := B4.below hbel B4.lt
      have hw4 := below_trans hw4 hbel
      have k0 := B4.cell 0
      have k1 := B4.cell 1
      simp at k0 k1
      go_wp2_with fail
      refine (docNumI_any pf cf fs key pc cc cs n _ (by omega) hcf HSF.out (HRF.out _ hw4) (by omega) (by omega) HSC.out (HRC.out _ hw4) (HMU.out _ hw4)).mono ?_
      rintro e u5 ⟨rfl, hb5⟩
      have B5 := B4.below hb5 B4.lt
      have hw5 := below_trans hw4 hb5
      clear B4 hb5 hw4 k0 k1
      have k0 := B5.cell 0
      have k1 := B5.cell 1
      simp at k0 k1
      have hle4 : (T.length : Int) ≤ 4 := by omega
      by_cases he : T = []
      · subst he
        clear HRF HRC HMU HSF HSC HTI HTS
        go_wp2
        go_ret
        exact ⟨rfl, below_trans hb1 hw5⟩
      · obtain ⟨h1, h2⟩ := HF4.out he
        have hpos : 0 < T.length := List.length_pos_iff.2 he
        have hne : ((T.length : Int) == 0) = false := by simp; omega
        rw [h2]
        clear he
        go_wp2_with fail
        refine (docOkI_any pf cf fs key pc cc cs _ (by omega) hcf HSF.out (HRF.out _ hw5) (by omega) (by omega) HSC.out (HRC.out _ hw5) (HMU.out _ hw5)).mono ?_
        rintro e u6 ⟨rfl, hb6⟩
        rw [h1]
        have hw6 := below_trans hb1 (below_trans hw5 hb6)
        clear B5 hb6 hw5 k0 k1 HRF HRC HMU HSF HSC HTI HTS
        go_wp2
        go_ret
        exact ⟨rfl, hw6⟩
end Go.Proofs.YtjjfabemhdhppaaDoor
