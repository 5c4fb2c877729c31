/- The walk of spec.l5Terms. -/
import Derived.Test.YtfakoalkbcnejaaDoorQyAskI
import Derived.Test.YtfakoalkbcnejaaDoorAddS
namespace Go.Proofs.YtfakoalkbcnejaaDoor
open Go.RowKit
set_option linter.unusedVariables false

theorem addL_le (t : ByteArray) : ∀ ss : List ByteArray, (addL ss t).length ≤ ss.length + 1
  | [] => by simp [addL]
  | s :: ss => by
    have ih := addL_le t ss
    unfold addL
    split
    · simp
      omega
    · split
      · simp
      · simp
def addAll (ss : List ByteArray) (l : List ByteArray) : List ByteArray := l.foldl addL ss
theorem addAll_le (l : List ByteArray) : ∀ ss : List ByteArray, (addAll ss l).length ≤ ss.length + l.length := by
  induction l with
  | nil => intro ss; exact Nat.le_refl _
  | cons a l ih =>
    intro ss
    have := ih (addL ss a)
    have := addL_le a ss
    show (addAll (addL ss a) l).length ≤ _
    simp
    omega
theorem addAll_app (ss l m : List ByteArray) : addAll ss (l ++ m) = addAll (addAll ss l) m := List.foldl_append
theorem addAll_one (ss l : List ByteArray) (x : ByteArray) : addAll ss (l ++ [x]) = addL (addAll ss l) x := by rw [addAll_app]; rfl
/-- spec.l5Terms at questions that have a form. -/
def AskS (D : Nat) : Prop := ∀ (d : Nat) (k : Int) (f t : ByteArray) (lo hi : Int) (ps : List Qy) (a : Option Addr) (c : Nat) (B g cg : Nat) (ss : List ByteArray) (w : World), d ≤ 4 → qformB d (.mk k f t lo hi ps) = true → QAt w 0 D a ps → QSz 1048576 D ps → t.size ≤ 1048576 → ss.length + (asked D (.mk k f t lo hi ps)).length ≤ 2000000 → B ≤ w.heap.size → w.ownsRow B 9 1 (.slice (some ⟨g, 0, none⟩) ss.length cg) ss.length (ss.map Value.string) →
  Calls Tryd.prog 44 #[.agg #[.int .i64 k, .string f, .string t, .int .i64 lo, .int .i64 hi, .slice a ps.length c], .slice (some ⟨g, 0, none⟩) ss.length cg] w fun e w' => ∃ g' c' ss', e = .returned (.slice (some ⟨g', 0, none⟩) (List.length ss') c') ∧ ss' = addAll ss (asked D (.mk k f t lo hi ps)) ∧ w'.ownsRow B 9 1 (.slice (some ⟨g', 0, none⟩) ss'.length c') ss'.length (ss'.map Value.string) ∧ Below w.heap.size w w'
set_option maxRecDepth 100000 in
set_option maxHeartbeats 4000000 in
theorem askS_of {D : Nat} (hF : ∀ D', D = D' + 1 → AskS D') : AskS D := by
  intro d k f t lo hi ps a cap B g0 cg ss w hd hfm ha hsz hts hlen hB hown0
  have HF : Hid (∀ D', D = D' + 1 → AskS D') := hF
  have hz := hsz.len
  have HS : Hid (QSz 1048576 D ps) := hsz
  have HFM : Hid (qformB d (.mk k f t lo hi ps) = true) := hfm
  have hb0 : Below w.heap.size w (w.alloc (.cells #[.int .i64 k, .string f, .string t, .int .i64 lo, .int .i64 hi, .slice a ps.length cap] 29)) := (Below.refl _ w).alloc (Nat.le_refl _) _
  have B0 := Blk.new w #[.int .i64 k, .string f, .string t, .int .i64 lo, .int .i64 hi, .slice a ps.length cap] 29
  have HA : Hid (∀ wx, Below w.heap.size w wx → QAt wx 0 D a ps) := fun wx h => ha.below h
  have hown1 := hown0.alloc (.cells #[.int .i64 k, .string f, .string t, .int .i64 lo, .int .i64 hi, .slice a ps.length cap] 29)
  obtain ⟨wa, hwa⟩ : ∃ wa, w.alloc (.cells #[.int .i64 k, .string f, .string t, .int .i64 lo, .int .i64 hi, .slice a ps.length cap] 29) = wa := ⟨_, rfl⟩
  have HWA : Hid (w.alloc (.cells #[.int .i64 k, .string f, .string t, .int .i64 lo, .int .i64 hi, .slice a ps.length cap] 29) = wa) := hwa
  rw [hwa] at hb0 B0 hown1
  have HB0 : Hid (Below w.heap.size w wa) := hb0
  have HBK : Hid (∀ wx, Below wa.heap.size wa wx → Blk wx w.heap.size #[.int .i64 k, .string f, .string t, .int .i64 lo, .int .i64 hi, .slice a ps.length cap] 29) := fun wx h => B0.below h B0.lt
  have HOW : Hid (wa.ownsRow B 9 1 (.slice (some ⟨g0, 0, none⟩) ss.length cg) ss.length (ss.map Value.string)) := hown1
  have hlt := B0.lt
  have b0 := B0.cell 0
  have b2 := B0.cell 2
  have b5 := B0.cell 5
  have hwsz := hb0.size
  simp at b0 b2 b5
  clear ha hsz hF hwa hb0 B0 hown0 hown1
  by_cases h9 : k = 9
  · rw [asked_no D k f t lo hi ps (by omega) (by omega)]
    subst h9
    clear HF HS HFM HA hfm HBK hlen
    go_enter Tryd.func44, Tryd.ntmps44
    go_upto_region 1 with fail
    rw [HWA.out]
    clear HWA
    go_wp2
    go_ret
    exact ⟨_, _, _, rfl, rfl, HOW.out, HB0.out⟩
  have h9b : (k == 9) = false := beq_eq_false_iff_ne.2 h9
  by_cases h78 : k = 7 ∨ k = 8
  · have HQ : Hid (asked D (.mk k f t lo hi ps) = askedT D ps ps.length) := asked_78 D k f t lo hi ps h78
    rw [HQ.out] at hlen ⊢
    have HTL : Hid (∀ j, j ≤ ps.length → (askedT D ps j).length ≤ (askedT D ps ps.length).length) := fun j hj => by
      have := askedT_mono D ps j (ps.length - j)
      rwa [show j + (ps.length - j) = ps.length by omega] at this
    have HPF : Hid (∀ j, j < ps.length → ∃ d', d = d' + 1 ∧ qformB d' (qat ps j) = true) := fun j hj => form_part HFM.out hj
    have h2b : (k == 2) = false := beq_eq_false_iff_ne.2 (by omega)
    have h3b : (k == 3) = false := beq_eq_false_iff_ne.2 (by omega)
    clear HQ hfm HFM
    go_enter Tryd.func44, Tryd.ntmps44
    go_upto_region 1 with fail
    rw [HWA.out]
    clear HWA
    go_wp2
    go_loopw [1, 7] (fun v i wr => ∃ (j g cg : Nat) (ss' : List ByteArray), j ≤ ps.length ∧ i = .int .i64 j ∧ v = .slice (some ⟨g, 0, none⟩) ss'.length cg ∧ ss' = addAll ss (askedT D ps j) ∧ wr.ownsRow B 9 1 (.slice (some ⟨g, 0, none⟩) ss'.length cg) ss'.length (ss'.map Value.string) ∧ Below wa.heap.size wa wr) (fun _ i _ => ps.length - (intOf i).toNat)
    case atStart => exact ⟨0, g0, cg, ss, Nat.zero_le _, rfl, rfl, by cases D <;> rfl, HOW.out, Below.refl _ _⟩
    case round =>
      obtain ⟨j, g, cg', ss', hj, rfl, rfl, hss, hown, hbel⟩ := hrel
      have HWR : Hid (Below w.heap.size w wr) := HB0.out.trans (hbel.mono HB0.out.size)
      have BR := HBK.out wr hbel
      have b0 := BR.cell 0
      have b5 := BR.cell 5
      simp at b0 b5
      by_cases hlt2 : j < ps.length
      · have hji : (j : Int) < (ps.length : Int) := by omega
        obtain ⟨D', hD⟩ : ∃ D', D = D' + 1 := by
          cases D with
          | zero =>
            have e : ps = [] := HS.out
            rw [e] at hlt2
            exact absurd hlt2 (by simp)
          | succ D' => exact ⟨D', rfl⟩
        have HF' : Hid (AskS D') := HF.out D' hD
        subst hD
        obtain ⟨gq, off, rfl, _, hg, hc⟩ := (HA.out wr HWR.out) (by omega)
        obtain ⟨p, c, ⟨c0, c1, c2, c3, c4, c5⟩, hq⟩ := hc j hlt2
        obtain ⟨s1, s2, s3⟩ := HS.out.2 j hlt2
        obtain ⟨d', hd', hf'⟩ := HPF.out j hlt2
        have hsn : askedT (D' + 1) ps (j + 1) = askedT (D' + 1) ps j ++ asked D' (qat ps j) := askedT_succ D' ps j
        have hl1 := HTL.out (j + 1) (by omega)
        have hl2 := addAll_le (askedT (D' + 1) ps j) ss
        rw [← hss] at hl2
        rw [hsn, List.length_append] at hl1
        have hl3 : ss'.length + (asked D' (qat ps j)).length ≤ 2000000 := by omega
        have HSN : Hid (addAll ss (askedT (D' + 1) ps (j + 1)) = addAll ss' (asked D' (qat ps j))) := by unfold Hid; rw [hsn, addAll_app, hss]
        have hBr : B ≤ wr.heap.size := by have := hbel.size; omega
        have HOL : Hid (wr.ownsRow B 9 1 (.slice (some ⟨g, 0, none⟩) ss'.length cg') ss'.length (ss'.map Value.string)) := hown
        generalize qat ps j = q at *
        obtain ⟨kd, f', t', lo', hi', pp⟩ := q
        simp only [Qy.kind, Qy.field, Qy.text, Qy.low, Qy.high, Qy.parts] at c0 c1 c2 c3 c4 c5 hq s1 s2 s3
        clear hc hown BR hss hsn hl1 hl2
        go_wp2_with fail
        refine (HF'.out d' kd f' t' lo' hi' pp p c B g cg' ss' _ (by omega) hf' hq s3 s2 hl3 hBr HOL.out).mono ?_
        rintro e w2 ⟨g2, c2', ss2, rfl, hs2, ho2, hb2⟩
        have hw2 := hbel.trans (hb2.mono hbel.size)
        have HE2 : Hid (ss2 = addAll ss (askedT (D' + 1) ps (j + 1))) := by unfold Hid; rw [hs2, HSN.out]
        clear c0 c1 c2 c3 c4 c5 hq hb2 hbel HOL HPF hf' hs2 HSN b0 b5 hl3
        go_wp2
        go_roundw
        case rel => exact ⟨j + 1, g2, c2', ss2, by omega, by go_num, rfl, HE2.out, ho2, hw2⟩
        case measure => simp [intOf]; omega
      · have hjl : j = ps.length := by omega
        subst hjl
        have HE : Hid (ss' = addAll ss (askedT D ps ps.length)) := hss
        clear HF HS HA HBK BR hss hlen
        go_wp2
        go_ret
        exact ⟨g, cg', ss', rfl, HE.out, hown, HWR.out⟩
  have hpn := (form_leaf hfm (by omega) (by omega) h9).1
  have hnb1 : decide ((0 : Int) < (ps.length : Int)) = false := decide_eq_false (by omega)
  have hnb2 : decide (0 < ps.length) = false := decide_eq_false (by omega)
  have h7b : (k == 7) = false := beq_eq_false_iff_ne.2 (by omega)
  have h8b : (k == 8) = false := beq_eq_false_iff_ne.2 (by omega)
  by_cases h23 : k = 2 ∨ k = 3
  · have HQ : Hid (asked D (.mk k f t lo hi ps) = nonE (termsL t)) := asked_23 D k f t lo hi ps h23
    rw [HQ.out] at hlen ⊢
    have hL := termsL_le t
    have HTM : Hid (Calls Tryd.prog 71 #[.string t] wa fun e w' => ∃ v, e = .returned v ∧ w'.ownsRow wa.heap.size 9 1 v (termsL t).length ((termsL t).map Value.string) ∧ Below wa.heap.size wa w') := termsS_any t wa hts
    generalize termsL t = L at *
    have HLN : Hid (∀ j, (nonE (L.take j)).length ≤ (nonE L).length) := fun j => by
      unfold nonE
      exact ((List.take_sublist j L).filter _).length_le
    clear HQ HF HS HA hfm HFM hpn
    rcases h23 with rfl | rfl
    all_goals
      go_enter Tryd.func44, Tryd.ntmps44
      go_upto_region 1 with fail
      rw [HWA.out]
      clear HWA
      go_wp2_with fail
      refine HTM.out.mono ?_
      rintro e w2 ⟨v2, rfl, ho2, hb2⟩
      obtain ⟨a2, c2, rfl, hr2⟩ := owns_strRow ho2
      have HBA : Hid (Below wa.heap.size wa w2) := hb2
      have HR2 : Hid (∀ wx, Below w2.heap.size w2 wx → StrRow wx a2 L) := fun wx h => hr2.below h
      have HO2 : Hid (w2.ownsRow B 9 1 (.slice (some ⟨g0, 0, none⟩) ss.length cg) ss.length (ss.map Value.string)) := apps_keep HOW.out hb2
      clear HTM ho2 hr2 hb2 b0 b2 b5 HOW
      go_wp2
      go_loopw [1, 6] (fun v i wr => ∃ (j g cg : Nat) (ss' : List ByteArray), j ≤ L.length ∧ i = .int .i64 j ∧ v = .slice (some ⟨g, 0, none⟩) ss'.length cg ∧ ss' = addAll ss (nonE (L.take j)) ∧ wr.ownsRow B 9 1 (.slice (some ⟨g, 0, none⟩) ss'.length cg) ss'.length (ss'.map Value.string) ∧ Below w2.heap.size w2 wr) (fun _ i _ => L.length - (intOf i).toNat)
      case atStart => exact ⟨0, g0, cg, ss, Nat.zero_le _, rfl, rfl, rfl, HO2.out, Below.refl _ _⟩
      case round =>
        obtain ⟨j, g, cg', ss', hj, rfl, rfl, hss, hown, hbel⟩ := hrel
        by_cases hlt2 : j < L.length
        · have hji : (j : Int) < (L.length : Int) := by omega
          obtain ⟨gx, rfl, hg, hc⟩ := (HR2.out wr hbel) (by omega)
          have c0 := hc j hlt2
          rw [List.getD_eq_getElem?_getD, List.getElem?_eq_getElem hlt2] at c0
          simp only [Option.getD_some] at c0
          have hn := nonE_snoc L j hlt2
          have hl2 := addAll_le (nonE (L.take j)) ss
          have hl1 := HLN.out j
          rw [← hss] at hl2
          have hl3 : ss'.length ≤ 2000000 := by omega
          have hBr : B ≤ wr.heap.size := by have := hbel.size; have := HBA.out.size; omega
          have HSS : Hid (ss' = addAll ss (nonE (L.take j))) := hss
          generalize L[j] = x at *
          have HOL : Hid (wr.ownsRow B 9 1 (.slice (some ⟨g, 0, none⟩) ss'.length cg') ss'.length (ss'.map Value.string)) := hown
          clear hc hown hss hl2 hl1
          cases he : x.toList.isEmpty with
          | true =>
            rw [he, if_pos rfl, List.append_nil] at hn
            have HS2 : Hid (ss' = addAll ss (nonE (L.take (j + 1)))) := by unfold Hid; rw [hn]; exact HSS.out
            clear hn HSS
            go_wp2
            go_roundw
            case rel => exact ⟨j + 1, g, cg', ss', by omega, by go_num, rfl, HS2.out, HOL.out, hbel⟩
            case measure => simp [intOf]; omega
          | false =>
            rw [he, if_neg (by decide)] at hn
            have HS2 : Hid (addL ss' x = addAll ss (nonE (L.take (j + 1)))) := by unfold Hid; rw [hn, addAll_one, ← HSS.out]
            clear hn HSS
            go_wp2_with fail
            refine (l2Add_any B g cg' ss' x wr hl3 hBr HOL.out).mono ?_
            rintro e w3 ⟨g3, c3, ss3, rfl, _, ho3, hb3, hs3⟩
            have HE3 : Hid (ss3 = addAll ss (nonE (L.take (j + 1)))) := by unfold Hid; rw [hs3, HS2.out]
            have hw3 := hbel.trans (hb3.mono hbel.size)
            clear HOL HS2 hs3 hb3 hbel c0
            go_wp2
            go_roundw
            case rel => exact ⟨j + 1, g3, c3, ss3, by omega, by go_num, rfl, HE3.out, ho3, hw3⟩
            case measure => simp [intOf]; omega
        · have hjl : j = L.length := by omega
          subst hjl
          rw [List.take_length] at hss
          have HE : Hid (ss' = addAll ss (nonE L)) := hss
          have HWA2 : Hid (Below wa.heap.size wa wr) := HBA.out.trans (hbel.mono HBA.out.size)
          have HW : Hid (Below w.heap.size w wr) := HB0.out.trans (HWA2.out.mono HB0.out.size)
          have BR := HBK.out wr HWA2.out
          have b5 := BR.cell 5
          simp at b5
          clear hss hbel HBK BR HLN
          go_wp2
          refine wp_loop_rounds 1 ?_
          rw [rounds_succ]
          go_wp2
          go_ret
          exact ⟨g, cg', ss', rfl, HE.out, hown, HW.out⟩
  have h2b : (k == 2) = false := beq_eq_false_iff_ne.2 (by omega)
  have h3b : (k == 3) = false := beq_eq_false_iff_ne.2 (by omega)
  rw [asked_no D k f t lo hi ps h23 h78]
  clear HF HS HFM HA hfm HBK hlen hpn
  go_enter Tryd.func44, Tryd.ntmps44
  go_upto_region 1 with fail
  rw [HWA.out]
  clear HWA
  go_wp2
  refine wp_loop_rounds 1 ?_
  rw [rounds_succ]
  go_wp2
  go_ret
  exact ⟨_, _, _, rfl, rfl, HOW.out, HB0.out⟩
theorem askS_any : ∀ D, AskS D
  | 0 => askS_of (fun D' h => by omega)
  | D + 1 => askS_of (fun D' h => by obtain rfl : D = D' := by omega
                                     exact askS_any D)
end Go.Proofs.YtfakoalkbcnejaaDoor
