/- The walk of impl.termsAsked. -/
import Derived.Test.YtfakoalkbcnejaaDoorQyAsked
namespace Go.Proofs.YtfakoalkbcnejaaDoor
open Go.RowKit
set_option linter.unusedVariables false

theorem apps_keep {w : World} {B : Nat} {v : Value} {n : Nat} {xs : List Value} {w' : World} (h : w.ownsRow B 9 1 v n xs) (hb : Below w.heap.size w w') : w'.ownsRow B 9 1 v n xs := h.kept (grown_none hb) (Classical.em _)
/-- impl.termsAsked at questions that have a form. -/
def AskI (D : Nat) : Prop := ∀ (d : Nat) (k : Int) (f t : ByteArray) (lo hi : Int) (ps : List Qy) (a : Option Addr) (c : Nat) (w : World), d ≤ 4 → qformB d (.mk k f t lo hi ps) = true → QAt w 0 D a ps → QSz 1048576 D ps → t.size ≤ 1048576 →
  Calls Tryd.prog 45 #[.agg #[.int .i64 k, .string f, .string t, .int .i64 lo, .int .i64 hi, .slice a ps.length c]] w fun e w' => ∃ v, e = .returned v ∧ w'.ownsRow w.heap.size 9 1 v (asked D (.mk k f t lo hi ps)).length ((asked D (.mk k f t lo hi ps)).map Value.string) ∧ Below w.heap.size w w'
theorem pow_4 {d : Nat} (h : d ≤ 4) : 60 * 4 ^ d ≤ 15360 := by
  rcases (show d = 0 ∨ d = 1 ∨ d = 2 ∨ d = 3 ∨ d = 4 by omega) with rfl | rfl | rfl | rfl | rfl <;> decide
theorem askedT_mono (D : Nat) (ps : List Qy) (j m : Nat) : (askedT D ps j).length ≤ (askedT D ps (j + m)).length := by
  induction m with
  | zero => exact Nat.le_refl _
  | succ m ih =>
    cases D with
    | zero => exact Nat.le_refl _
    | succ D =>
      rw [← Nat.add_assoc, askedT_succ, List.length_append]
      omega
theorem askedT_le {D d : Nat} {k : Int} {f t : ByteArray} {lo hi : Int} {ps : List Qy} (h : qformB d (.mk k f t lo hi ps) = true) (hd : d ≤ 4) (hk : k = 7 ∨ k = 8) (j : Nat) (hj : j ≤ ps.length) : (askedT D ps j).length ≤ 15360 := by
  have h1 := asked_len D d _ h
  rw [asked_78 _ _ _ _ _ _ _ hk] at h1
  have h2 := askedT_mono D ps j (ps.length - j)
  rw [show j + (ps.length - j) = ps.length by omega] at h2
  have := pow_4 hd
  omega
set_option maxRecDepth 100000 in
set_option maxHeartbeats 4000000 in
theorem askI_of {D : Nat} (hF : ∀ D', D = D' + 1 → AskI D') : AskI D := by
  intro d k f t lo hi ps a cap w hd hfm ha hsz hts
  obtain ⟨i0, hi0, hz0, hz1, hz2⟩ := info_parts infoStr
  have HF : Hid (∀ D', D = D' + 1 → AskI D') := hF
  have hz := hsz.len
  have HS : Hid (QSz 1048576 D ps) := hsz
  have HFM : Hid (qformB d (.mk k f t lo hi ps) = true) := hfm
  have hb0 : Below w.heap.size w (w.alloc (.cells #[.int .i64 k, .string f, .string t, .int .i64 lo, .int .i64 hi, .slice a ps.length cap] 29)) := (Below.refl _ w).alloc (Nat.le_refl _) _
  have B0 := Blk.new w #[.int .i64 k, .string f, .string t, .int .i64 lo, .int .i64 hi, .slice a ps.length cap] 29
  have HA : Hid (∀ wx, Below w.heap.size w wx → QAt wx 0 D a ps) := fun wx h => ha.below h
  obtain ⟨wa, hwa⟩ : ∃ wa, w.alloc (.cells #[.int .i64 k, .string f, .string t, .int .i64 lo, .int .i64 hi, .slice a ps.length cap] 29) = wa := ⟨_, rfl⟩
  have HWA : Hid (w.alloc (.cells #[.int .i64 k, .string f, .string t, .int .i64 lo, .int .i64 hi, .slice a ps.length cap] 29) = wa) := hwa
  rw [hwa] at hb0 B0
  have HB0 : Hid (Below w.heap.size w wa) := hb0
  have hlt := B0.lt
  have b0 := B0.cell 0
  have b2 := B0.cell 2
  have b5 := B0.cell 5
  simp at b0 b2 b5
  clear ha hsz hF hwa hb0 B0
  by_cases h23 : k = 2 ∨ k = 3
  · have HQ : Hid (asked D (.mk k f t lo hi ps) = nonE (termsL t)) := asked_23 D k f t lo hi ps h23
    rw [HQ.out]
    have hL := termsL_le t
    have HTM : Hid (Calls Tryd.prog 73 #[.string t] wa fun e w' => ∃ v, e = .returned v ∧ w'.ownsRow wa.heap.size 9 1 v (termsL t).length ((termsL t).map Value.string) ∧ Below wa.heap.size wa w') := termsI2_any t wa hts
    generalize termsL t = L at *
    clear HQ HF HS HA hfm HFM
    rcases h23 with rfl | rfl
    all_goals
      go_enter Tryd.func45, Tryd.ntmps45
      go_upto_region 1 with fail
      rw [HWA.out]
      clear HWA
      go_wp2_with fail
      refine HTM.out.mono ?_
      rintro e w2 ⟨v2, rfl, ho2, hb2⟩
      obtain ⟨a2, c2, rfl, hr2⟩ := owns_strRow ho2
      have hw2 := HB0.out.trans (hb2.mono HB0.out.size)
      have HB2 : Hid (Below w.heap.size w w2) := hw2
      have HR2 : Hid (∀ wx, Below w2.heap.size w2 wx → StrRow wx a2 L) := fun wx h => hr2.below h
      clear HTM ho2 hr2 hb2 b0 b2 b5
      go_wp2
      go_loopw [3, 17] (fun v i wr => ∃ j : Nat, j ≤ L.length ∧ i = .int .i64 j ∧ wr.ownsRow w2.heap.size 9 1 v (nonE (L.take j)).length ((nonE (L.take j)).map Value.string) ∧ Below w2.heap.size w2 wr) (fun _ i _ => L.length - (intOf i).toNat)
      case atStart => exact ⟨0, Nat.zero_le _, rfl, World.ownsRow_nil _ _ _ _, Below.refl _ _⟩
      case round =>
        obtain ⟨j, hj, rfl, hown, hbel⟩ := hrel
        by_cases hlt2 : j < L.length
        · have hji : (j : Int) < (L.length : Int) := by omega
          obtain ⟨g, rfl, hg, hc⟩ := (HR2.out wr hbel) (by omega)
          have c0 := hc j hlt2
          rw [List.getD_eq_getElem?_getD, List.getElem?_eq_getElem hlt2] at c0
          simp only [Option.getD_some] at c0
          have HN : Hid (nonE (L.take (j + 1)) = nonE (L.take j) ++ (if L[j].toList.isEmpty = true then [] else [L[j]])) := nonE_snoc L j hlt2
          have hnl : (nonE (L.take j)).length ≤ 1048576 := by
            have := nonE_len (L.take j)
            rw [List.length_take] at this
            omega
          generalize L[j] = x at *
          clear hc
          cases he : x.toList.isEmpty with
          | true =>
            rw [he, if_pos rfl, List.append_nil] at HN
            rw [← HN.out] at hown
            clear HN
            go_wp2
            go_roundw
            case rel => exact ⟨j + 1, by omega, by go_num, hown, hbel⟩
            case measure => simp [intOf]; omega
          | false =>
            rw [he, if_neg (by decide)] at HN
            have ho1 := hown.alloc (.cells #[.string x] 9)
            have HBL : Hid (Below w2.heap.size w2 wr) := hbel
            have hlo := fun q e => (hown.lt q e).1
            go_wp2_with (at_builtin; refine wpList_append_own _ rfl _ _ 40 rfl w2.heap.size 9 i0 (.string ⟨#[]⟩) 1 16 Tryd.underlying40 hi0 hz0 hz1 hz2 rfl (by decide) _ _ _ rfl ho1 ⟨wr.heap.size, 0, none⟩ 1 1 [.string x] rfl rfl (cells_new _ _ _) (str_oneQ _) (by unfold maxLen; omega) (by omega) (by have := HBL.out.size; simp; omega) ?_)
            intro v' w3 hown' hgrow _
            rw [show (nonE (L.take j)).map Value.string ++ [.string x] = (nonE (L.take (j + 1))).map Value.string from by rw [HN.out]; simp, show (nonE (L.take j)).length + 1 = (nonE (L.take (j + 1))).length from by rw [HN.out]; simp] at hown'
            have hb3 : Below w2.heap.size w2 w3 := (HBL.out.alloc HBL.out.size _).grown hgrow (by have := HBL.out.size; simp; omega) hlo
            clear hgrow hown ho1 HN hbel
            go_wp2
            go_roundw
            case rel => exact ⟨j + 1, by omega, by go_num, hown', hb3⟩
            case measure => simp [intOf]; omega
        · have hjl : j = L.length := by omega
          subst hjl
          rw [List.take_length] at hown
          have HO : Hid (wr.ownsRow w.heap.size 9 1 _ (nonE L).length ((nonE L).map Value.string)) := ownsRow_mono hown (by have := HB2.out.size; omega)
          have HW : Hid (Below w.heap.size w wr) := HB2.out.trans (hbel.mono HB2.out.size)
          clear hown hbel
          go_wp2
          go_ret
          exact ⟨_, rfl, HO.out, HW.out⟩
  have h2b : (k == 2) = false := beq_eq_false_iff_ne.2 (by omega)
  have h3b : (k == 3) = false := beq_eq_false_iff_ne.2 (by omega)
  by_cases h78 : k = 7 ∨ k = 8
  · have HQ : Hid (asked D (.mk k f t lo hi ps) = askedT D ps ps.length) := asked_78 D k f t lo hi ps h78
    rw [HQ.out]
    have HTL : Hid (∀ j, j ≤ ps.length → (askedT D ps j).length ≤ 15360) := fun j hj => askedT_le hfm hd h78 j hj
    have HPF : Hid (∀ j, j < ps.length → ∃ d', d = d' + 1 ∧ qformB d' (qat ps j) = true) := fun j hj => form_part HFM.out hj
    have hwsz := HB0.out.size
    clear HQ hfm HFM
    rcases h78 with rfl | rfl
    all_goals
      go_enter Tryd.func45, Tryd.ntmps45
      go_upto_region 1 with fail
      rw [HWA.out]
      clear HWA
      go_wp2
      go_loopw [3, 34] (fun v i wr => ∃ j : Nat, j ≤ ps.length ∧ i = .int .i64 j ∧ wr.ownsRow wa.heap.size 9 1 v (askedT D ps j).length ((askedT D ps j).map Value.string) ∧ Below wa.heap.size wa wr) (fun _ i _ => ps.length - (intOf i).toNat)
      case atStart => exact ⟨0, Nat.zero_le _, rfl, by cases D <;> exact World.ownsRow_nil _ _ _ _, Below.refl _ _⟩
      case round =>
        obtain ⟨j, hj, rfl, hown, hbel⟩ := hrel
        have HWR : Hid (Below w.heap.size w wr) := HB0.out.trans (hbel.mono HB0.out.size)
        by_cases hlt2 : j < ps.length
        · have hji : (j : Int) < (ps.length : Int) := by omega
          obtain ⟨D', hD⟩ : ∃ D', D = D' + 1 := by
            cases D with
            | zero =>
              have e : ps = [] := HS.out
              rw [e] at hlt2
              exact absurd hlt2 (by simp)
            | succ D' => exact ⟨D', rfl⟩
          have HF' : Hid (AskI D') := HF.out D' hD
          subst hD
          obtain ⟨g, off, rfl, _, hg, hc⟩ := (HA.out wr HWR.out) (by omega)
          obtain ⟨p, c, ⟨c0, c1, c2, c3, c4, c5⟩, hq⟩ := hc j hlt2
          obtain ⟨s1, s2, s3⟩ := HS.out.2 j hlt2
          obtain ⟨d', hd', hf'⟩ := HPF.out j hlt2
          have HSN : Hid (askedT (D' + 1) ps (j + 1) = askedT (D' + 1) ps j ++ asked D' (qat ps j)) := askedT_succ D' ps j
          have hl0 := HTL.out j (by omega)
          have hl1 := HTL.out (j + 1) (by omega)
          rw [HSN.out, List.length_append] at hl1
          generalize qat ps j = q at *
          obtain ⟨kd, f', t', lo', hi', pp⟩ := q
          simp only [Qy.kind, Qy.field, Qy.text, Qy.low, Qy.high, Qy.parts] at c0 c1 c2 c3 c4 c5 hq s1 s2 s3
          have hba : Below wr.heap.size wr (wr.alloc (.cells #[.int .i64 kd, .string f', .string t', .int .i64 lo', .int .i64 hi', .slice p pp.length c] 29)) := (Below.refl _ wr).alloc (Nat.le_refl _) _
          have hqa := hq.below hba
          have hwa := hbel.trans (hba.mono hbel.size)
          have HOA : Hid ((wr.alloc (.cells #[.int .i64 kd, .string f', .string t', .int .i64 lo', .int .i64 hi', .slice p pp.length c] 29)).ownsRow wa.heap.size 9 1 _ (askedT (D' + 1) ps j).length ((askedT (D' + 1) ps j).map Value.string)) := hown.alloc _
          have hlo := fun q e => (hown.lt q e).1
          clear hc hown
          go_wp2_with fail
          refine (HF'.out d' kd f' t' lo' hi' pp p c _ (by omega) hf' hqa s3 s2).mono ?_
          rintro e w2 ⟨v2, rfl, ho2, hb2⟩
          have hw2 := hwa.trans (hb2.mono hwa.size)
          have HOL : Hid (w2.ownsRow wa.heap.size 9 1 _ (askedT (D' + 1) ps j).length ((askedT (D' + 1) ps j).map Value.string)) := apps_keep HOA.out hb2
          clear c0 c1 c2 c3 c4 c5 hq hba hqa hwa hb2 hbel HOA HPF hf'
          rcases ho2.2 with ⟨rfl, hn⟩ | ⟨g2, cp2, cur2, rfl, hg2, hcb2, hl2, hm2, hcs2, htk2⟩
          · have e0 : asked D' (.mk kd f' t' lo' hi' pp) = [] := List.eq_nil_of_length_eq_zero hn
            rw [e0, List.append_nil] at HSN
            rw [← HSN.out] at HOL
            clear ho2 hn e0
            go_wp2_with (at_builtin; refine wpList_append_own_none rfl _ _ 40 rfl wa.heap.size 9 i0 1 Tryd.underlying40 hi0 _ _ _ rfl HOL.out rfl ?_)
            go_wp2
            go_roundw
            case rel => exact ⟨j + 1, by omega, by go_num, HOL.out, hw2⟩
            case measure => simp [intOf]; omega
          · have hcells := ho2.cells (g := g2) rfl
            have HW2 : Hid (Below wa.heap.size wa w2) := hw2
            clear ho2 hcb2 hg2 hl2 hm2 hcs2 htk2 hw2
            generalize asked D' (.mk kd f' t' lo' hi' pp) = L2 at *
            go_wp2_with (at_builtin; refine wpList_append_own _ rfl _ _ 40 rfl wa.heap.size 9 i0 (.string ⟨#[]⟩) 1 16 Tryd.underlying40 hi0 hz0 hz1 hz2 rfl (by decide) _ _ _ rfl HOL.out ⟨g2, 0, none⟩ L2.length _ (L2.map Value.string) rfl (by simp) hcells (strs_oneQ _) (by unfold maxLen; omega) (by omega) (by have := HW2.out.size; omega) ?_)
            intro v' w3 hown' hgrow _
            rw [← List.map_append, ← List.length_append, ← HSN.out] at hown'
            have hb3 : Below wa.heap.size wa w3 := HW2.out.grown hgrow HW2.out.size hlo
            clear hgrow HOL HSN hcells
            go_wp2
            go_roundw
            case rel => exact ⟨j + 1, by omega, by go_num, hown', hb3⟩
            case measure => simp [intOf]; omega
        · have hjl : j = ps.length := by omega
          subst hjl
          have HO : Hid (wr.ownsRow w.heap.size 9 1 _ (askedT D ps ps.length).length ((askedT D ps ps.length).map Value.string)) := ownsRow_mono hown (by have := HB0.out.size; omega)
          clear hown hbel
          go_wp2
          go_ret
          exact ⟨_, rfl, HO.out, HWR.out⟩
  have h7b : (k == 7) = false := beq_eq_false_iff_ne.2 (by omega)
  have h8b : (k == 8) = false := beq_eq_false_iff_ne.2 (by omega)
  rw [asked_no D k f t lo hi ps h23 h78]
  go_enter Tryd.func45, Tryd.ntmps45
  go_upto_region 1 with fail
  rw [HWA.out]
  clear HWA
  go_wp2
  go_ret
  exact ⟨_, rfl, World.ownsRow_nil _ _ _ _, HB0.out⟩
theorem askI_any : ∀ D, AskI D
  | 0 => askI_of (fun D' h => by omega)
  | D + 1 => askI_of (fun D' h => by obtain rfl : D = D' := by omega
                                     exact askI_any D)
end Go.Proofs.YtfakoalkbcnejaaDoor
