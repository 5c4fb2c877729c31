/- spec.l5Fits; the two agree of a question that has a form. -/
import Derived.Test.YtjkimadnopeakaaGreatDoorQyFits
namespace Go.Proofs.YtjkimadnopeakaaGreatDoor
open Go.RowKit
set_option linter.unusedVariables false

/-- spec.l5Fits at questions whose parts are at most D deep. -/
def L5Fits (D : Nat) : Prop := ∀ (fa : Option Addr) (cap : Nat) (fs : List Fld) (k : Int) (f t : ByteArray) (lo hi : Int) (ps : List Qy) (a : Option Addr) (c : Nat) (w : World), fs.length ≤ 1048576 → FldRow w fa fs → QAt w 0 D a ps → QSz 1048576 D ps →
  Calls Tryz.prog 56 #[.slice fa fs.length cap, .agg #[.int .i64 k, .string f, .string t, .int .i64 lo, .int .i64 hi, .slice a ps.length c]] w fun e w' => e = .returned (.bool (fitS fs D (.mk k f t lo hi ps))) ∧ Below w.heap.size w w'
theorem fitOne_234 {fs : List Fld} {k : Int} (f : ByteArray) (h : k = 2 ∨ k = 3 ∨ k = 4) : fitOneS fs k f = (f.toList.isEmpty || kindB fs f 1) := by unfold fitOneS noB; rw [if_pos h]
theorem fitOne_5 {fs : List Fld} (f : ByteArray) : fitOneS fs 5 f = kindB fs f 2 := rfl
theorem fitOne_6 {fs : List Fld} (f : ByteArray) : fitOneS fs 6 f = kindB fs f 3 := rfl
theorem fitOne_no {fs : List Fld} {k : Int} (f : ByteArray) (h2 : k ≠ 2) (h3 : k ≠ 3) (h4 : k ≠ 4) (h5 : k ≠ 5) (h6 : k ≠ 6) : fitOneS fs k f = true := by unfold fitOneS; rw [if_neg (by omega), if_neg h5, if_neg h6]
set_option maxRecDepth 100000 in
set_option maxHeartbeats 4000000 in
theorem l5Fits_of {D : Nat} (hF : ∀ D', D = D' + 1 → L5Fits D') : L5Fits D := by
  intro fa fcap fs k f t lo hi ps a cap w hzf hrf ha hsz
  have HF : Hid (∀ D', D = D' + 1 → L5Fits D') := hF
  have hz := hsz.len
  have HS : Hid (QSz 1048576 D ps) := hsz
  have HB : Hid (fitS fs D (.mk k f t lo hi ps) = (fitTS fs D ps ps.length && fitOneS fs k f)) := fitS_split fs D _
  have hb0 : Below w.heap.size w (w.alloc (.cells #[.int .i64 k, .string f, .string t, .int .i64 lo, .int .i64 hi, .slice a ps.length cap] 41)) := (Below.refl _ w).alloc (Nat.le_refl _) _
  have B0 := Blk.new w #[.int .i64 k, .string f, .string t, .int .i64 lo, .int .i64 hi, .slice a ps.length cap] 41
  have HA : Hid (∀ wx, Below w.heap.size w wx → QAt wx 0 D a ps) := fun wx h => ha.below h
  have HFR : Hid (∀ wx, Below w.heap.size w wx → FldRow wx fa fs) := fun wx h => hrf.below h
  obtain ⟨wa, hwa⟩ : ∃ wa, w.alloc (.cells #[.int .i64 k, .string f, .string t, .int .i64 lo, .int .i64 hi, .slice a ps.length cap] 41) = wa := ⟨_, rfl⟩
  have HWA : Hid (w.alloc (.cells #[.int .i64 k, .string f, .string t, .int .i64 lo, .int .i64 hi, .slice a ps.length cap] 41) = wa) := hwa
  rw [hwa] at hb0 B0
  have HB0 : Hid (Below w.heap.size w wa) := hb0
  have HBK : Hid (∀ wx, Below wa.heap.size wa wx → Blk wx w.heap.size #[.int .i64 k, .string f, .string t, .int .i64 lo, .int .i64 hi, .slice a ps.length cap] 41) := fun wx h => B0.below h B0.lt
  clear ha hsz hF hrf hwa hb0 B0
  go_enter Tryz.func56, Tryz.ntmps56
  go_wp2
  rw [HWA.out]
  clear HWA
  go_loopw [5] (fun i wr => ∃ j : Nat, j ≤ ps.length ∧ i = .int .i64 j ∧ fitTS fs D ps j = true ∧ Below wa.heap.size wa wr) (fun i _ => ps.length - (intOf i).toNat)
  case atStart => exact ⟨0, Nat.zero_le _, rfl, by cases D <;> rfl, Below.refl _ _⟩
  case round =>
    obtain ⟨j, hj, rfl, hall, hbel⟩ := hrel
    have HAL : Hid (fitTS fs D ps j = true) := hall
    have HWR : Hid (Below w.heap.size w wr) := HB0.out.trans (hbel.mono HB0.out.size)
    have BR := HBK.out wr hbel
    have b0 := BR.cell 0
    have b1 := BR.cell 1
    have b5 := BR.cell 5
    simp at b0 b1 b5
    clear hall
    by_cases hlt : j < ps.length
    · have hji : (j : Int) < (ps.length : Int) := by omega
      obtain ⟨D', hD⟩ : ∃ D', D = D' + 1 := by
        cases D with
        | zero =>
          have e : ps = [] := HS.out
          rw [e] at hlt
          exact absurd hlt (by simp)
        | succ D' => exact ⟨D', rfl⟩
      have HF' : Hid (L5Fits D') := HF.out D' hD
      subst hD
      obtain ⟨g, off, rfl, _, hg, hc⟩ := (HA.out wr HWR.out) (by omega)
      obtain ⟨p, c, ⟨c0, c1, c2, c3, c4, c5⟩, hq⟩ := hc j hlt
      obtain ⟨s1, s2, s3⟩ := HS.out.2 j hlt
      have HNO : Hid (fitS fs D' (qat ps j) = false → fitTS fs (D' + 1) ps ps.length = false) := fun h => allTo_false _ _ j hlt h
      have HYS : Hid (fitS fs D' (qat ps j) = true → fitTS fs (D' + 1) ps (j + 1) = true) := fun h => allTo_snoc _ j HAL.out h
      generalize qat ps j = q at *
      obtain ⟨kd, f', t', lo', hi', pp⟩ := q
      simp only [Qy.kind, Qy.field, Qy.text, Qy.low, Qy.high, Qy.parts] at c0 c1 c2 c3 c4 c5 hq s1 s2 s3
      have hfr := HFR.out _ HWR.out
      clear hc BR
      go_wp2_with fail
      refine (HF'.out fa fcap fs kd f' t' lo' hi' pp p c _ hzf hfr hq s3).mono ?_
      rintro e w2 ⟨rfl, hb2⟩
      have hw2 := hbel.trans (hb2.mono hbel.size)
      have HW2 : Hid (Below w.heap.size w w2) := HB0.out.trans (hw2.mono HB0.out.size)
      clear c0 c1 c2 c3 c4 c5 hq hb2 hbel hfr b0 b1 b5
      cases hb : fitS fs D' (.mk kd f' t' lo' hi' pp) with
      | false =>
        have HR : Hid (fitS fs (D' + 1) (.mk k f t lo hi ps) = false) := by unfold Hid; rw [HB.out, HNO.out hb, Bool.false_and]
        clear HNO HYS
        go_wp2
        go_ret
        exact ⟨ret_bool HR.out.symm, HW2.out⟩
      | true =>
        have HY : Hid (fitTS fs (D' + 1) ps (j + 1) = true) := HYS.out hb
        clear HNO HYS
        go_wp2
        go_roundw
        case rel => exact ⟨j + 1, by omega, by go_num, HY.out, hw2⟩
        case measure => simp [intOf]; omega
    · have hjl : j = ps.length := by omega
      subst hjl
      rw [HAL.out, Bool.true_and] at HB
      have hfr := HFR.out _ HWR.out
      clear HS HA HBK HB0 HF HAL HFR
      by_cases h2 : k = 2 ∨ k = 3 ∨ k = 4
      · have HR : Hid (fitS fs D (.mk k f t lo hi ps) = (f.toList.isEmpty || kindB fs f 1)) := HB.out.trans (fitOne_234 f h2)
        clear HB
        rcases h2 with rfl | rfl | rfl
        all_goals
          cases hf : f.toList.isEmpty
          all_goals rw [hf] at HR
          · go_wp2_with fail
            refine (l2Kind_any fa fcap fs f 1 wr (by decide) hzf hfr).mono ?_
            rintro e w2 ⟨rfl, rfl⟩
            go_wp2
            go_ret
            exact ⟨ret_bool (by rw [HR.out]; rfl), HWR.out⟩
          · go_wp2
            go_ret
            exact ⟨ret_bool (by rw [HR.out]; rfl), HWR.out⟩
      have h2b : (k == 2) = false := beq_eq_false_iff_ne.2 (by omega)
      have h3b : (k == 3) = false := beq_eq_false_iff_ne.2 (by omega)
      have h4b : (k == 4) = false := beq_eq_false_iff_ne.2 (by omega)
      by_cases h5 : k = 5
      · subst h5
        rw [fitOne_5] at HB
        go_wp2_with fail
        refine (l2Kind_any fa fcap fs f 2 wr (by decide) hzf hfr).mono ?_
        rintro e w2 ⟨rfl, rfl⟩
        go_wp2
        go_ret
        exact ⟨ret_bool (by rw [HB.out]), HWR.out⟩
      have h5b : (k == 5) = false := beq_eq_false_iff_ne.2 h5
      by_cases h6 : k = 6
      · subst h6
        rw [fitOne_6] at HB
        go_wp2_with fail
        refine (l2Kind_any fa fcap fs f 3 wr (by decide) hzf hfr).mono ?_
        rintro e w2 ⟨rfl, rfl⟩
        go_wp2
        go_ret
        exact ⟨ret_bool (by rw [HB.out]), HWR.out⟩
      have h6b : (k == 6) = false := beq_eq_false_iff_ne.2 h6
      rw [fitOne_no f (by omega) (by omega) (by omega) h5 h6] at HB
      go_wp2
      go_ret
      exact ⟨ret_bool (by rw [HB.out]), HWR.out⟩
theorem l5Fits_any : ∀ D, L5Fits D
  | 0 => l5Fits_of (fun D' h => by omega)
  | D + 1 => l5Fits_of (fun D' h => by obtain rfl : D = D' := by omega
                                       exact l5Fits_any D)
theorem nameI_ne {f : ByteArray} (h : nameI f = true) : noB f = false := by
  unfold nameI at h
  unfold noB
  cases hf : f.toList with
  | cons a l => rfl
  | nil =>
    exfalso
    revert h
    simp [hf]
theorem one_same {fs : List Fld} {k : Int} {f : ByteArray} (h : ((k = 1 ∨ k = 7 ∨ k = 8 ∨ k = 9) ∧ noB f = true) ∨ (k = 2 ∨ k = 3 ∨ k = 4) ∨ ((k = 5 ∨ k = 6) ∧ noB f = false)) : fitOneI fs k f = fitOneS fs k f := by
  rcases h with ⟨h, hf⟩ | h | ⟨h, hf⟩
  · rw [fitOne_no f (by omega) (by omega) (by omega) (by omega) (by omega)]
    unfold fitOneI
    rw [hf, Bool.true_or]
  · rw [fitOne_234 f h]
    unfold fitOneI askK
    rw [if_neg (by omega), if_neg (by omega)]
    rfl
  · rcases h with rfl | rfl
    · rw [fitOne_5]
      unfold fitOneI
      rw [hf, Bool.false_or]
      rfl
    · rw [fitOne_6]
      unfold fitOneI
      rw [hf, Bool.false_or]
      rfl
theorem form_kinds {d : Nat} {q : Qy} (h : qformB d q = true) : ((q.kind = 1 ∨ q.kind = 7 ∨ q.kind = 8 ∨ q.kind = 9) ∧ noB q.field = true) ∨ (q.kind = 2 ∨ q.kind = 3 ∨ q.kind = 4) ∨ ((q.kind = 5 ∨ q.kind = 6) ∧ noB q.field = false) := by
  cases d with
  | zero => cases h
  | succ d =>
    unfold qformB at h
    split at h
    · unfold leafB at h
      split at h
      · simp only [Bool.and_eq_true] at h
        exact .inl ⟨.inl ‹_›, h.1.1⟩
      split at h
      · exact .inr (.inl ‹_›)
      split at h
      · simp only [Bool.and_eq_true] at h
        exact .inr (.inr ⟨.inl ‹_›, nameI_ne h.1.1.1⟩)
      split at h
      · simp only [Bool.and_eq_true] at h
        exact .inr (.inr ⟨.inr ‹_›, nameI_ne h.1.1⟩)
      · cases h
    · unfold manyPartsB at h
      simp only [Bool.and_eq_true] at h
      have h1 := h.1.1.1.1
      refine .inl ⟨?_, h.1.1.1.2⟩
      split at h1
      · omega
      split at h1
      · omega
      · cases h1
theorem form_part {d : Nat} {q : Qy} (h : qformB d q = true) {i : Nat} (hi : i < q.parts.length) : ∃ d', d = d' + 1 ∧ qformB d' (qat q.parts i) = true := by
  cases d with
  | zero => cases h
  | succ d =>
    unfold qformB at h
    rw [if_neg (by omega), Bool.and_eq_true] at h
    exact ⟨d, rfl, (allTo_iff _ _).1 h.2 i hi⟩
/-- Of a question that has a form both say the same. -/
theorem fit_same (fs : List Fld) : ∀ (D d : Nat) (q : Qy), qformB d q = true → fitI fs D q = fitS fs D q
  | 0, d, q, h => one_same (form_kinds h)
  | D + 1, d, q, h => by
    show (allTo (fun i => fitI fs D (qat q.parts i)) q.parts.length && fitOneI fs q.kind q.field) = (allTo (fun i => fitS fs D (qat q.parts i)) q.parts.length && fitOneS fs q.kind q.field)
    rw [one_same (form_kinds h), allTo_congr fun i hi => by
      obtain ⟨d', _, h'⟩ := form_part h hi
      exact fit_same fs D d' _ h']
end Go.Proofs.YtjkimadnopeakaaGreatDoor
