/- impl.QueryOk. -/
import Derived.Test.YtjkimadnopeakaaGreatDoorQySought
namespace Go.Proofs.YtjkimadnopeakaaGreatDoor
open Go.RowKit
set_option linter.unusedVariables false

def partsB (least most : Nat) (d : Nat) (ps : List Qy) : Bool := decide (least ≤ ps.length) && decide (ps.length ≤ most) && allTo (fun i => qformB d (qat ps i)) ps.length
theorem zero_no {lo hi : Int} (h : zeroB lo hi = false) : (lo == 0) = false ∨ (lo = 0 ∧ (hi == 0) = false) := by
  unfold zeroB at h
  cases h1 : (lo == 0) with
  | false => exact .inl rfl
  | true =>
    rw [h1, Bool.true_and] at h
    exact .inr ⟨by simpa using h1, h⟩
theorem form_nz {d : Nat} {k : Int} {f t : ByteArray} {lo hi : Int} {ps : List Qy} (h5 : k ≠ 5) (hz : zeroB lo hi = false) : qformB (d + 1) (.mk k f t lo hi ps) = false := by
  show (if ps.length = 0 then leafB k f t lo hi else manyPartsB k f t lo hi ps.length && _) = false
  unfold leafB manyPartsB
  rw [hz]
  simp [h5]
theorem form_1 {d : Nat} {f t : ByteArray} {ps : List Qy} {k : Int} (hk : k = 1) : qformB (d + 1) (.mk k f t 0 0 ps) = (f.toList.isEmpty && t.toList.isEmpty && decide (ps.length = 0)) := by
  subst hk
  show (if ps.length = 0 then leafB 1 f t 0 0 else manyPartsB 1 f t 0 0 ps.length && _) = _
  by_cases hn : ps.length = 0
  · rw [if_pos hn]; simp [leafB, zeroB, noB, hn]
  · rw [if_neg hn]; simp [manyPartsB, hn]
theorem form_234 {d : Nat} {k : Int} {f t : ByteArray} {ps : List Qy} (hk : k = 2 ∨ k = 3 ∨ k = 4) : qformB (d + 1) (.mk k f t 0 0 ps) = ((f.toList.isEmpty || nameI f) && wantB k t && decide (ps.length = 0)) := by
  show (if ps.length = 0 then leafB k f t 0 0 else manyPartsB k f t 0 0 ps.length && _) = _
  by_cases hn : ps.length = 0
  · rw [if_pos hn]
    unfold leafB
    rw [if_neg (by omega), if_pos hk]
    simp [zeroB, noB, hn]
  · rw [if_neg hn]
    unfold manyPartsB
    rw [if_neg (by omega), if_neg (by omega)]
    simp [hn]
theorem form_5 {d : Nat} {f t : ByteArray} {lo hi : Int} {ps : List Qy} {k : Int} (hk : k = 5) : qformB (d + 1) (.mk k f t lo hi ps) = (nameI f && t.toList.isEmpty && bdB lo && bdB hi && decide (ps.length = 0)) := by
  subst hk
  show (if ps.length = 0 then leafB 5 f t lo hi else manyPartsB 5 f t lo hi ps.length && _) = _
  by_cases hn : ps.length = 0
  · rw [if_pos hn]; simp [leafB, noB, hn]
  · rw [if_neg hn]; simp [manyPartsB, hn]
theorem form_6 {d : Nat} {f t : ByteArray} {ps : List Qy} {k : Int} (hk : k = 6) : qformB (d + 1) (.mk k f t 0 0 ps) = (nameI f && nameI t && decide (ps.length = 0)) := by
  subst hk
  show (if ps.length = 0 then leafB 6 f t 0 0 else manyPartsB 6 f t 0 0 ps.length && _) = _
  by_cases hn : ps.length = 0
  · rw [if_pos hn]; simp [leafB, zeroB, hn]
  · rw [if_neg hn]; simp [manyPartsB, hn]
theorem form_78 {d : Nat} {k : Int} {f t : ByteArray} {ps : List Qy} (hk : k = 7 ∨ k = 8) : qformB (d + 1) (.mk k f t 0 0 ps) = (f.toList.isEmpty && t.toList.isEmpty && partsB 2 4 d ps) := by
  show (if ps.length = 0 then leafB k f t 0 0 else manyPartsB k f t 0 0 ps.length && allTo (fun i => qformB d (qat ps i)) ps.length) = _
  unfold partsB
  by_cases hn : ps.length = 0
  · rw [if_pos hn, hn]
    unfold leafB
    rw [if_neg (by omega), if_neg (by omega), if_neg (by omega), if_neg (by omega)]
    simp
  · rw [if_neg hn]
    unfold manyPartsB
    rw [if_pos hk]
    simp only [zeroB, noB]
    cases f.toList.isEmpty <;> cases t.toList.isEmpty <;> simp
theorem form_9 {d : Nat} {f t : ByteArray} {ps : List Qy} {k : Int} (hk : k = 9) : qformB (d + 1) (.mk k f t 0 0 ps) = (f.toList.isEmpty && t.toList.isEmpty && partsB 1 1 d ps) := by
  subst hk
  show (if ps.length = 0 then leafB 9 f t 0 0 else manyPartsB 9 f t 0 0 ps.length && allTo (fun i => qformB d (qat ps i)) ps.length) = _
  unfold partsB
  by_cases hn : ps.length = 0
  · rw [if_pos hn, hn]; simp [leafB]
  · rw [if_neg hn]
    have e : (ps.length == 1) = (decide (1 ≤ ps.length) && decide (ps.length ≤ 1)) := by
      rw [Bool.eq_iff_iff]
      simp
      omega
    unfold manyPartsB
    rw [if_neg (by decide), if_pos rfl, e]
    simp only [zeroB, noB]
    cases f.toList.isEmpty <;> cases t.toList.isEmpty <;> simp
theorem form_none {d : Nat} {k : Int} {f t : ByteArray} {lo hi : Int} {ps : List Qy} (hk : k < 1 ∨ 9 < k) : qformB (d + 1) (.mk k f t lo hi ps) = false := by
  show (if ps.length = 0 then leafB k f t lo hi else manyPartsB k f t lo hi ps.length && _) = false
  have h1 : leafB k f t lo hi = false := by
    unfold leafB
    rw [if_neg (by omega), if_neg (by omega), if_neg (by omega), if_neg (by omega)]
  have h2 : ∀ n, manyPartsB k f t lo hi n = false := fun n => by
    unfold manyPartsB
    rw [if_neg (by omega), if_neg (by omega)]
    rfl
  rw [h1, h2]
  simp
theorem boundOk_any (x : Int) (w : World) : Calls Tryz.prog 133 #[.int .i64 x] w fun e w' => e = .returned (.bool (bdB x)) ∧ w' = w := by
  have HB : Hid (bdB x = (decide (-999999999 ≤ x) && decide (x ≤ 999999999))) := rfl
  cases h1 : decide (-999999999 ≤ x)
  all_goals
    rw [h1] at HB
    go_enter Tryz.func133, Tryz.ntmps133
    go_wp2
    go_ret
    exact ⟨by rw [HB.out]; rfl, rfl⟩
/-- impl.formOk, d deep. -/
def FormI (d : Nat) : Prop := ∀ (k : Int) (f t : ByteArray) (lo hi : Int) (ps : List Qy) (a : Option Addr) (c D : Nat) (w : World), QAt w 0 D a ps → QSz 1048576 D ps → f.size ≤ 1048576 → t.size ≤ 1048576 → MaxL w →
  Calls Tryz.prog 102 #[.agg #[.int .i64 k, .string f, .string t, .int .i64 lo, .int .i64 hi, .slice a ps.length c], .int .i64 (d : Nat)] w fun e w' => e = .returned (.bool (qformB d (.mk k f t lo hi ps))) ∧ Below w.heap.size w w'
def PartsI (d : Nat) : Prop := ∀ (ps : List Qy) (a : Option Addr) (c D least most : Nat) (w : World), QAt w 0 D a ps → QSz 1048576 D ps → least ≤ 10 → most ≤ 10 → MaxL w →
  Calls Tryz.prog 134 #[.slice a ps.length c, .int .i64 (least : Nat), .int .i64 (most : Nat), .int .i64 (d : Nat)] w fun e w' => e = .returned (.bool (partsB least most d ps)) ∧ Below w.heap.size w w'
set_option maxRecDepth 100000 in
theorem formI_zero : FormI 0 := by
  intro k f t lo hi ps a c D w _ _ _ _ _
  have HF : Hid (qformB 0 (.mk k f t lo hi ps) = false) := rfl
  go_enter Tryz.func102, Tryz.ntmps102
  go_wp2
  go_ret
  exact ⟨ret_bool HF.out.symm, (Below.refl _ w).alloc (Nat.le_refl _) _⟩
set_option maxRecDepth 100000 in
set_option maxHeartbeats 2000000 in
theorem partsI_of {d : Nat} (hd : d ≤ 4) (hF : FormI d) : PartsI d := by
  intro ps a cap D least most w ha hsz hl hm hmx
  have HF : Hid (FormI d) := hF
  have HA : Hid (∀ wx, Below w.heap.size w wx → QAt wx 0 D a ps) := fun wx h => ha.below h
  have HM : Hid (∀ wx, Below w.heap.size w wx → MaxL wx) := fun wx h => hmx.below h
  have hz := hsz.len
  have HS : Hid (QSz 1048576 D ps) := hsz
  have HB : Hid (partsB least most d ps = (decide (least ≤ ps.length) && decide (ps.length ≤ most) && allTo (fun i => qformB d (qat ps i)) ps.length)) := rfl
  clear ha hsz hF hmx
  by_cases h1 : ps.length < least
  · have h1i : (ps.length : Int) < (least : Int) := by omega
    rw [decide_eq_false (by omega : ¬ least ≤ ps.length)] at HB
    go_enter Tryz.func134, Tryz.ntmps134
    go_wp2
    go_ret
    exact ⟨ret_bool (by rw [HB.out]; rfl), Below.refl _ _⟩
  have h1i : decide ((ps.length : Int) < (least : Int)) = false := decide_eq_false (by omega)
  have h1n : decide (ps.length < least) = false := decide_eq_false h1
  by_cases h2 : most < ps.length
  · have h2i : (most : Int) < (ps.length : Int) := by omega
    rw [decide_eq_true (by omega : least ≤ ps.length), decide_eq_false (by omega : ¬ ps.length ≤ most)] at HB
    go_enter Tryz.func134, Tryz.ntmps134
    go_wp2
    go_ret
    exact ⟨ret_bool (by rw [HB.out]; rfl), Below.refl _ _⟩
  have h2i : decide ((most : Int) < (ps.length : Int)) = false := decide_eq_false (by omega)
  have h2n : decide (most < ps.length) = false := decide_eq_false h2
  rw [decide_eq_true (by omega : least ≤ ps.length), decide_eq_true (by omega : ps.length ≤ most), Bool.true_and, Bool.true_and] at HB
  go_enter Tryz.func134, Tryz.ntmps134
  go_wp2
  go_loopw [23] (fun i wr => ∃ j : Nat, j ≤ ps.length ∧ i = .int .i64 j ∧ allTo (fun i => qformB d (qat ps i)) j = true ∧ Below w.heap.size w wr) (fun i _ => ps.length - (intOf i).toNat)
  case atStart => exact ⟨0, Nat.zero_le _, rfl, rfl, Below.refl _ _⟩
  case round =>
    obtain ⟨j, hj, rfl, hall, hbel⟩ := hrel
    have HAL : Hid (allTo (fun i => qformB d (qat ps i)) j = true) := hall
    clear hall
    by_cases hlt : j < ps.length
    · have hji : (j : Int) < (ps.length : Int) := by omega
      obtain ⟨D', hD⟩ : ∃ D', D = D' + 1 := by
        cases D with
        | zero =>
          have e : ps = [] := HS.out
          rw [e] at hlt
          exact absurd hlt (by simp)
        | succ D' => exact ⟨D', rfl⟩
      subst hD
      obtain ⟨g, off, rfl, _, hg, hc⟩ := (HA.out wr hbel) (by omega)
      obtain ⟨p, c, ⟨c0, c1, c2, c3, c4, c5⟩, hq⟩ := hc j hlt
      obtain ⟨s1, s2, s3⟩ := HS.out.2 j hlt
      have HNO : Hid (qformB d (qat ps j) = false → allTo (fun i => qformB d (qat ps i)) ps.length = false) := fun h => allTo_false _ _ j hlt h
      have HYS : Hid (qformB d (qat ps j) = true → allTo (fun i => qformB d (qat ps i)) (j + 1) = true) := fun h => allTo_snoc _ j HAL.out h
      have hqe := Qy.eta (qat ps j)
      generalize qat ps j = q at *
      obtain ⟨kd, f, t, lo, hi', pp⟩ := q
      simp only [Qy.kind, Qy.field, Qy.text, Qy.low, Qy.high, Qy.parts] at c0 c1 c2 c3 c4 c5 hq s1 s2 s3
      have hba : Below wr.heap.size wr (wr.alloc (.cells #[.int .i64 kd, .string f, .string t, .int .i64 lo, .int .i64 hi', .slice p pp.length c] 41)) := (Below.refl _ wr).alloc (Nat.le_refl _) _
      have hqa := hq.below hba
      have hma := HM.out _ (hbel.trans (hba.mono hbel.size))
      have hwa := hbel.trans (hba.mono hbel.size)
      clear hc hqe
      go_wp2_with fail
      refine (HF.out kd f t lo hi' pp p c D' _ hqa s3 s1 s2 hma).mono ?_
      rintro e w2 ⟨rfl, hb2⟩
      have hw2 := hwa.trans (hb2.mono hwa.size)
      clear c0 c1 c2 c3 c4 c5 hq hba hqa hma hwa hb2 hbel
      cases hb : qformB d (.mk kd f t lo hi' pp) with
      | false =>
        have HR : Hid (partsB least most d ps = false) := by unfold Hid; rw [HB.out]; exact HNO.out hb
        clear HNO HYS
        go_wp2
        go_ret
        exact ⟨ret_bool HR.out.symm, hw2⟩
      | true =>
        have HY : Hid (allTo (fun i => qformB d (qat ps i)) (j + 1) = true) := HYS.out hb
        clear HNO HYS
        go_wp2
        go_roundw
        case rel => exact ⟨j + 1, by omega, by go_num, HY.out, hw2⟩
        case measure => simp [intOf]; omega
    · have hjl : j = ps.length := by omega
      subst hjl
      have HR : Hid (partsB least most d ps = true) := by unfold Hid; rw [HB.out]; exact HAL.out
      go_wp2
      go_ret
      exact ⟨ret_bool HR.out.symm, hbel⟩
set_option maxRecDepth 100000 in
set_option maxHeartbeats 8000000 in
theorem formI_of {d : Nat} (hd : d ≤ 3) (hP : PartsI d) : FormI (d + 1) := by
  intro k f t lo hi ps a c D w ha hsz hfs hts hm
  have HP : Hid (PartsI d) := hP
  have hb0 : Below w.heap.size w (w.alloc (.cells #[.int .i64 k, .string f, .string t, .int .i64 lo, .int .i64 hi, .slice a ps.length c] 41)) := (Below.refl _ w).alloc (Nat.le_refl _) _
  have HB0 : Hid (Below w.heap.size w (w.alloc (.cells #[.int .i64 k, .string f, .string t, .int .i64 lo, .int .i64 hi, .slice a ps.length c] 41))) := hb0
  have B0 := Blk.new w #[.int .i64 k, .string f, .string t, .int .i64 lo, .int .i64 hi, .slice a ps.length c] 41
  have ha0 := ha.below hb0
  have hm0 := hm.below hb0
  have hd0 : (((d + 1 : Nat) : Int) == 0) = false := beq_eq_false_iff_ne.2 (by omega)
  have hd1 : ((d : Int) + 1 == 0) = false := beq_eq_false_iff_ne.2 (by omega)
  have hz := hsz.len
  clear ha hm hb0 hP
  by_cases h5 : k = 5
  · have HB := form_5 (d := d) (f := f) (t := t) (lo := lo) (hi := hi) (ps := ps) h5
    have HBH : Hid (qformB (d + 1) (.mk k f t lo hi ps) = (nameI f && t.toList.isEmpty && bdB lo && bdB hi && decide (ps.length = 0))) := HB
    clear HB
    subst h5
    have hk0 := hm0
    clear hm0 HP ha0
    go_enter Tryz.func102, Tryz.ntmps102
    go_wp2_with fail
    refine (nameI_any f _ (by unfold maxLen; omega)).mono ?_
    rintro e w1 ⟨rfl, rfl⟩
    cases hnf : nameI f
    all_goals rw [hnf] at HBH
    · go_wp2
      go_ret
      exact ⟨ret_bool (by rw [HBH.out]; rfl), HB0.out⟩
    · cases ht : t.toList.isEmpty
      all_goals rw [ht] at HBH
      · go_wp2
        go_ret
        exact ⟨ret_bool (by rw [HBH.out]; rfl), HB0.out⟩
      · go_wp2_with fail
        refine (boundOk_any lo _).mono ?_
        rintro e w2 ⟨rfl, rfl⟩
        cases hlo : bdB lo
        all_goals rw [hlo] at HBH
        · go_wp2
          go_ret
          exact ⟨ret_bool (by rw [HBH.out]; rfl), HB0.out⟩
        · go_wp2_with fail
          refine (boundOk_any hi _).mono ?_
          rintro e w2 ⟨rfl, rfl⟩
          cases hhi : bdB hi
          all_goals rw [hhi] at HBH
          · go_wp2
            go_ret
            exact ⟨ret_bool (by rw [HBH.out]; rfl), HB0.out⟩
          · by_cases hn : ps.length = 0
            all_goals
              have hnb : ((ps.length : Int) == 0) = decide (ps.length = 0) := by rw [Bool.eq_iff_iff]; simp
              first | rw [decide_eq_true hn] at HBH hnb | rw [decide_eq_false hn] at HBH hnb
              clear hn
              go_wp2
              go_ret
              exact ⟨ret_bool (by rw [HBH.out]; rfl), HB0.out⟩
  have h5b : (k == 5) = false := beq_eq_false_iff_ne.2 h5
  have h5c : (k != 5) = true := bne_iff_ne.2 h5
  cases hz : zeroB lo hi with
  | false =>
    have HF : Hid (qformB (d + 1) (.mk k f t lo hi ps) = false) := form_nz h5 hz
    rcases zero_no hz with h1 | ⟨rfl, h1⟩
    · have h1c : (lo != 0) = true := by rw [bne, h1]; rfl
      go_enter Tryz.func102, Tryz.ntmps102
      go_wp2
      go_ret
      exact ⟨ret_bool HF.out.symm, HB0.out⟩
    · have h1c : (hi != 0) = true := by rw [bne, h1]; rfl
      go_enter Tryz.func102, Tryz.ntmps102
      go_wp2
      go_ret
      exact ⟨ret_bool HF.out.symm, HB0.out⟩
  | true =>
    obtain ⟨rfl, rfl⟩ : lo = 0 ∧ hi = 0 := by unfold zeroB at hz; simpa using hz
    clear hz
    by_cases h1 : k = 1
    · have HBH : Hid (qformB (d + 1) (.mk k f t 0 0 ps) = (f.toList.isEmpty && t.toList.isEmpty && decide (ps.length = 0))) := form_1 h1
      subst h1
      cases hf : f.toList.isEmpty
      all_goals cases ht : t.toList.isEmpty
      all_goals by_cases hn : ps.length = 0
      all_goals
        have hnb : ((ps.length : Int) == 0) = decide (ps.length = 0) := by rw [Bool.eq_iff_iff]; simp
        rw [hf, ht] at HBH
        first | rw [decide_eq_true hn] at HBH hnb | rw [decide_eq_false hn] at HBH hnb
        clear hn
        go_enter Tryz.func102, Tryz.ntmps102
        go_wp2
        go_ret
        exact ⟨ret_bool (by rw [HBH.out]; rfl), HB0.out⟩
    have h1b : (k == 1) = false := beq_eq_false_iff_ne.2 h1
    by_cases h2 : k = 2 ∨ k = 3 ∨ k = 4
    · have HBH : Hid (qformB (d + 1) (.mk k f t 0 0 ps) = ((f.toList.isEmpty || nameI f) && wantB k t && decide (ps.length = 0))) := form_234 h2
      have hsw : ∀ k', k = k' → Calls Tryz.prog 132 #[.agg #[.int .i64 k', .string f, .string t, .int .i64 0, .int .i64 0, .slice a ps.length c]] (w.alloc (.cells #[.int .i64 k', .string f, .string t, .int .i64 0, .int .i64 0, .slice a ps.length c] 41)) fun e w' => e = .returned (.bool (wantB k t)) ∧ Below (w.alloc (.cells #[.int .i64 k', .string f, .string t, .int .i64 0, .int .i64 0, .slice a ps.length c] 41)).heap.size (w.alloc (.cells #[.int .i64 k', .string f, .string t, .int .i64 0, .int .i64 0, .slice a ps.length c] 41)) w' := fun k' e => by
        subst e
        exact soughtOk_any k f t 0 0 a ps.length c _ hts hm0
      generalize wantB k t = bw at *
      clear HP ha0 hm0 h5 h5b h5c h1 h1b
      rcases h2 with rfl | rfl | rfl
      all_goals
        have HSW := hsw _ rfl
        clear hsw
        cases hf : f.toList.isEmpty
        all_goals rw [hf] at HBH
        · go_enter Tryz.func102, Tryz.ntmps102
          go_wp2_with fail
          refine (nameI_any f _ (by unfold maxLen; omega)).mono ?_
          rintro e w1 ⟨rfl, rfl⟩
          cases hnf : nameI f
          all_goals rw [hnf] at HBH
          · go_wp2
            go_ret
            exact ⟨ret_bool (by rw [HBH.out]; rfl), HB0.out⟩
          · go_wp2_with fail
            refine HSW.mono ?_
            rintro e w2 ⟨rfl, hb2⟩
            have B2 := B0.below hb2 B0.lt
            have HW2 : Hid (Below w.heap.size w w2) := HB0.out.trans (hb2.mono HB0.out.size)
            have b5 := B2.cell 5
            simp at b5
            clear hb2 B0 B2 HSW HB0
            cases bw
            · go_wp2
              go_ret
              exact ⟨ret_bool (by rw [HBH.out]; rfl), HW2.out⟩
            · by_cases hn : ps.length = 0
              all_goals
                have hnb : ((ps.length : Int) == 0) = decide (ps.length = 0) := by rw [Bool.eq_iff_iff]; simp
                first | rw [decide_eq_true hn] at HBH hnb | rw [decide_eq_false hn] at HBH hnb
                clear hn
                go_wp2
                go_ret
                exact ⟨ret_bool (by rw [HBH.out]; rfl), HW2.out⟩
        · go_enter Tryz.func102, Tryz.ntmps102
          go_wp2_with fail
          refine HSW.mono ?_
          rintro e w2 ⟨rfl, hb2⟩
          have B2 := B0.below hb2 B0.lt
          have HW2 : Hid (Below w.heap.size w w2) := HB0.out.trans (hb2.mono HB0.out.size)
          have b5 := B2.cell 5
          simp at b5
          clear hb2 B0 B2 HSW HB0
          cases bw
          · go_wp2
            go_ret
            exact ⟨ret_bool (by rw [HBH.out]; rfl), HW2.out⟩
          · by_cases hn : ps.length = 0
            all_goals
              have hnb : ((ps.length : Int) == 0) = decide (ps.length = 0) := by rw [Bool.eq_iff_iff]; simp
              first | rw [decide_eq_true hn] at HBH hnb | rw [decide_eq_false hn] at HBH hnb
              clear hn
              go_wp2
              go_ret
              exact ⟨ret_bool (by rw [HBH.out]; rfl), HW2.out⟩
    have h2b : (k == 2) = false := beq_eq_false_iff_ne.2 (by omega)
    have h3b : (k == 3) = false := beq_eq_false_iff_ne.2 (by omega)
    have h4b : (k == 4) = false := beq_eq_false_iff_ne.2 (by omega)
    by_cases h6 : k = 6
    · have HBH : Hid (qformB (d + 1) (.mk k f t 0 0 ps) = (nameI f && nameI t && decide (ps.length = 0))) := form_6 h6
      subst h6
      clear HP ha0 hm0 h5 h5b h5c h1 h1b h2 h2b h3b h4b
      go_enter Tryz.func102, Tryz.ntmps102
      go_wp2_with fail
      refine (nameI_any f _ (by unfold maxLen; omega)).mono ?_
      rintro e w1 ⟨rfl, rfl⟩
      cases hnf : nameI f
      all_goals rw [hnf] at HBH
      · go_wp2
        go_ret
        exact ⟨ret_bool (by rw [HBH.out]; rfl), HB0.out⟩
      · go_wp2_with fail
        refine (nameI_any t _ (by unfold maxLen; omega)).mono ?_
        rintro e w1 ⟨rfl, rfl⟩
        cases hnt : nameI t
        all_goals rw [hnt] at HBH
        · go_wp2
          go_ret
          exact ⟨ret_bool (by rw [HBH.out]; rfl), HB0.out⟩
        · by_cases hn : ps.length = 0
          all_goals
            have hnb : ((ps.length : Int) == 0) = decide (ps.length = 0) := by rw [Bool.eq_iff_iff]; simp
            first | rw [decide_eq_true hn] at HBH hnb | rw [decide_eq_false hn] at HBH hnb
            clear hn
            go_wp2
            go_ret
            exact ⟨ret_bool (by rw [HBH.out]; rfl), HB0.out⟩
    have h6b : (k == 6) = false := beq_eq_false_iff_ne.2 h6
    by_cases h7 : k = 7 ∨ k = 8
    · have HBH : Hid (qformB (d + 1) (.mk k f t 0 0 ps) = (f.toList.isEmpty && t.toList.isEmpty && partsB 2 4 d ps)) := form_78 h7
      have hpw : ∀ wx, QAt wx 0 D a ps → MaxL wx → Calls Tryz.prog 134 #[.slice a ps.length c, .int .i64 2, .int .i64 4, .int .i64 (d : Nat)] wx fun e w' => e = .returned (.bool (partsB 2 4 d ps)) ∧ Below wx.heap.size wx w' := fun wx h1 h2 => HP.out ps a c D 2 4 wx h1 hsz (by omega) (by omega) h2
      generalize partsB 2 4 d ps = bp at *
      clear HP h5 h5b h5c h1 h1b h2 h2b h3b h4b h6 h6b
      rcases h7 with rfl | rfl
      all_goals
        have HPW := hpw _ ha0 hm0
        clear hpw ha0 hm0
        cases hf : f.toList.isEmpty
        all_goals rw [hf] at HBH
        · go_enter Tryz.func102, Tryz.ntmps102
          go_wp2
          go_ret
          exact ⟨ret_bool (by rw [HBH.out]; rfl), HB0.out⟩
        · cases ht : t.toList.isEmpty
          all_goals rw [ht] at HBH
          · go_enter Tryz.func102, Tryz.ntmps102
            go_wp2
            go_ret
            exact ⟨ret_bool (by rw [HBH.out]; rfl), HB0.out⟩
          · go_enter Tryz.func102, Tryz.ntmps102
            go_wp2_with fail
            refine HPW.mono ?_
            rintro e w2 ⟨rfl, hb2⟩
            have HW2 : Hid (Below w.heap.size w w2) := HB0.out.trans (hb2.mono HB0.out.size)
            clear hb2 B0 HPW HB0
            go_wp2
            go_ret
            exact ⟨ret_bool (by rw [HBH.out]; rfl), HW2.out⟩
    have h7b : (k == 7) = false := beq_eq_false_iff_ne.2 (by omega)
    have h8b : (k == 8) = false := beq_eq_false_iff_ne.2 (by omega)
    by_cases h9 : k = 9
    · have HBH : Hid (qformB (d + 1) (.mk k f t 0 0 ps) = (f.toList.isEmpty && t.toList.isEmpty && partsB 1 1 d ps)) := form_9 h9
      have hpw : ∀ wx, QAt wx 0 D a ps → MaxL wx → Calls Tryz.prog 134 #[.slice a ps.length c, .int .i64 1, .int .i64 1, .int .i64 (d : Nat)] wx fun e w' => e = .returned (.bool (partsB 1 1 d ps)) ∧ Below wx.heap.size wx w' := fun wx h1 h2 => HP.out ps a c D 1 1 wx h1 hsz (by omega) (by omega) h2
      generalize partsB 1 1 d ps = bp at *
      subst h9
      have HPW := hpw _ ha0 hm0
      clear hpw ha0 hm0 HP h5 h5b h5c h1 h1b h2 h2b h3b h4b h6 h6b h7 h7b h8b
      cases hf : f.toList.isEmpty
      all_goals rw [hf] at HBH
      · go_enter Tryz.func102, Tryz.ntmps102
        go_wp2
        go_ret
        exact ⟨ret_bool (by rw [HBH.out]; rfl), HB0.out⟩
      · cases ht : t.toList.isEmpty
        all_goals rw [ht] at HBH
        · go_enter Tryz.func102, Tryz.ntmps102
          go_wp2
          go_ret
          exact ⟨ret_bool (by rw [HBH.out]; rfl), HB0.out⟩
        · go_enter Tryz.func102, Tryz.ntmps102
          go_wp2_with fail
          refine HPW.mono ?_
          rintro e w2 ⟨rfl, hb2⟩
          have HW2 : Hid (Below w.heap.size w w2) := HB0.out.trans (hb2.mono HB0.out.size)
          clear hb2 B0 HPW HB0
          go_wp2
          go_ret
          exact ⟨ret_bool (by rw [HBH.out]; rfl), HW2.out⟩
    have h9b : (k == 9) = false := beq_eq_false_iff_ne.2 h9
    have HF : Hid (qformB (d + 1) (.mk k f t 0 0 ps) = false) := form_none (by omega)
    clear HP ha0 hm0
    go_enter Tryz.func102, Tryz.ntmps102
    go_wp2
    go_ret
    exact ⟨ret_bool HF.out.symm, HB0.out⟩
theorem formI_any : ∀ d, d ≤ 4 → FormI d
  | 0, _ => formI_zero
  | d + 1, h => formI_of (by omega) (partsI_of (by omega) (formI_any d (by omega)))
end Go.Proofs.YtjkimadnopeakaaGreatDoor
