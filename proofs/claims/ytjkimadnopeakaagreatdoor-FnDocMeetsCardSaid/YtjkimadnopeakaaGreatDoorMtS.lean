/- spec.l6Meets; Meets of both sides. -/
import Derived.Test.YtjkimadnopeakaaGreatDoorMtLeafS
namespace Go.Proofs.YtjkimadnopeakaaGreatDoor
open Go.RowKit
set_option linter.unusedVariables false

def SpecMeets (D : Nat) : Prop := ∀ (fa : Option Addr) (capf : Nat) (fs : List Fld) (key : ByteArray) (ca : Option Addr) (capc : Nat) (cs : List Cel) (k : Int) (f t : ByteArray) (lo hi : Int) (ps : List Qy) (a : Option Addr) (c : Nat) (w : World), MtIn w fa capf fs key ca cs → QAt w 0 D a ps → QSz 1048576 D ps → f.size ≤ 1048576 → t.size ≤ 1048576 → (∃ d, qformB d (.mk k f t lo hi ps) = true) →
  Calls Tryz.prog 39 #[.slice fa fs.length capf, .agg #[.string key, .slice ca cs.length capc], .agg #[.int .i64 k, .string f, .string t, .int .i64 lo, .int .i64 hi, .slice a ps.length c]] w fun e w' => e = .returned (.bool (meetsQ fs key cs D (.mk k f t lo hi ps))) ∧ Below w.heap.size w w'
set_option maxRecDepth 100000 in
set_option maxHeartbeats 8000000 in
theorem specMeets_of {D : Nat} (hF : ∀ D', D = D' + 1 → SpecMeets D') : SpecMeets D := by
  intro fa capf fs key ca capc cs k f t lo hi ps a c w hin ha hsz hf ht hform
  have hz := hsz.len
  have hb0 : Below w.heap.size w ((w.alloc (.cells #[.string key, .slice ca cs.length capc] 37)).alloc (.cells #[.int .i64 k, .string f, .string t, .int .i64 lo, .int .i64 hi, .slice a ps.length c] 41)) := ((Below.refl _ w).alloc (Nat.le_refl _) _).alloc (by simp) _
  have D0 : Blk ((w.alloc (.cells #[.string key, .slice ca cs.length capc] 37)).alloc (.cells #[.int .i64 k, .string f, .string t, .int .i64 lo, .int .i64 hi, .slice a ps.length c] 41)) w.heap.size #[.string key, .slice ca cs.length capc] 37 := (Blk.new w _ _).alloc _
  have Q0 : QBox ((w.alloc (.cells #[.string key, .slice ca cs.length capc] 37)).alloc (.cells #[.int .i64 k, .string f, .string t, .int .i64 lo, .int .i64 hi, .slice a ps.length c] 41)) (w.heap.size + 1) k f t lo hi a ps.length c := by
    have h := Blk.new (w.alloc (.cells #[.string key, .slice ca cs.length capc] 37)) #[.int .i64 k, .string f, .string t, .int .i64 lo, .int .i64 hi, .slice a ps.length c] 41
    rw [World.size_alloc] at h
    exact h
  have hin2 := hin.below hb0
  have ha2 := ha.below hb0
  obtain ⟨w2, hw2⟩ : ∃ w2, ((w.alloc (.cells #[.string key, .slice ca cs.length capc] 37)).alloc (.cells #[.int .i64 k, .string f, .string t, .int .i64 lo, .int .i64 hi, .slice a ps.length c] 41)) = w2 := ⟨_, rfl⟩
  have HW2 : Hid (((w.alloc (.cells #[.string key, .slice ca cs.length capc] 37)).alloc (.cells #[.int .i64 k, .string f, .string t, .int .i64 lo, .int .i64 hi, .slice a ps.length c] 41)) = w2) := hw2
  rw [hw2] at hb0 D0 Q0 hin2 ha2
  have HB : Hid (Below w.heap.size w w2) := hb0
  have HQ : Hid (∀ wx, Below w2.heap.size w2 wx → QBox wx (w.heap.size + 1) k f t lo hi a ps.length c) := fun wx h => Q0.below h Q0.lt
  have HD : Hid (∀ wx, Below w2.heap.size w2 wx → Blk wx w.heap.size #[.string key, .slice ca cs.length capc] 37) := fun wx h => D0.below h D0.lt
  have HA : Hid (∀ wx, Below w2.heap.size w2 wx → QAt wx 0 D a ps) := fun wx h => ha2.below h
  have HP : Hid (k = 7 ∨ k = 8 ∨ k = 9 → ∃ D', D = D' + 1 ∧ 0 < ps.length ∧ ∀ wx, Below w2.heap.size w2 wx → ∀ i, i < ps.length → ∀ p' c', QAt wx 0 D' p' (qat ps i).parts → Calls Tryz.prog 39 #[.slice fa fs.length capf, .agg #[.string key, .slice ca cs.length capc], .agg #[.int .i64 (qat ps i).kind, .string (qat ps i).field, .string (qat ps i).text, .int .i64 (qat ps i).low, .int .i64 (qat ps i).high, .slice p' (qat ps i).parts.length c']] wx fun e w' => e = .returned (.bool (meetsQ fs key cs D' (qat ps i))) ∧ Below wx.heap.size wx w') := fun hk => by
    obtain ⟨d, hfd⟩ := hform
    have hp := form_some hfd hk
    obtain ⟨D', rfl⟩ : ∃ D', D = D' + 1 := by
      cases D with
      | zero =>
        have e : ps = [] := hsz
        rw [e] at hp
        exact absurd hp (by simp)
      | succ D' => exact ⟨D', rfl⟩
    refine ⟨D', rfl, hp, fun wx h i hi p' c' hq => ?_⟩
    obtain ⟨s1, s2, s3⟩ := hsz.2 i hi
    obtain ⟨d', _, h'⟩ := form_part hfd hi
    have h'' : qformB d' (qat ps i) = true := h'
    have := hF D' rfl fa capf fs key ca capc cs (qat ps i).kind (qat ps i).field (qat ps i).text (qat ps i).low (qat ps i).high (qat ps i).parts p' c' wx (hin2.below h) hq s3 s1 s2 ⟨d', by rw [Qy.eta]; exact h''⟩
    rwa [Qy.eta] at this
  have HKD : Hid (k ≠ 7 → k ≠ 8 → k ≠ 9 → k = 1 ∨ ((k = 2 ∨ k = 3 ∨ k = 4) ∧ t.size ≤ 60 ∧ 0 < l5W t) ∨ k = 5 ∨ k = 6) := fun h7 h8 h9 => by
    obtain ⟨d, hfd⟩ := hform
    exact form_kindM hfd h7 h8 h9
  have HIN : Hid (MtIn w2 fa capf fs key ca cs) := hin2
  have y0 := D0.cell 0
  have y1 := D0.cell 1
  have q0 := Q0.cell 0
  have q1 := Q0.cell 1
  have q2 := Q0.cell 2
  have q3 := Q0.cell 3
  have q4 := Q0.cell 4
  have q5 := Q0.cell 5
  simp at y0 y1 q0 q1 q2 q3 q4 q5
  clear hw2 hb0 D0 Q0 hin2 hin ha2 ha hsz hform hF
  by_cases h7 : k = 7
  · subst h7
    obtain ⟨D', rfl, hp, HPC⟩ := HP.out (.inl rfl)
    have HR : Hid (meetsQ fs key cs (D' + 1) (.mk 7 f t lo hi ps) = allTo (fun i => meetsQ fs key cs D' (qat ps i)) ps.length) := meets_7 _ _ _ _ _ _ _ _ _
    have HPCH : Hid _ := HPC
    clear HPC HP HKD
    go_enter Tryz.func39, Tryz.ntmps39
    go_upto_region 1 with fail
    rw [HW2.out]
    clear HW2
    go_wp2
    clear y0 y1 q0 q1 q2 q3 q4 q5
    go_loopw [7] (fun i wr => ∃ j : Nat, j ≤ ps.length ∧ i = .int .i64 j ∧ allTo (fun i => meetsQ fs key cs D' (qat ps i)) j = true ∧ Below w2.heap.size w2 wr) (fun i _ => ps.length - (intOf i).toNat)
    case atStart => exact ⟨0, Nat.zero_le _, rfl, rfl, Below.refl _ _⟩
    case round =>
      obtain ⟨j, hj, rfl, hacc, hbel⟩ := hrel
      have HA2 : Hid (allTo (fun i => meetsQ fs key cs D' (qat ps i)) j = true) := hacc
      clear hacc
      have Qr := HQ.out _ hbel
      have Dr := HD.out _ hbel
      have q5 := Qr.cell 5
      have y0 := Dr.cell 0
      have y1 := Dr.cell 1
      simp at q5 y0 y1
      clear Qr Dr
      by_cases hlt : j < ps.length
      · have hji : (j : Int) < (ps.length : Int) := by omega
        obtain ⟨g, off, rfl, _, hg, hc⟩ := (HA.out _ hbel) (by omega)
        obtain ⟨p', c', ⟨c0, c1, c2, c3, c4, c5⟩, hq⟩ := hc j hlt
        have HC0 := HPCH.out wr.drew (below_drew hbel) j hlt p' c' (hq.below (below_drew (Below.refl _ _)))
        have HBAD : Hid (meetsQ fs key cs D' (qat ps j) = false → allTo (fun i => meetsQ fs key cs D' (qat ps i)) ps.length = false) := fun h => allTo_false _ _ j hlt h
        have HGOOD : Hid (meetsQ fs key cs D' (qat ps j) = true → allTo (fun i => meetsQ fs key cs D' (qat ps i)) (j + 1) = true) := fun h => allTo_snoc _ j HA2.out h
        clear hc hq HA2
        generalize meetsQ fs key cs D' (qat ps j) = b at *
        generalize qat ps j = q at *
        obtain ⟨kd, f', t', lo', hi', pp⟩ := q
        simp only [Qy.kind, Qy.field, Qy.text, Qy.low, Qy.high, Qy.parts] at c0 c1 c2 c3 c4 c5 HC0
        have HC : Hid (Calls Tryz.prog 39 #[.slice fa fs.length capf, .agg #[.string key, .slice ca cs.length capc], .agg #[.int .i64 kd, .string f', .string t', .int .i64 lo', .int .i64 hi', .slice p' pp.length c']] wr.drew fun e w' => e = .returned (.bool b) ∧ Below wr.drew.heap.size wr.drew w') := HC0
        clear HC0
        cases b with
        | false =>
          have HB2 : Hid (allTo (fun i => meetsQ fs key cs D' (qat ps i)) ps.length = false) := HBAD.out rfl
          clear HBAD HGOOD
          go_wp2
          go_region_law (first
            | (go_simp; go_at_call 39; refine HC.out.mono ?_; rintro e w5 ⟨rfl, hb5d⟩; have hb5 : Below wr.heap.size wr w5 := ⟨hb5d.os, hb5d.tape, hb5d.output, hb5d.size, hb5d.block⟩; clear hb5d))
          all_goals
            have hw5 := HB.out.trans ((below_trans hbel hb5).mono HB.out.size)
            clear HC hb5 c0 c1 c2 c3 c4 c5 q5 y0 y1
            go_wp2
            go_ret
            exact ⟨ret_bool (HR.out.trans HB2.out).symm, hw5⟩
        | true =>
          have HB2 : Hid (allTo (fun i => meetsQ fs key cs D' (qat ps i)) (j + 1) = true) := HGOOD.out rfl
          clear HBAD HGOOD
          go_wp2
          go_region_law (first
            | (go_simp; go_at_call 39; refine HC.out.mono ?_; rintro e w5 ⟨rfl, hb5d⟩; have hb5 : Below wr.heap.size wr w5 := ⟨hb5d.os, hb5d.tape, hb5d.output, hb5d.size, hb5d.block⟩; clear hb5d))
          all_goals
            have hw5 := below_trans hbel hb5
            clear HC hb5 c0 c1 c2 c3 c4 c5 q5 y0 y1
            go_wp2
            go_roundw
            case rel => exact ⟨j + 1, by omega, by go_num, HB2.out, hw5⟩
            case measure => simp [intOf]; omega
      · have hjl : j = ps.length := by omega
        subst hjl
        have hw5 := HB.out.trans (hbel.mono HB.out.size)
        go_wp2
        go_ret
        exact ⟨ret_bool (HR.out.trans HA2.out).symm, hw5⟩
  by_cases h8 : k = 8
  · subst h8
    obtain ⟨D', rfl, hp, HPC⟩ := HP.out (.inr (.inl rfl))
    have HR : Hid (meetsQ fs key cs (D' + 1) (.mk 8 f t lo hi ps) = anyTo (fun i => meetsQ fs key cs D' (qat ps i)) ps.length) := meets_8 _ _ _ _ _ _ _ _ _
    have HPCH : Hid _ := HPC
    clear HPC HP HKD
    go_enter Tryz.func39, Tryz.ntmps39
    go_upto_region 1 with fail
    rw [HW2.out]
    clear HW2
    go_wp2
    clear y0 y1 q0 q1 q2 q3 q4 q5
    go_loopw [8] (fun i wr => ∃ j : Nat, j ≤ ps.length ∧ i = .int .i64 j ∧ anyTo (fun i => meetsQ fs key cs D' (qat ps i)) j = false ∧ Below w2.heap.size w2 wr) (fun i _ => ps.length - (intOf i).toNat)
    case atStart => exact ⟨0, Nat.zero_le _, rfl, rfl, Below.refl _ _⟩
    case round =>
      obtain ⟨j, hj, rfl, hacc, hbel⟩ := hrel
      have HA2 : Hid (anyTo (fun i => meetsQ fs key cs D' (qat ps i)) j = false) := hacc
      clear hacc
      have Qr := HQ.out _ hbel
      have Dr := HD.out _ hbel
      have q5 := Qr.cell 5
      have y0 := Dr.cell 0
      have y1 := Dr.cell 1
      simp at q5 y0 y1
      clear Qr Dr
      by_cases hlt : j < ps.length
      · have hji : (j : Int) < (ps.length : Int) := by omega
        obtain ⟨g, off, rfl, _, hg, hc⟩ := (HA.out _ hbel) (by omega)
        obtain ⟨p', c', ⟨c0, c1, c2, c3, c4, c5⟩, hq⟩ := hc j hlt
        have HC0 := HPCH.out wr.drew (below_drew hbel) j hlt p' c' (hq.below (below_drew (Below.refl _ _)))
        have HBAD : Hid (meetsQ fs key cs D' (qat ps j) = true → anyTo (fun i => meetsQ fs key cs D' (qat ps i)) ps.length = true) := fun h => anyTo_yes (f := fun i => meetsQ fs key cs D' (qat ps i)) hlt h
        have HGOOD : Hid (meetsQ fs key cs D' (qat ps j) = false → anyTo (fun i => meetsQ fs key cs D' (qat ps i)) (j + 1) = false) := fun h => anyTo_snoc HA2.out h
        clear hc hq HA2
        generalize meetsQ fs key cs D' (qat ps j) = b at *
        generalize qat ps j = q at *
        obtain ⟨kd, f', t', lo', hi', pp⟩ := q
        simp only [Qy.kind, Qy.field, Qy.text, Qy.low, Qy.high, Qy.parts] at c0 c1 c2 c3 c4 c5 HC0
        have HC : Hid (Calls Tryz.prog 39 #[.slice fa fs.length capf, .agg #[.string key, .slice ca cs.length capc], .agg #[.int .i64 kd, .string f', .string t', .int .i64 lo', .int .i64 hi', .slice p' pp.length c']] wr.drew fun e w' => e = .returned (.bool b) ∧ Below wr.drew.heap.size wr.drew w') := HC0
        clear HC0
        cases b with
        | true =>
          have HB2 : Hid (anyTo (fun i => meetsQ fs key cs D' (qat ps i)) ps.length = true) := HBAD.out rfl
          clear HBAD HGOOD
          go_wp2
          go_region_law (first
            | (go_simp; go_at_call 39; refine HC.out.mono ?_; rintro e w5 ⟨rfl, hb5d⟩; have hb5 : Below wr.heap.size wr w5 := ⟨hb5d.os, hb5d.tape, hb5d.output, hb5d.size, hb5d.block⟩; clear hb5d))
          all_goals
            have hw5 := HB.out.trans ((below_trans hbel hb5).mono HB.out.size)
            clear HC hb5 c0 c1 c2 c3 c4 c5 q5 y0 y1
            go_wp2
            go_ret
            exact ⟨ret_bool (HR.out.trans HB2.out).symm, hw5⟩
        | false =>
          have HB2 : Hid (anyTo (fun i => meetsQ fs key cs D' (qat ps i)) (j + 1) = false) := HGOOD.out rfl
          clear HBAD HGOOD
          go_wp2
          go_region_law (first
            | (go_simp; go_at_call 39; refine HC.out.mono ?_; rintro e w5 ⟨rfl, hb5d⟩; have hb5 : Below wr.heap.size wr w5 := ⟨hb5d.os, hb5d.tape, hb5d.output, hb5d.size, hb5d.block⟩; clear hb5d))
          all_goals
            have hw5 := below_trans hbel hb5
            clear HC hb5 c0 c1 c2 c3 c4 c5 q5 y0 y1
            go_wp2
            go_roundw
            case rel => exact ⟨j + 1, by omega, by go_num, HB2.out, hw5⟩
            case measure => simp [intOf]; omega
      · have hjl : j = ps.length := by omega
        subst hjl
        have hw5 := HB.out.trans (hbel.mono HB.out.size)
        go_wp2
        go_ret
        exact ⟨ret_bool (HR.out.trans HA2.out).symm, hw5⟩
  by_cases h9 : k = 9
  · subst h9
    obtain ⟨D', rfl, hp, HPC⟩ := HP.out (.inr (.inr rfl))
    have HR : Hid (meetsQ fs key cs (D' + 1) (.mk 9 f t lo hi ps) = !meetsQ fs key cs D' (qat ps 0)) := meets_9 _ _ _ _ _ _ _ _ _
    obtain ⟨g, off, rfl, _, hg, hc⟩ := (HA.out _ (Below.refl _ _)) hp
    obtain ⟨p', c', ⟨c0, c1, c2, c3, c4, c5⟩, hq⟩ := hc 0 hp
    have HC0 := HPC w2.drew (below_drew (Below.refl _ _)) 0 hp p' c' (hq.below (below_drew (Below.refl _ _)))
    have hp1 : (0 : Int) < (ps.length : Int) := by omega
    clear hc hq HP HKD HPC HQ HD HA HIN
    generalize meetsQ fs key cs D' (qat ps 0) = b at *
    generalize qat ps 0 = q at *
    obtain ⟨kd, f', t', lo', hi', pp⟩ := q
    simp only [Qy.kind, Qy.field, Qy.text, Qy.low, Qy.high, Qy.parts, Nat.zero_mul, Nat.add_zero] at c0 c1 c2 c3 c4 c5 HC0
    have HC : Hid (Calls Tryz.prog 39 #[.slice fa fs.length capf, .agg #[.string key, .slice ca cs.length capc], .agg #[.int .i64 kd, .string f', .string t', .int .i64 lo', .int .i64 hi', .slice p' pp.length c']] w2.drew fun e w' => e = .returned (.bool b) ∧ Below w2.drew.heap.size w2.drew w') := HC0
    clear HC0
    go_enter Tryz.func39, Tryz.ntmps39
    go_upto_region 1 with fail
    rw [HW2.out]
    clear HW2
    go_wp2_with fail
    go_region_law (first
      | (go_simp; go_at_call 39; refine HC.out.mono ?_; rintro e w5 ⟨rfl, hb5d⟩; have hb5 : Below w2.heap.size w2 w5 := ⟨hb5d.os, hb5d.tape, hb5d.output, hb5d.size, hb5d.block⟩; clear hb5d))
    all_goals
      have hw5 := HB.out.trans (hb5.mono HB.out.size)
      clear HC hb5 c0 c1 c2 c3 c4 c5 y0 y1 q0 q1 q2 q3 q4 q5
      go_wp2
      go_ret
      exact ⟨ret_bool HR.out.symm, hw5⟩
  have h7b : (k == 7) = false := beq_eq_false_iff_ne.2 h7
  have h8b : (k == 8) = false := beq_eq_false_iff_ne.2 h8
  have h9b : (k == 9) = false := beq_eq_false_iff_ne.2 h9
  have HL : Hid (meetsQ fs key cs D (.mk k f t lo hi ps) = leafM fs key cs k f t lo hi) := meets_leaf _ _ _ _ _ _ _ _ _ _ h7 h8 h9
  have HC : Hid (Calls Tryz.prog 76 #[.slice fa fs.length capf, .agg #[.string key, .slice ca cs.length capc], .agg #[.int .i64 k, .string f, .string t, .int .i64 lo, .int .i64 hi, .slice a ps.length c]] w2 fun e w' => e = .returned (.bool (leafM fs key cs k f t lo hi)) ∧ Below w2.heap.size w2 w') := l6Leaf_any fa capf fs key ca capc cs k f t lo hi ps.length a c w2 HIN.out (HKD.out h7 h8 h9)
  generalize leafM fs key cs k f t lo hi = b at *
  clear HP HKD HA HQ HD HIN
  go_enter Tryz.func39, Tryz.ntmps39
  go_upto_region 1 with fail
  rw [HW2.out]
  clear HW2
  go_wp2_with fail
  refine HC.out.mono ?_
  rintro e w5 ⟨rfl, hb5⟩
  have hw5 := HB.out.trans (hb5.mono HB.out.size)
  clear HC hb5 y0 y1 q0 q1 q2 q3 q4 q5
  go_wp2
  go_ret
  exact ⟨ret_bool HL.out.symm, hw5⟩
theorem specMeets_any : ∀ D, SpecMeets D
  | 0 => specMeets_of (fun D' h => by omega)
  | D + 1 => specMeets_of (fun D' h => by obtain rfl : D = D' := by omega
                                          exact specMeets_any D)
/-- A document that is ok meets a question that fits. -/
def meetB (fs : List Fld) (key : ByteArray) (cs : List Cel) (D : Nat) (k : Int) (f t : ByteArray) (lo hi : Int) (ps : List Qy) : Bool := docOkB fs key cs && fitsB fs D k f t lo hi ps && meetsQ fs key cs D (.mk k f t lo hi ps)
theorem fits_form {fs : List Fld} {D : Nat} {k : Int} {f t : ByteArray} {lo hi : Int} {ps : List Qy} (h : fitsB fs D k f t lo hi ps = true) : qformB 4 (.mk k f t lo hi ps) = true := by
  unfold fitsB at h
  simp only [Bool.and_eq_true] at h
  exact h.1.2
set_option maxRecDepth 100000 in
set_option maxHeartbeats 2000000 in
theorem meetsI_any (fa : Option Addr) (capf : Nat) (fs : List Fld) (key : ByteArray) (ca : Option Addr) (capc : Nat) (cs : List Cel) (k : Int) (f t : ByteArray) (lo hi : Int) (ps : List Qy) (a : Option Addr) (c D : Nat) (w : World) (hin : MtIn w fa capf fs key ca cs) (ha : QAt w 0 D a ps) (hsz : QSz 1048576 D ps) (hf : f.size ≤ 1048576) (ht : t.size ≤ 1048576) :
    Calls Tryz.prog 17 #[.slice fa fs.length capf, .agg #[.string key, .slice ca cs.length capc], .agg #[.int .i64 k, .string f, .string t, .int .i64 lo, .int .i64 hi, .slice a ps.length c]] w fun e w' => e = .returned (.bool (meetB fs key cs D k f t lo hi ps)) ∧ Below w.heap.size w w' := by
  have hb0 : Below w.heap.size w ((w.alloc (.cells #[.string key, .slice ca cs.length capc] 37)).alloc (.cells #[.int .i64 k, .string f, .string t, .int .i64 lo, .int .i64 hi, .slice a ps.length c] 41)) := ((Below.refl _ w).alloc (Nat.le_refl _) _).alloc (by simp) _
  have D0 : Blk ((w.alloc (.cells #[.string key, .slice ca cs.length capc] 37)).alloc (.cells #[.int .i64 k, .string f, .string t, .int .i64 lo, .int .i64 hi, .slice a ps.length c] 41)) w.heap.size #[.string key, .slice ca cs.length capc] 37 := (Blk.new w _ _).alloc _
  have Q0 : QBox ((w.alloc (.cells #[.string key, .slice ca cs.length capc] 37)).alloc (.cells #[.int .i64 k, .string f, .string t, .int .i64 lo, .int .i64 hi, .slice a ps.length c] 41)) (w.heap.size + 1) k f t lo hi a ps.length c := by
    have h := Blk.new (w.alloc (.cells #[.string key, .slice ca cs.length capc] 37)) #[.int .i64 k, .string f, .string t, .int .i64 lo, .int .i64 hi, .slice a ps.length c] 41
    rw [World.size_alloc] at h
    exact h
  have hin2 := hin.below hb0
  have ha2 := ha.below hb0
  obtain ⟨w2, hw2⟩ : ∃ w2, ((w.alloc (.cells #[.string key, .slice ca cs.length capc] 37)).alloc (.cells #[.int .i64 k, .string f, .string t, .int .i64 lo, .int .i64 hi, .slice a ps.length c] 41)) = w2 := ⟨_, rfl⟩
  have HW2 : Hid (((w.alloc (.cells #[.string key, .slice ca cs.length capc] 37)).alloc (.cells #[.int .i64 k, .string f, .string t, .int .i64 lo, .int .i64 hi, .slice a ps.length c] 41)) = w2) := hw2
  rw [hw2] at hb0 D0 Q0 hin2 ha2
  have HB : Hid (Below w.heap.size w w2) := hb0
  have HQ : Hid (∀ wx, Below w2.heap.size w2 wx → QBox wx (w.heap.size + 1) k f t lo hi a ps.length c) := fun wx h => Q0.below h Q0.lt
  have HD : Hid (∀ wx, Below w2.heap.size w2 wx → Blk wx w.heap.size #[.string key, .slice ca cs.length capc] 37) := fun wx h => D0.below h D0.lt
  have HM : Hid (meetB fs key cs D k f t lo hi ps = (docOkB fs key cs && fitsB fs D k f t lo hi ps && meetsQ fs key cs D (.mk k f t lo hi ps))) := rfl
  have HC1 : Hid (Calls Tryz.prog 29 #[.slice fa fs.length capf, .agg #[.string key, .slice ca cs.length capc]] w2 fun e w' => e = .returned (.bool (docOkB fs key cs)) ∧ Below w2.heap.size w2 w') := docOkI_any fa capf fs key ca capc cs w2 hin2.zf hin2.cf hin2.sf hin2.rf hin2.zk hin2.zc hin2.sc hin2.rc hin2.m
  have HC2 : Hid (∀ wx, Below w2.heap.size w2 wx → Calls Tryz.prog 27 #[.slice fa fs.length capf, .agg #[.int .i64 k, .string f, .string t, .int .i64 lo, .int .i64 hi, .slice a ps.length c]] wx fun e w' => e = .returned (.bool (fitsB fs D k f t lo hi ps)) ∧ Below wx.heap.size wx w') := fun wx h => by
    have ix := hin2.below h
    exact queryFitsI_any fa capf fs k f t lo hi ps a c D wx ix.zf ix.cf ix.sf ix.rf (ha2.below h) hsz hf ht ix.m
  have HC3 : Hid (fitsB fs D k f t lo hi ps = true → ∀ wx, Below w2.heap.size w2 wx → Calls Tryz.prog 43 #[.slice fa fs.length capf, .agg #[.string key, .slice ca cs.length capc], .agg #[.int .i64 k, .string f, .string t, .int .i64 lo, .int .i64 hi, .slice a ps.length c]] wx fun e w' => e = .returned (.bool (meetsQ fs key cs D (.mk k f t lo hi ps))) ∧ Below wx.heap.size wx w') := fun hb wx h =>
    docMeets_any D fa capf fs key ca capc cs k f t lo hi ps a c wx (hin2.below h) (ha2.below h) hsz hf ht ⟨4, fits_form hb⟩
  generalize meetB fs key cs D k f t lo hi ps = bb at *
  generalize docOkB fs key cs = b1 at *
  generalize fitsB fs D k f t lo hi ps = b2 at *
  generalize meetsQ fs key cs D (.mk k f t lo hi ps) = b3 at *
  have y0 := D0.cell 0
  have y1 := D0.cell 1
  have q0 := Q0.cell 0
  have q1 := Q0.cell 1
  have q2 := Q0.cell 2
  have q3 := Q0.cell 3
  have q4 := Q0.cell 4
  have q5 := Q0.cell 5
  simp at y0 y1 q0 q1 q2 q3 q4 q5
  clear hw2 hb0 D0 Q0 hin2 hin ha2 ha hsz
  go_enter Tryz.func17, Tryz.ntmps17
  go_upto_region 1 with fail
  rw [HW2.out]
  clear HW2
  go_wp2_with fail
  refine HC1.out.mono ?_
  rintro e w3 ⟨rfl, hb3⟩
  have Q3 := HQ.out w3 hb3
  have D3 := HD.out w3 hb3
  clear HC1 y0 y1 q0 q1 q2 q3 q4 q5
  cases b1 with
  | false =>
    have H1 : Hid (bb = false) := HM.out
    have hw3 := HB.out.trans (hb3.mono HB.out.size)
    clear HM HC2 HC3 Q3 D3 HQ HD
    go_wp2
    go_ret
    exact ⟨ret_bool H1.out.symm, hw3⟩
  | true =>
    have y0 := D3.cell 0
    have y1 := D3.cell 1
    have q0 := Q3.cell 0
    have q1 := Q3.cell 1
    have q2 := Q3.cell 2
    have q3 := Q3.cell 3
    have q4 := Q3.cell 4
    have q5 := Q3.cell 5
    simp at y0 y1 q0 q1 q2 q3 q4 q5
    clear Q3 D3
    go_wp2_with fail
    refine (HC2.out _ hb3).mono ?_
    rintro e w4 ⟨rfl, hb4⟩
    have hb24 := below_trans hb3 hb4
    have Q4 := HQ.out w4 hb24
    have D4 := HD.out w4 hb24
    clear HC2 y0 y1 q0 q1 q2 q3 q4 q5 hb4
    cases b2 with
    | false =>
      have H1 : Hid (bb = false) := HM.out
      have hw4 := HB.out.trans (hb24.mono HB.out.size)
      clear HM HC3 Q4 D4 HQ HD
      go_wp2
      go_ret
      exact ⟨ret_bool H1.out.symm, hw4⟩
    | true =>
      have H1 : Hid (bb = b3) := HM.out
      have y0 := D4.cell 0
      have y1 := D4.cell 1
      have q0 := Q4.cell 0
      have q1 := Q4.cell 1
      have q2 := Q4.cell 2
      have q3 := Q4.cell 3
      have q4 := Q4.cell 4
      have q5 := Q4.cell 5
      simp at y0 y1 q0 q1 q2 q3 q4 q5
      have HC := HC3.out rfl _ hb24
      clear Q4 D4 HM HC3 HQ HD
      go_wp2_with fail
      refine HC.mono ?_
      rintro e w5 ⟨rfl, hb5⟩
      have hw5 := HB.out.trans ((below_trans hb24 hb5).mono HB.out.size)
      clear HC y0 y1 q0 q1 q2 q3 q4 q5 hb5
      go_wp2
      go_ret
      exact ⟨ret_bool H1.out.symm, hw5⟩
set_option maxRecDepth 100000 in
set_option maxHeartbeats 2000000 in
theorem meetsS_any (fa : Option Addr) (capf : Nat) (fs : List Fld) (key : ByteArray) (ca : Option Addr) (capc : Nat) (cs : List Cel) (k : Int) (f t : ByteArray) (lo hi : Int) (ps : List Qy) (a : Option Addr) (c D : Nat) (w : World) (hin : MtIn w fa capf fs key ca cs) (ha : QAt w 0 D a ps) (hsz : QSz 1048576 D ps) (hf : f.size ≤ 1048576) (ht : t.size ≤ 1048576) :
    Calls Tryz.prog 13 #[.slice fa fs.length capf, .agg #[.string key, .slice ca cs.length capc], .agg #[.int .i64 k, .string f, .string t, .int .i64 lo, .int .i64 hi, .slice a ps.length c]] w fun e w' => e = .returned (.bool (meetB fs key cs D k f t lo hi ps)) ∧ Below w.heap.size w w' := by
  have hb0 : Below w.heap.size w ((w.alloc (.cells #[.string key, .slice ca cs.length capc] 37)).alloc (.cells #[.int .i64 k, .string f, .string t, .int .i64 lo, .int .i64 hi, .slice a ps.length c] 41)) := ((Below.refl _ w).alloc (Nat.le_refl _) _).alloc (by simp) _
  have D0 : Blk ((w.alloc (.cells #[.string key, .slice ca cs.length capc] 37)).alloc (.cells #[.int .i64 k, .string f, .string t, .int .i64 lo, .int .i64 hi, .slice a ps.length c] 41)) w.heap.size #[.string key, .slice ca cs.length capc] 37 := (Blk.new w _ _).alloc _
  have Q0 : QBox ((w.alloc (.cells #[.string key, .slice ca cs.length capc] 37)).alloc (.cells #[.int .i64 k, .string f, .string t, .int .i64 lo, .int .i64 hi, .slice a ps.length c] 41)) (w.heap.size + 1) k f t lo hi a ps.length c := by
    have h := Blk.new (w.alloc (.cells #[.string key, .slice ca cs.length capc] 37)) #[.int .i64 k, .string f, .string t, .int .i64 lo, .int .i64 hi, .slice a ps.length c] 41
    rw [World.size_alloc] at h
    exact h
  have hin2 := hin.below hb0
  have ha2 := ha.below hb0
  obtain ⟨w2, hw2⟩ : ∃ w2, ((w.alloc (.cells #[.string key, .slice ca cs.length capc] 37)).alloc (.cells #[.int .i64 k, .string f, .string t, .int .i64 lo, .int .i64 hi, .slice a ps.length c] 41)) = w2 := ⟨_, rfl⟩
  have HW2 : Hid (((w.alloc (.cells #[.string key, .slice ca cs.length capc] 37)).alloc (.cells #[.int .i64 k, .string f, .string t, .int .i64 lo, .int .i64 hi, .slice a ps.length c] 41)) = w2) := hw2
  rw [hw2] at hb0 D0 Q0 hin2 ha2
  have HB : Hid (Below w.heap.size w w2) := hb0
  have HQ : Hid (∀ wx, Below w2.heap.size w2 wx → QBox wx (w.heap.size + 1) k f t lo hi a ps.length c) := fun wx h => Q0.below h Q0.lt
  have HD : Hid (∀ wx, Below w2.heap.size w2 wx → Blk wx w.heap.size #[.string key, .slice ca cs.length capc] 37) := fun wx h => D0.below h D0.lt
  have HM : Hid (meetB fs key cs D k f t lo hi ps = (docOkB fs key cs && fitsB fs D k f t lo hi ps && meetsQ fs key cs D (.mk k f t lo hi ps))) := rfl
  have HC1 : Hid (Calls Tryz.prog 22 #[.slice fa fs.length capf, .agg #[.string key, .slice ca cs.length capc]] w2 fun e w' => e = .returned (.bool (docOkB fs key cs)) ∧ Below w2.heap.size w2 w') := docOkS_any fa capf fs key ca capc cs w2 hin2.zf hin2.sf hin2.rf hin2.zk hin2.zc hin2.sc hin2.rc
  have HC2 : Hid (∀ wx, Below w2.heap.size w2 wx → Calls Tryz.prog 23 #[.slice fa fs.length capf, .agg #[.int .i64 k, .string f, .string t, .int .i64 lo, .int .i64 hi, .slice a ps.length c]] wx fun e w' => e = .returned (.bool (fitsB fs D k f t lo hi ps)) ∧ Below wx.heap.size wx w') := fun wx h => by
    have ix := hin2.below h
    exact queryFitsS_any fa capf fs k f t lo hi ps a c D wx ix.zf ix.sf ix.rf (ha2.below h) hsz hf ht
  have HC3 : Hid (fitsB fs D k f t lo hi ps = true → ∀ wx, Below w2.heap.size w2 wx → Calls Tryz.prog 39 #[.slice fa fs.length capf, .agg #[.string key, .slice ca cs.length capc], .agg #[.int .i64 k, .string f, .string t, .int .i64 lo, .int .i64 hi, .slice a ps.length c]] wx fun e w' => e = .returned (.bool (meetsQ fs key cs D (.mk k f t lo hi ps))) ∧ Below wx.heap.size wx w') := fun hb wx h =>
    specMeets_any D fa capf fs key ca capc cs k f t lo hi ps a c wx (hin2.below h) (ha2.below h) hsz hf ht ⟨4, fits_form hb⟩
  generalize meetB fs key cs D k f t lo hi ps = bb at *
  generalize docOkB fs key cs = b1 at *
  generalize fitsB fs D k f t lo hi ps = b2 at *
  generalize meetsQ fs key cs D (.mk k f t lo hi ps) = b3 at *
  have y0 := D0.cell 0
  have y1 := D0.cell 1
  have q0 := Q0.cell 0
  have q1 := Q0.cell 1
  have q2 := Q0.cell 2
  have q3 := Q0.cell 3
  have q4 := Q0.cell 4
  have q5 := Q0.cell 5
  simp at y0 y1 q0 q1 q2 q3 q4 q5
  clear hw2 hb0 D0 Q0 hin2 hin ha2 ha hsz
  go_enter Tryz.func13, Tryz.ntmps13
  go_upto_region 1 with fail
  rw [HW2.out]
  clear HW2
  go_wp2_with fail
  refine HC1.out.mono ?_
  rintro e w3 ⟨rfl, hb3⟩
  have Q3 := HQ.out w3 hb3
  have D3 := HD.out w3 hb3
  clear HC1 y0 y1 q0 q1 q2 q3 q4 q5
  cases b1 with
  | false =>
    have H1 : Hid (bb = false) := HM.out
    have hw3 := HB.out.trans (hb3.mono HB.out.size)
    clear HM HC2 HC3 Q3 D3 HQ HD
    go_wp2
    go_ret
    exact ⟨ret_bool H1.out.symm, hw3⟩
  | true =>
    have y0 := D3.cell 0
    have y1 := D3.cell 1
    have q0 := Q3.cell 0
    have q1 := Q3.cell 1
    have q2 := Q3.cell 2
    have q3 := Q3.cell 3
    have q4 := Q3.cell 4
    have q5 := Q3.cell 5
    simp at y0 y1 q0 q1 q2 q3 q4 q5
    clear Q3 D3
    go_wp2_with fail
    refine (HC2.out _ hb3).mono ?_
    rintro e w4 ⟨rfl, hb4⟩
    have hb24 := below_trans hb3 hb4
    have Q4 := HQ.out w4 hb24
    have D4 := HD.out w4 hb24
    clear HC2 y0 y1 q0 q1 q2 q3 q4 q5 hb4
    cases b2 with
    | false =>
      have H1 : Hid (bb = false) := HM.out
      have hw4 := HB.out.trans (hb24.mono HB.out.size)
      clear HM HC3 Q4 D4 HQ HD
      go_wp2
      go_ret
      exact ⟨ret_bool H1.out.symm, hw4⟩
    | true =>
      have H1 : Hid (bb = b3) := HM.out
      have y0 := D4.cell 0
      have y1 := D4.cell 1
      have q0 := Q4.cell 0
      have q1 := Q4.cell 1
      have q2 := Q4.cell 2
      have q3 := Q4.cell 3
      have q4 := Q4.cell 4
      have q5 := Q4.cell 5
      simp at y0 y1 q0 q1 q2 q3 q4 q5
      have HC := HC3.out rfl _ hb24
      clear Q4 D4 HM HC3 HQ HD
      go_wp2_with fail
      refine HC.mono ?_
      rintro e w5 ⟨rfl, hb5⟩
      have hw5 := HB.out.trans ((below_trans hb24 hb5).mono HB.out.size)
      clear HC y0 y1 q0 q1 q2 q3 q4 q5 hb5
      go_wp2
      go_ret
      exact ⟨ret_bool H1.out.symm, hw5⟩
end Go.Proofs.YtjkimadnopeakaaGreatDoor
