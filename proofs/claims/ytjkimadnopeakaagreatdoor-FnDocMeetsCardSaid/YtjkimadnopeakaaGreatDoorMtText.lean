/- impl.someText and what it asks: words side by side, a word that begins so. -/
import Derived.Test.YtjkimadnopeakaaGreatDoorMtRun
namespace Go.Proofs.YtjkimadnopeakaaGreatDoor
open Go.RowKit
set_option linter.unusedVariables false

/-- The box of a question. -/
abbrev QBox (w : World) (B : Nat) (k : Int) (f t : ByteArray) (lo hi : Int) (a : Option Addr) (n c : Nat) : Prop := Blk w B #[.int .i64 k, .string f, .string t, .int .i64 lo, .int .i64 hi, .slice a n c] 41
theorem beginsC_any (s : ByteArray) (B : Nat) (k : Int) (f t : ByteArray) (lo hi : Int) (a : Option Addr) (n c : Nat) (w : World) (hB : QBox w B k f t lo hi a n c) :
    Calls Tryz.prog 82 #[.string s, .pointer (some ⟨B, 0, none⟩)] w fun e w' => e = .returned (.bool (preB t s)) ∧ w' = w := by
  have b2 := hB.cell 2
  simp at b2
  clear hB
  go_enter Tryz.func82, Tryz.ntmps82
  go_wp2_with fail
  refine (hasPre_any s t _).mono ?_
  rintro e w1 ⟨rfl, rfl⟩
  go_wp2
  go_ret
  exact ⟨rfl, rfl⟩
set_option maxRecDepth 100000 in
set_option maxHeartbeats 1000000 in
theorem indexBeg_any (p : Option Addr) (cp : Nat) (ts : List ByteArray) (B : Nat) (k : Int) (f t : ByteArray) (lo hi : Int) (a : Option Addr) (n c : Nat) (w : World) (hz : ts.length ≤ 1048576) (hr : StrRow w p ts) (hB : QBox w B k f t lo hi a n c) :
    Calls Tryz.prog 122 #[.slice p ts.length cp, .func (.func 82) #[] #[.pointer (some ⟨B, 0, none⟩)]] w fun e w' => ∃ r : Int, e = .returned (.int .i64 r) ∧ ((r = -1 ∧ someBeg ts t = false) ∨ (0 ≤ r ∧ someBeg ts t = true)) ∧ Below w.heap.size w w' := by
  have HR : Hid (StrRow w p ts) := hr
  have HQ : Hid (∀ wx, Below w.heap.size w wx → QBox wx B k f t lo hi a n c) := fun wx h => hB.below h hB.lt
  have HSB : Hid (someBeg ts t = anyTo (fun i => preB t (ts.getD i ⟨#[]⟩)) ts.length) := rfl
  clear hr hB
  go_enter Tryz.func122, Tryz.ntmps122
  go_wp2
  go_loopw [8] (fun i wr => ∃ j : Nat, j ≤ ts.length ∧ i = .int .i64 j ∧ anyTo (fun i => preB t (ts.getD i ⟨#[]⟩)) j = false ∧ Below w.heap.size w wr) (fun i _ => ts.length - (intOf i).toNat)
  case atStart => exact ⟨0, Nat.zero_le _, rfl, rfl, Below.refl _ _⟩
  case round =>
    obtain ⟨j, hj, rfl, ha, hbel⟩ := hrel
    have HA : Hid (anyTo (fun i => preB t (ts.getD i ⟨#[]⟩)) j = false) := ha
    clear ha
    by_cases hlt : j < ts.length
    · have hji : (j : Int) < (ts.length : Int) := by omega
      obtain ⟨g, rfl, hg, hc⟩ := (HR.out.below hbel) (by omega)
      have c0 := hc j hlt
      have hq := HQ.out _ hbel
      have HY : Hid (preB t (ts.getD j ⟨#[]⟩) = true → someBeg ts t = true) := fun h => by rw [HSB.out]; exact anyTo_yes hlt h
      have HN : Hid (preB t (ts.getD j ⟨#[]⟩) = false → anyTo (fun i => preB t (ts.getD i ⟨#[]⟩)) (j + 1) = false) := fun h => anyTo_snoc HA.out h
      clear hc HA
      generalize ts.getD j ⟨#[]⟩ = x at *
      cases hp : preB t x with
      | true =>
        have HB : Hid (someBeg ts t = true) := HY.out hp
        clear HY HN
        go_wp2_with fail
        refine (beginsC_any x B k f t lo hi a n c wr hq).mono ?_
        rintro e w2 ⟨rfl, rfl⟩
        rw [hp]
        clear hq hp
        go_wp2
        go_ret
        exact ⟨_, rfl, .inr ⟨by omega, HB.out⟩, hbel⟩
      | false =>
        have HB : Hid (anyTo (fun i => preB t (ts.getD i ⟨#[]⟩)) (j + 1) = false) := HN.out hp
        clear HY HN
        go_wp2_with fail
        refine (beginsC_any x B k f t lo hi a n c wr hq).mono ?_
        rintro e w2 ⟨rfl, rfl⟩
        rw [hp]
        clear hq hp
        go_wp2
        go_roundw
        case rel => exact ⟨j + 1, by omega, by go_num, HB.out, hbel⟩
        case measure => simp [intOf]; omega
    · have hjl : j = ts.length := by omega
      subst hjl
      go_wp2
      go_ret
      exact ⟨-1, rfl, .inl ⟨rfl, HSB.out.trans HA.out⟩, hbel⟩
theorem containsBeg_any (p : Option Addr) (cp : Nat) (ts : List ByteArray) (B : Nat) (k : Int) (f t : ByteArray) (lo hi : Int) (a : Option Addr) (n c : Nat) (w : World) (hz : ts.length ≤ 1048576) (hr : StrRow w p ts) (hB : QBox w B k f t lo hi a n c) :
    Calls Tryz.prog 85 #[.slice p ts.length cp, .func (.func 82) #[] #[.pointer (some ⟨B, 0, none⟩)]] w fun e w' => e = .returned (.bool (someBeg ts t)) ∧ Below w.heap.size w w' := by
  have HI : Hid (Calls Tryz.prog 122 #[.slice p ts.length cp, .func (.func 82) #[] #[.pointer (some ⟨B, 0, none⟩)]] w fun e w' => ∃ r : Int, e = .returned (.int .i64 r) ∧ ((r = -1 ∧ someBeg ts t = false) ∨ (0 ≤ r ∧ someBeg ts t = true)) ∧ Below w.heap.size w w') := indexBeg_any p cp ts B k f t lo hi a n c w hz hr hB
  clear hr hB
  go_enter Tryz.func85, Tryz.ntmps85
  go_wp2_with fail
  refine HI.out.mono ?_
  rintro e w1 ⟨r, rfl, hr, hb⟩
  clear HI
  rcases hr with ⟨rfl, h⟩ | ⟨h0, h⟩
  · have H : Hid (someBeg ts t = false) := h
    clear h
    go_wp2
    go_ret
    exact ⟨ret_bool H.out.symm, hb⟩
  · have H : Hid (someBeg ts t = true) := h
    clear h
    go_wp2
    go_ret
    exact ⟨ret_bool H.out.symm, hb⟩
/-- What someText asks of words. -/
def Asks (fid : FuncId) (z : Nat) (w : World) (P : List ByteArray → Bool) : Prop := ∀ (wx : World), Below w.heap.size w wx → ∀ (ts : List ByteArray) (p : Option Addr) (c : Nat), ts.length ≤ 1048576 → ts.length ≤ c → StrRow wx p ts →
  Calls Tryz.prog fid #[.slice p ts.length c, .pointer (some ⟨z, 0, none⟩)] wx fun e w' => e = .returned (.bool (P ts)) ∧ Below wx.heap.size wx w'
theorem asks2 (z : Nat) (p2 : Option Addr) (c2 : Nat) (ss : List ByteArray) (w : World) (hz : Blk w z #[.slice p2 ss.length c2] 60) (hn : 0 < ss.length) (hs : ss.length ≤ 1048576) (hr2 : StrRow w p2 ss) : Asks 80 z w fun ts => runB ts ss := by
  intro wx hbx ts p c ht hc hr
  have b0 := (hz.below hbx hz.lt).cell 0
  have r2 := hr2.below hbx
  simp at b0
  clear hz hr2
  go_enter Tryz.func80, Tryz.ntmps80
  go_wp2_with fail
  refine (standIn_any p c ts p2 c2 ss _ ht hc hn hs hr r2).mono ?_
  rintro e w1 ⟨rfl, hb1⟩
  clear hr r2
  go_wp2
  go_ret
  exact ⟨rfl, hb1⟩
theorem asks4 (z B : Nat) (k : Int) (f t : ByteArray) (lo hi : Int) (a : Option Addr) (n c1 : Nat) (w : World) (hz : Blk w z #[.func (.func 82) #[] #[.pointer (some ⟨B, 0, none⟩)]] 118) (hB : QBox w B k f t lo hi a n c1) : Asks 84 z w fun ts => someBeg ts t := by
  intro wx hbx ts p c ht hc hr
  have b0 := (hz.below hbx hz.lt).cell 0
  have hq := hB.below hbx hB.lt
  simp at b0
  clear hz hB
  go_enter Tryz.func84, Tryz.ntmps84
  go_wp2_with fail
  refine (containsBeg_any p c ts B k f t lo hi a n c1 _ ht hr hq).mono ?_
  rintro e w1 ⟨rfl, hb1⟩
  clear hr hq
  go_wp2
  go_ret
  exact ⟨rfl, hb1⟩
set_option maxRecDepth 100000 in
set_option maxHeartbeats 2000000 in
theorem someText2_any (fa : Option Addr) (capf : Nat) (fs : List Fld) (key : ByteArray) (ca : Option Addr) (capc : Nat) (cs : List Cel) (fd : ByteArray) (z : Nat) (P : List ByteArray → Bool) (w : World) (hzf : fs.length ≤ 1048576) (hzc : cs.length ≤ 1048576) (hsc : CelsSmall cs) (hrf : FldRow w fa fs) (hrc : CelRow w ca cs) (hP : Asks 80 z w P) :
    Calls Tryz.prog 79 #[.slice fa fs.length capf, .agg #[.string key, .slice ca cs.length capc], .string fd, .func (.func 80) #[] #[.pointer (some ⟨z, 0, none⟩)]] w fun e w' => e = .returned (.bool (anyTo (cellM fs cs fd P) cs.length)) ∧ Below w.heap.size w w' := by
  have hb0 : Below w.heap.size w (w.alloc (.cells #[.string key, .slice ca cs.length capc] 37)) := (Below.refl _ w).alloc (Nat.le_refl _) _
  have B0 := Blk.new w #[.string key, .slice ca cs.length capc] 37
  have HRF : Hid (∀ wx, Below w.heap.size w wx → FldRow wx fa fs) := fun wx h => hrf.below h
  have HRC : Hid (∀ wx, Below w.heap.size w wx → CelRow wx ca cs) := fun wx h => hrc.below h
  have HSC : Hid (CelsSmall cs) := hsc
  have HP : Hid (Asks 80 z w P) := hP
  obtain ⟨w0, hw0⟩ : ∃ w0, w.alloc (.cells #[.string key, .slice ca cs.length capc] 37) = w0 := ⟨_, rfl⟩
  have HW0 : Hid (w.alloc (.cells #[.string key, .slice ca cs.length capc] 37) = w0) := hw0
  rw [hw0] at hb0 B0
  have HB0 : Hid (Below w.heap.size w w0) := hb0
  have b0 := B0.cell 0
  have b1 := B0.cell 1
  simp at b0 b1
  clear hrf hrc hsc hP hw0 hb0 B0
  go_enter Tryz.func79, Tryz.ntmps79
  go_upto_region 1 with fail
  rw [HW0.out]
  clear HW0
  go_wp2
  clear b0 b1
  go_loopw [16] (fun i wr => ∃ j : Nat, j ≤ cs.length ∧ i = .int .i64 j ∧ anyTo (cellM fs cs fd P) j = false ∧ Below w.heap.size w wr) (fun i _ => cs.length - (intOf i).toNat)
  case atStart => exact ⟨0, Nat.zero_le _, rfl, rfl, HB0.out⟩
  case round =>
    clear HB0
    obtain ⟨j, hj, rfl, ha, hbel⟩ := hrel
    have HA : Hid (anyTo (cellM fs cs fd P) j = false) := ha
    clear ha
    by_cases hlt : j < cs.length
    · have hji : (j : Int) < (cs.length : Int) := by omega
      obtain ⟨g, off, rfl, hg, hc⟩ := (HRC.out _ hbel) (by omega)
      obtain ⟨c0, c1⟩ := hc j hlt
      obtain ⟨s0, s1⟩ := HSC.out j hlt
      have HY : Hid (cellM fs cs fd P j = true → anyTo (cellM fs cs fd P) cs.length = true) := fun h => anyTo_yes hlt h
      have HN : Hid (cellM fs cs fd P j = false → anyTo (cellM fs cs fd P) (j + 1) = false) := fun h => anyTo_snoc HA.out h
      have HC : Hid (cellM fs cs fd P j = (kindB fs (cat cs j).name 1 && (noB fd || fd.toList == (cat cs j).name.toList) && P (termsL (cat cs j).text))) := rfl
      generalize cellM fs cs fd P j = b at *
      generalize cat cs j = cl at *
      obtain ⟨nm, tx⟩ := cl
      simp only at c0 c1 s0 s1 HC
      have hba : Below wr.heap.size wr (wr.alloc (.cells #[.string nm, .string tx] 59)) := (Below.refl _ wr).alloc (Nat.le_refl _) _
      have X := Blk.new wr #[.string nm, .string tx] 59
      clear hc HA
      go_upto_region 4 with fail
      obtain ⟨G, hG⟩ : ∃ G, wr.heap.size = G := ⟨_, rfl⟩
      obtain ⟨wa, hwa⟩ : ∃ wa, wr.alloc (.cells #[.string nm, .string tx] 59) = wa := ⟨_, rfl⟩
      have hwb := below_trans hbel hba
      rw [hwa] at hwb X ⊢
      rw [hG] at X ⊢
      have x0 := X.cell 0
      have x1 := X.cell 1
      simp at x0 x1
      have hrf := HRF.out _ hwb
      clear c0 c1 hwa hba hG hbel
      go_wp2_with fail
      refine (fieldOf_any fa capf fs nm wa hzf hrf).mono ?_
      rintro e w2 ⟨fl, bb, rfl, hfl, hb2⟩
      have HK : Hid ((fl.kind == 1) = kindB fs nm 1) := by rw [found_kind hfl]; rfl
      have X2 := X.below hb2 X.lt
      have hw2 := below_trans hwb hb2
      clear hfl hrf x0 x1 X hb2 hwb
      generalize kindB fs nm 1 = kb at *
      obtain ⟨fn, fk, fw⟩ := fl
      simp only at HK
      have hbf : Below w2.heap.size w2 (w2.alloc (.cells #[.string fn, .int .i64 fk, .int .i64 fw] 72)) := (Below.refl _ w2).alloc (Nat.le_refl _) _
      have F := Blk.new w2 #[.string fn, .int .i64 fk, .int .i64 fw] 72
      go_upto_region 5 with fail
      obtain ⟨H, hH⟩ : ∃ H, w2.heap.size = H := ⟨_, rfl⟩
      obtain ⟨w3, hw3⟩ : ∃ w3, w2.alloc (.cells #[.string fn, .int .i64 fk, .int .i64 fw] 72) = w3 := ⟨_, rfl⟩
      have hwc := below_trans hw2 hbf
      have X3 := X2.below hbf X2.lt
      rw [hw3] at hwc F X3 ⊢
      rw [hH] at F ⊢
      have f1 := F.cell 1
      have x0 := X3.cell 0
      have x1 := X3.cell 1
      simp at f1 x0 x1
      have HKB := HK.out
      clear hw3 hH hw2 hbf X2 F X3 HK
      cases kb with
      | false =>
        have HB : Hid (anyTo (cellM fs cs fd P) (j + 1) = false) := HN.out (by rw [HC.out]; rfl)
        clear HC HN HY
        go_wp2
        go_roundw
        case rel => exact ⟨j + 1, by omega, by go_num, HB.out, hwc⟩
        case measure => simp [intOf]; omega
      | true =>
        have HT : Hid (∀ wx, Calls Tryz.prog 31 #[.string tx] wx fun e w' => ∃ p c, e = .returned (.slice p (termsL tx).length c) ∧ (termsL tx).length ≤ c ∧ StrRow w' p (termsL tx) ∧ Below wx.heap.size wx w') := fun wx => by
          refine (termsI2_any tx wx s1).mono ?_
          rintro e w' ⟨v, rfl, ho, hb⟩
          obtain ⟨p, c, rfl, hcl, hr⟩ := owns_strRowC ho
          exact ⟨p, c, rfl, hcl, hr, hb⟩
        have hTL := termsL_le tx
        cases hnb : noB fd with
        | true =>
          have he : (fd.toList == []) = true := by unfold noB at hnb; rw [List.isEmpty_iff] at hnb; rw [hnb]; rfl
          have HB2 : Hid (b = P (termsL tx)) := by unfold Hid; rw [HC.out, hnb, Bool.true_or, Bool.true_and, Bool.true_and]
          clear HC
          generalize termsL tx = ts at *
          go_wp2_with fail
          refine (HT.out _).mono ?_
          rintro e w4 ⟨p4, c4, rfl, hcl4, r4, hb4⟩
          have hw4 := below_trans hwc hb4
          clear HT f1 x0 x1 hb4 hwc
          go_wp2_with fail
          refine (HP.out w4 hw4 ts p4 c4 (by omega) hcl4 r4).mono ?_
          rintro e w5 ⟨rfl, hb5⟩
          have hw5 := below_trans hw4 hb5
          rw [← HB2.out]
          clear r4 hb5 hw4
          cases b with
          | true =>
            have HB : Hid (anyTo (cellM fs cs fd P) cs.length = true) := HY.out rfl
            clear HY HN HB2
            go_wp2
            go_ret
            exact ⟨ret_bool HB.out.symm, hw5⟩
          | false =>
            have HB : Hid (anyTo (cellM fs cs fd P) (j + 1) = false) := HN.out rfl
            clear HY HN HB2
            go_wp2
            go_roundw
            case rel => exact ⟨j + 1, by omega, by go_num, HB.out, hw5⟩
            case measure => simp [intOf]; omega
        | false =>
          have he : (fd.toList == []) = false := by
            unfold noB at hnb
            cases hfl : fd.toList with
            | nil => rw [hfl] at hnb; cases hnb
            | cons a l => rfl
          cases hnm : (fd.toList == nm.toList) with
          | false =>
            have HB : Hid (anyTo (cellM fs cs fd P) (j + 1) = false) := HN.out (by rw [HC.out, hnb, hnm]; rfl)
            clear HC HN HY HT
            go_wp2
            go_roundw
            case rel => exact ⟨j + 1, by omega, by go_num, HB.out, hwc⟩
            case measure => simp [intOf]; omega
          | true =>
            have HB2 : Hid (b = P (termsL tx)) := by unfold Hid; rw [HC.out, hnb, hnm, Bool.or_true, Bool.true_and, Bool.true_and]
            clear HC
            generalize termsL tx = ts at *
            go_wp2_with fail
            refine (HT.out _).mono ?_
            rintro e w4 ⟨p4, c4, rfl, hcl4, r4, hb4⟩
            have hw4 := below_trans hwc hb4
            clear HT f1 x0 x1 hb4 hwc
            go_wp2_with fail
            refine (HP.out w4 hw4 ts p4 c4 (by omega) hcl4 r4).mono ?_
            rintro e w5 ⟨rfl, hb5⟩
            have hw5 := below_trans hw4 hb5
            rw [← HB2.out]
            clear r4 hb5 hw4
            cases b with
            | true =>
              have HB : Hid (anyTo (cellM fs cs fd P) cs.length = true) := HY.out rfl
              clear HY HN HB2
              go_wp2
              go_ret
              exact ⟨ret_bool HB.out.symm, hw5⟩
            | false =>
              have HB : Hid (anyTo (cellM fs cs fd P) (j + 1) = false) := HN.out rfl
              clear HY HN HB2
              go_wp2
              go_roundw
              case rel => exact ⟨j + 1, by omega, by go_num, HB.out, hw5⟩
              case measure => simp [intOf]; omega
    · have hjl : j = cs.length := by omega
      subst hjl
      have HB : Hid (anyTo (cellM fs cs fd P) cs.length = false) := HA.out
      clear HA
      go_wp2
      go_ret
      exact ⟨ret_bool HB.out.symm, hbel⟩
set_option maxRecDepth 100000 in
set_option maxHeartbeats 2000000 in
theorem someText4_any (fa : Option Addr) (capf : Nat) (fs : List Fld) (key : ByteArray) (ca : Option Addr) (capc : Nat) (cs : List Cel) (fd : ByteArray) (z : Nat) (P : List ByteArray → Bool) (w : World) (hzf : fs.length ≤ 1048576) (hzc : cs.length ≤ 1048576) (hsc : CelsSmall cs) (hrf : FldRow w fa fs) (hrc : CelRow w ca cs) (hP : Asks 84 z w P) :
    Calls Tryz.prog 79 #[.slice fa fs.length capf, .agg #[.string key, .slice ca cs.length capc], .string fd, .func (.func 84) #[] #[.pointer (some ⟨z, 0, none⟩)]] w fun e w' => e = .returned (.bool (anyTo (cellM fs cs fd P) cs.length)) ∧ Below w.heap.size w w' := by
  have hb0 : Below w.heap.size w (w.alloc (.cells #[.string key, .slice ca cs.length capc] 37)) := (Below.refl _ w).alloc (Nat.le_refl _) _
  have B0 := Blk.new w #[.string key, .slice ca cs.length capc] 37
  have HRF : Hid (∀ wx, Below w.heap.size w wx → FldRow wx fa fs) := fun wx h => hrf.below h
  have HRC : Hid (∀ wx, Below w.heap.size w wx → CelRow wx ca cs) := fun wx h => hrc.below h
  have HSC : Hid (CelsSmall cs) := hsc
  have HP : Hid (Asks 84 z w P) := hP
  obtain ⟨w0, hw0⟩ : ∃ w0, w.alloc (.cells #[.string key, .slice ca cs.length capc] 37) = w0 := ⟨_, rfl⟩
  have HW0 : Hid (w.alloc (.cells #[.string key, .slice ca cs.length capc] 37) = w0) := hw0
  rw [hw0] at hb0 B0
  have HB0 : Hid (Below w.heap.size w w0) := hb0
  have b0 := B0.cell 0
  have b1 := B0.cell 1
  simp at b0 b1
  clear hrf hrc hsc hP hw0 hb0 B0
  go_enter Tryz.func79, Tryz.ntmps79
  go_upto_region 1 with fail
  rw [HW0.out]
  clear HW0
  go_wp2
  clear b0 b1
  go_loopw [16] (fun i wr => ∃ j : Nat, j ≤ cs.length ∧ i = .int .i64 j ∧ anyTo (cellM fs cs fd P) j = false ∧ Below w.heap.size w wr) (fun i _ => cs.length - (intOf i).toNat)
  case atStart => exact ⟨0, Nat.zero_le _, rfl, rfl, HB0.out⟩
  case round =>
    clear HB0
    obtain ⟨j, hj, rfl, ha, hbel⟩ := hrel
    have HA : Hid (anyTo (cellM fs cs fd P) j = false) := ha
    clear ha
    by_cases hlt : j < cs.length
    · have hji : (j : Int) < (cs.length : Int) := by omega
      obtain ⟨g, off, rfl, hg, hc⟩ := (HRC.out _ hbel) (by omega)
      obtain ⟨c0, c1⟩ := hc j hlt
      obtain ⟨s0, s1⟩ := HSC.out j hlt
      have HY : Hid (cellM fs cs fd P j = true → anyTo (cellM fs cs fd P) cs.length = true) := fun h => anyTo_yes hlt h
      have HN : Hid (cellM fs cs fd P j = false → anyTo (cellM fs cs fd P) (j + 1) = false) := fun h => anyTo_snoc HA.out h
      have HC : Hid (cellM fs cs fd P j = (kindB fs (cat cs j).name 1 && (noB fd || fd.toList == (cat cs j).name.toList) && P (termsL (cat cs j).text))) := rfl
      generalize cellM fs cs fd P j = b at *
      generalize cat cs j = cl at *
      obtain ⟨nm, tx⟩ := cl
      simp only at c0 c1 s0 s1 HC
      have hba : Below wr.heap.size wr (wr.alloc (.cells #[.string nm, .string tx] 59)) := (Below.refl _ wr).alloc (Nat.le_refl _) _
      have X := Blk.new wr #[.string nm, .string tx] 59
      clear hc HA
      go_upto_region 4 with fail
      obtain ⟨G, hG⟩ : ∃ G, wr.heap.size = G := ⟨_, rfl⟩
      obtain ⟨wa, hwa⟩ : ∃ wa, wr.alloc (.cells #[.string nm, .string tx] 59) = wa := ⟨_, rfl⟩
      have hwb := below_trans hbel hba
      rw [hwa] at hwb X ⊢
      rw [hG] at X ⊢
      have x0 := X.cell 0
      have x1 := X.cell 1
      simp at x0 x1
      have hrf := HRF.out _ hwb
      clear c0 c1 hwa hba hG hbel
      go_wp2_with fail
      refine (fieldOf_any fa capf fs nm wa hzf hrf).mono ?_
      rintro e w2 ⟨fl, bb, rfl, hfl, hb2⟩
      have HK : Hid ((fl.kind == 1) = kindB fs nm 1) := by rw [found_kind hfl]; rfl
      have X2 := X.below hb2 X.lt
      have hw2 := below_trans hwb hb2
      clear hfl hrf x0 x1 X hb2 hwb
      generalize kindB fs nm 1 = kb at *
      obtain ⟨fn, fk, fw⟩ := fl
      simp only at HK
      have hbf : Below w2.heap.size w2 (w2.alloc (.cells #[.string fn, .int .i64 fk, .int .i64 fw] 72)) := (Below.refl _ w2).alloc (Nat.le_refl _) _
      have F := Blk.new w2 #[.string fn, .int .i64 fk, .int .i64 fw] 72
      go_upto_region 5 with fail
      obtain ⟨H, hH⟩ : ∃ H, w2.heap.size = H := ⟨_, rfl⟩
      obtain ⟨w3, hw3⟩ : ∃ w3, w2.alloc (.cells #[.string fn, .int .i64 fk, .int .i64 fw] 72) = w3 := ⟨_, rfl⟩
      have hwc := below_trans hw2 hbf
      have X3 := X2.below hbf X2.lt
      rw [hw3] at hwc F X3 ⊢
      rw [hH] at F ⊢
      have f1 := F.cell 1
      have x0 := X3.cell 0
      have x1 := X3.cell 1
      simp at f1 x0 x1
      have HKB := HK.out
      clear hw3 hH hw2 hbf X2 F X3 HK
      cases kb with
      | false =>
        have HB : Hid (anyTo (cellM fs cs fd P) (j + 1) = false) := HN.out (by rw [HC.out]; rfl)
        clear HC HN HY
        go_wp2
        go_roundw
        case rel => exact ⟨j + 1, by omega, by go_num, HB.out, hwc⟩
        case measure => simp [intOf]; omega
      | true =>
        have HT : Hid (∀ wx, Calls Tryz.prog 31 #[.string tx] wx fun e w' => ∃ p c, e = .returned (.slice p (termsL tx).length c) ∧ (termsL tx).length ≤ c ∧ StrRow w' p (termsL tx) ∧ Below wx.heap.size wx w') := fun wx => by
          refine (termsI2_any tx wx s1).mono ?_
          rintro e w' ⟨v, rfl, ho, hb⟩
          obtain ⟨p, c, rfl, hcl, hr⟩ := owns_strRowC ho
          exact ⟨p, c, rfl, hcl, hr, hb⟩
        have hTL := termsL_le tx
        cases hnb : noB fd with
        | true =>
          have he : (fd.toList == []) = true := by unfold noB at hnb; rw [List.isEmpty_iff] at hnb; rw [hnb]; rfl
          have HB2 : Hid (b = P (termsL tx)) := by unfold Hid; rw [HC.out, hnb, Bool.true_or, Bool.true_and, Bool.true_and]
          clear HC
          generalize termsL tx = ts at *
          go_wp2_with fail
          refine (HT.out _).mono ?_
          rintro e w4 ⟨p4, c4, rfl, hcl4, r4, hb4⟩
          have hw4 := below_trans hwc hb4
          clear HT f1 x0 x1 hb4 hwc
          go_wp2_with fail
          refine (HP.out w4 hw4 ts p4 c4 (by omega) hcl4 r4).mono ?_
          rintro e w5 ⟨rfl, hb5⟩
          have hw5 := below_trans hw4 hb5
          rw [← HB2.out]
          clear r4 hb5 hw4
          cases b with
          | true =>
            have HB : Hid (anyTo (cellM fs cs fd P) cs.length = true) := HY.out rfl
            clear HY HN HB2
            go_wp2
            go_ret
            exact ⟨ret_bool HB.out.symm, hw5⟩
          | false =>
            have HB : Hid (anyTo (cellM fs cs fd P) (j + 1) = false) := HN.out rfl
            clear HY HN HB2
            go_wp2
            go_roundw
            case rel => exact ⟨j + 1, by omega, by go_num, HB.out, hw5⟩
            case measure => simp [intOf]; omega
        | false =>
          have he : (fd.toList == []) = false := by
            unfold noB at hnb
            cases hfl : fd.toList with
            | nil => rw [hfl] at hnb; cases hnb
            | cons a l => rfl
          cases hnm : (fd.toList == nm.toList) with
          | false =>
            have HB : Hid (anyTo (cellM fs cs fd P) (j + 1) = false) := HN.out (by rw [HC.out, hnb, hnm]; rfl)
            clear HC HN HY HT
            go_wp2
            go_roundw
            case rel => exact ⟨j + 1, by omega, by go_num, HB.out, hwc⟩
            case measure => simp [intOf]; omega
          | true =>
            have HB2 : Hid (b = P (termsL tx)) := by unfold Hid; rw [HC.out, hnb, hnm, Bool.or_true, Bool.true_and, Bool.true_and]
            clear HC
            generalize termsL tx = ts at *
            go_wp2_with fail
            refine (HT.out _).mono ?_
            rintro e w4 ⟨p4, c4, rfl, hcl4, r4, hb4⟩
            have hw4 := below_trans hwc hb4
            clear HT f1 x0 x1 hb4 hwc
            go_wp2_with fail
            refine (HP.out w4 hw4 ts p4 c4 (by omega) hcl4 r4).mono ?_
            rintro e w5 ⟨rfl, hb5⟩
            have hw5 := below_trans hw4 hb5
            rw [← HB2.out]
            clear r4 hb5 hw4
            cases b with
            | true =>
              have HB : Hid (anyTo (cellM fs cs fd P) cs.length = true) := HY.out rfl
              clear HY HN HB2
              go_wp2
              go_ret
              exact ⟨ret_bool HB.out.symm, hw5⟩
            | false =>
              have HB : Hid (anyTo (cellM fs cs fd P) (j + 1) = false) := HN.out rfl
              clear HY HN HB2
              go_wp2
              go_roundw
              case rel => exact ⟨j + 1, by omega, by go_num, HB.out, hw5⟩
              case measure => simp [intOf]; omega
    · have hjl : j = cs.length := by omega
      subst hjl
      have HB : Hid (anyTo (cellM fs cs fd P) cs.length = false) := HA.out
      clear HA
      go_wp2
      go_ret
      exact ⟨ret_bool HB.out.symm, hbel⟩
end Go.Proofs.YtjkimadnopeakaaGreatDoor
