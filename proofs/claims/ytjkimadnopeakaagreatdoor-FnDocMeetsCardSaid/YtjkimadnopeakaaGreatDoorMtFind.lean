/- slices.ContainsFunc over questions; impl.numMeets. -/
import Derived.Test.YtjkimadnopeakaaGreatDoorMtText
namespace Go.Proofs.YtjkimadnopeakaaGreatDoor
open Go.RowKit
set_option linter.unusedVariables false

/-- Fields and a document, as they are read. -/
structure MtIn (w : World) (fa : Option Addr) (capf : Nat) (fs : List Fld) (key : ByteArray) (ca : Option Addr) (cs : List Cel) : Prop where
  zf : fs.length ≤ 1048576
  cf : fs.length ≤ capf
  sf : FldsSmall fs
  rf : FldRow w fa fs
  zk : key.size ≤ 1048576
  zc : cs.length ≤ 1048576
  sc : CelsSmall cs
  rc : CelRow w ca cs
  m : MaxL w
theorem MtIn.below {w w' : World} {fa : Option Addr} {capf : Nat} {fs : List Fld} {key : ByteArray} {ca : Option Addr} {cs : List Cel} (h : MtIn w fa capf fs key ca cs) (hb : Below w.heap.size w w') : MtIn w' fa capf fs key ca cs :=
  ⟨h.zf, h.cf, h.sf, h.rf.below hb, h.zk, h.zc, h.sc, h.rc.below hb, h.m.below hb⟩
/-- What is asked of a question, and answered by what the program puts there (1). -/
def AsksQ1 (d : Nat) (X Y : Nat) (w : World) (ps : List Qy) (want : Nat → Bool) : Prop := ∀ (wx : World), Below w.heap.size w wx → ∀ i, i < ps.length → ∀ p c, QAt wx 0 d p (qat ps i).parts →
  Calls Tryz.prog 78 #[.agg #[.int .i64 (qat ps i).kind, .string (qat ps i).field, .string (qat ps i).text, .int .i64 (qat ps i).low, .int .i64 (qat ps i).high, .slice p (qat ps i).parts.length c], .pointer (some ⟨X, 0, none⟩), .pointer (some ⟨Y, 0, none⟩)] wx fun e w' => e = .returned (.bool (want i)) ∧ Below wx.heap.size wx w'
set_option maxRecDepth 100000 in
set_option maxHeartbeats 1000000 in
theorem indexQ1_any (d : Nat) (X Y : Nat) (ps : List Qy) (want : Nat → Bool) (a : Option Addr) (c : Nat) (w : World) (hz : ps.length ≤ 1048576) (ha : QAt w 0 (d + 1) a ps) (hm : AsksQ1 d X Y w ps want) :
    Calls Tryz.prog 124 #[.slice a ps.length c, .func (.func 78) #[] #[.pointer (some ⟨X, 0, none⟩), .pointer (some ⟨Y, 0, none⟩)]] w fun e w' => ∃ r : Int, e = .returned (.int .i64 r) ∧ ((r = -1 ∧ anyTo want ps.length = false) ∨ (0 ≤ r ∧ anyTo want ps.length = true)) ∧ Below w.heap.size w w' := by
  have HA : Hid (∀ wx, Below w.heap.size w wx → QAt wx 0 (d + 1) a ps) := fun wx h => ha.below h
  have HM : Hid (AsksQ1 d X Y w ps want) := hm
  clear ha hm
  go_enter Tryz.func124, Tryz.ntmps124
  go_wp2
  go_loopw [8] (fun i wr => ∃ j : Nat, j ≤ ps.length ∧ i = .int .i64 j ∧ anyTo want j = false ∧ Below w.heap.size w wr) (fun i _ => ps.length - (intOf i).toNat)
  case atStart => exact ⟨0, Nat.zero_le _, rfl, rfl, Below.refl _ _⟩
  case round =>
    obtain ⟨j, hj, rfl, hno, hbel⟩ := hrel
    have HN0 : Hid (anyTo want j = false) := hno
    clear hno
    by_cases hlt : j < ps.length
    · have hji : (j : Int) < (ps.length : Int) := by omega
      obtain ⟨g, off, rfl, _, hg, hc⟩ := (HA.out _ hbel) (by omega)
      obtain ⟨p, c', ⟨c0, c1, c2, c3, c4, c5⟩, hq⟩ := hc j hlt
      have HC := HM.out wr hbel j hlt p c' hq
      have HY : Hid (want j = true → anyTo want ps.length = true) := fun h => anyTo_yes hlt h
      have HN : Hid (want j = false → anyTo want (j + 1) = false) := fun h => anyTo_snoc HN0.out h
      clear hc hq HM HN0
      generalize want j = b at *
      generalize qat ps j = q at *
      obtain ⟨kd, f', t', lo', hi', pp⟩ := q
      simp only [Qy.kind, Qy.field, Qy.text, Qy.low, Qy.high, Qy.parts] at c0 c1 c2 c3 c4 c5 HC
      go_wp2_with fail
      refine HC.mono ?_
      rintro e w2 ⟨rfl, hb2⟩
      have hw2 := below_trans hbel hb2
      clear HC c0 c1 c2 c3 c4 c5 hb2
      cases b with
      | true =>
        have HB : Hid (anyTo want ps.length = true) := HY.out rfl
        clear HY HN
        go_wp2
        go_ret
        exact ⟨_, rfl, .inr ⟨by omega, HB.out⟩, hw2⟩
      | false =>
        have HB : Hid (anyTo want (j + 1) = false) := HN.out rfl
        clear HY HN
        go_wp2
        go_roundw
        case rel => exact ⟨j + 1, by omega, by go_num, HB.out, hw2⟩
        case measure => simp [intOf]; omega
    · have hjl : j = ps.length := by omega
      subst hjl
      clear HM
      go_wp2
      go_ret
      exact ⟨-1, rfl, .inl ⟨rfl, HN0.out⟩, hbel⟩
theorem containsQ1_any (d : Nat) (X Y : Nat) (ps : List Qy) (want : Nat → Bool) (a : Option Addr) (c : Nat) (w : World) (hz : ps.length ≤ 1048576) (ha : QAt w 0 (d + 1) a ps) (hm : AsksQ1 d X Y w ps want) :
    Calls Tryz.prog 88 #[.slice a ps.length c, .func (.func 78) #[] #[.pointer (some ⟨X, 0, none⟩), .pointer (some ⟨Y, 0, none⟩)]] w fun e w' => e = .returned (.bool (anyTo want ps.length)) ∧ Below w.heap.size w w' := by
  have HI : Hid (Calls Tryz.prog 124 #[.slice a ps.length c, .func (.func 78) #[] #[.pointer (some ⟨X, 0, none⟩), .pointer (some ⟨Y, 0, none⟩)]] w fun e w' => ∃ r : Int, e = .returned (.int .i64 r) ∧ ((r = -1 ∧ anyTo want ps.length = false) ∨ (0 ≤ r ∧ anyTo want ps.length = true)) ∧ Below w.heap.size w w') := indexQ1_any d X Y ps want a c w hz ha hm
  clear ha hm
  generalize anyTo want ps.length = b at *
  go_enter Tryz.func88, Tryz.ntmps88
  go_wp2_with fail
  refine HI.out.mono ?_
  rintro e w1 ⟨r, rfl, hr, hb⟩
  clear HI
  rcases hr with ⟨rfl, rfl⟩ | ⟨h0, rfl⟩
  · go_wp2
    go_ret
    exact ⟨rfl, hb⟩
  · have hd : decide (r ≥ 0) = true := decide_eq_true h0
    go_wp2
    go_ret
    exact ⟨rfl, hb⟩
/-- What is asked of a question, and answered by what the program puts there (5). -/
def AsksQ5 (d : Nat) (F : Nat) (w : World) (ps : List Qy) (want : Nat → Bool) : Prop := ∀ (wx : World), Below w.heap.size w wx → ∀ i, i < ps.length → ∀ p c, QAt wx 0 d p (qat ps i).parts →
  Calls Tryz.prog 89 #[.agg #[.int .i64 (qat ps i).kind, .string (qat ps i).field, .string (qat ps i).text, .int .i64 (qat ps i).low, .int .i64 (qat ps i).high, .slice p (qat ps i).parts.length c], .pointer (some ⟨F, 0, none⟩)] wx fun e w' => e = .returned (.bool (want i)) ∧ Below wx.heap.size wx w'
set_option maxRecDepth 100000 in
set_option maxHeartbeats 1000000 in
theorem indexQ5_any (d : Nat) (F : Nat) (ps : List Qy) (want : Nat → Bool) (a : Option Addr) (c : Nat) (w : World) (hz : ps.length ≤ 1048576) (ha : QAt w 0 (d + 1) a ps) (hm : AsksQ5 d F w ps want) :
    Calls Tryz.prog 124 #[.slice a ps.length c, .func (.func 89) #[] #[.pointer (some ⟨F, 0, none⟩)]] w fun e w' => ∃ r : Int, e = .returned (.int .i64 r) ∧ ((r = -1 ∧ anyTo want ps.length = false) ∨ (0 ≤ r ∧ anyTo want ps.length = true)) ∧ Below w.heap.size w w' := by
  have HA : Hid (∀ wx, Below w.heap.size w wx → QAt wx 0 (d + 1) a ps) := fun wx h => ha.below h
  have HM : Hid (AsksQ5 d F w ps want) := hm
  clear ha hm
  go_enter Tryz.func124, Tryz.ntmps124
  go_wp2
  go_loopw [8] (fun i wr => ∃ j : Nat, j ≤ ps.length ∧ i = .int .i64 j ∧ anyTo want j = false ∧ Below w.heap.size w wr) (fun i _ => ps.length - (intOf i).toNat)
  case atStart => exact ⟨0, Nat.zero_le _, rfl, rfl, Below.refl _ _⟩
  case round =>
    obtain ⟨j, hj, rfl, hno, hbel⟩ := hrel
    have HN0 : Hid (anyTo want j = false) := hno
    clear hno
    by_cases hlt : j < ps.length
    · have hji : (j : Int) < (ps.length : Int) := by omega
      obtain ⟨g, off, rfl, _, hg, hc⟩ := (HA.out _ hbel) (by omega)
      obtain ⟨p, c', ⟨c0, c1, c2, c3, c4, c5⟩, hq⟩ := hc j hlt
      have HC := HM.out wr hbel j hlt p c' hq
      have HY : Hid (want j = true → anyTo want ps.length = true) := fun h => anyTo_yes hlt h
      have HN : Hid (want j = false → anyTo want (j + 1) = false) := fun h => anyTo_snoc HN0.out h
      clear hc hq HM HN0
      generalize want j = b at *
      generalize qat ps j = q at *
      obtain ⟨kd, f', t', lo', hi', pp⟩ := q
      simp only [Qy.kind, Qy.field, Qy.text, Qy.low, Qy.high, Qy.parts] at c0 c1 c2 c3 c4 c5 HC
      go_wp2_with fail
      refine HC.mono ?_
      rintro e w2 ⟨rfl, hb2⟩
      have hw2 := below_trans hbel hb2
      clear HC c0 c1 c2 c3 c4 c5 hb2
      cases b with
      | true =>
        have HB : Hid (anyTo want ps.length = true) := HY.out rfl
        clear HY HN
        go_wp2
        go_ret
        exact ⟨_, rfl, .inr ⟨by omega, HB.out⟩, hw2⟩
      | false =>
        have HB : Hid (anyTo want (j + 1) = false) := HN.out rfl
        clear HY HN
        go_wp2
        go_roundw
        case rel => exact ⟨j + 1, by omega, by go_num, HB.out, hw2⟩
        case measure => simp [intOf]; omega
    · have hjl : j = ps.length := by omega
      subst hjl
      clear HM
      go_wp2
      go_ret
      exact ⟨-1, rfl, .inl ⟨rfl, HN0.out⟩, hbel⟩
theorem containsQ5_any (d : Nat) (F : Nat) (ps : List Qy) (want : Nat → Bool) (a : Option Addr) (c : Nat) (w : World) (hz : ps.length ≤ 1048576) (ha : QAt w 0 (d + 1) a ps) (hm : AsksQ5 d F w ps want) :
    Calls Tryz.prog 88 #[.slice a ps.length c, .func (.func 89) #[] #[.pointer (some ⟨F, 0, none⟩)]] w fun e w' => e = .returned (.bool (anyTo want ps.length)) ∧ Below w.heap.size w w' := by
  have HI : Hid (Calls Tryz.prog 124 #[.slice a ps.length c, .func (.func 89) #[] #[.pointer (some ⟨F, 0, none⟩)]] w fun e w' => ∃ r : Int, e = .returned (.int .i64 r) ∧ ((r = -1 ∧ anyTo want ps.length = false) ∨ (0 ≤ r ∧ anyTo want ps.length = true)) ∧ Below w.heap.size w w') := indexQ5_any d F ps want a c w hz ha hm
  clear ha hm
  generalize anyTo want ps.length = b at *
  go_enter Tryz.func88, Tryz.ntmps88
  go_wp2_with fail
  refine HI.out.mono ?_
  rintro e w1 ⟨r, rfl, hr, hb⟩
  clear HI
  rcases hr with ⟨rfl, rfl⟩ | ⟨h0, rfl⟩
  · go_wp2
    go_ret
    exact ⟨rfl, hb⟩
  · have hd : decide (r ≥ 0) = true := decide_eq_true h0
    go_wp2
    go_ret
    exact ⟨rfl, hb⟩
set_option maxRecDepth 100000 in
set_option maxHeartbeats 1000000 in
theorem numMeets_any (fa : Option Addr) (capf : Nat) (fs : List Fld) (key : ByteArray) (ca : Option Addr) (capc : Nat) (cs : List Cel) (k : Int) (f t : ByteArray) (lo hi : Int) (n : Nat) (a : Option Addr) (c : Nat) (w : World) (hin : MtIn w fa capf fs key ca cs) :
    Calls Tryz.prog 86 #[.slice fa fs.length capf, .agg #[.string key, .slice ca cs.length capc], .agg #[.int .i64 k, .string f, .string t, .int .i64 lo, .int .i64 hi, .slice a n c]] w fun e w' => e = .returned (.bool (dhas fs key cs f && (decide (lo ≤ dnum fs key cs f) && decide (dnum fs key cs f ≤ hi)))) ∧ Below w.heap.size w w' := by
  have hb0 : Below w.heap.size w ((w.alloc (.cells #[.string key, .slice ca cs.length capc] 37)).alloc (.cells #[.int .i64 k, .string f, .string t, .int .i64 lo, .int .i64 hi, .slice a n c] 41)) := ((Below.refl _ w).alloc (Nat.le_refl _) _).alloc (by simp) _
  have Q0 := Blk.new (w.alloc (.cells #[.string key, .slice ca cs.length capc] 37)) #[.int .i64 k, .string f, .string t, .int .i64 lo, .int .i64 hi, .slice a n c] 41
  rw [World.size_alloc] at Q0
  have hin0 := hin.below hb0
  have HN : Hid (Calls Tryz.prog 33 #[.slice fa fs.length capf, .agg #[.string key, .slice ca cs.length capc], .string f] ((w.alloc (.cells #[.string key, .slice ca cs.length capc] 37)).alloc (.cells #[.int .i64 k, .string f, .string t, .int .i64 lo, .int .i64 hi, .slice a n c] 41)) fun e w' => e = .returned (.tuple #[.int .i64 (dnum fs key cs f), .bool (dhas fs key cs f)]) ∧ Below ((w.alloc (.cells #[.string key, .slice ca cs.length capc] 37)).alloc (.cells #[.int .i64 k, .string f, .string t, .int .i64 lo, .int .i64 hi, .slice a n c] 41)).heap.size ((w.alloc (.cells #[.string key, .slice ca cs.length capc] 37)).alloc (.cells #[.int .i64 k, .string f, .string t, .int .i64 lo, .int .i64 hi, .slice a n c] 41)) w') := docNumI_any fa capf fs key ca capc cs f _ hin0.zf hin0.cf hin0.sf hin0.rf hin0.zk hin0.zc hin0.sc hin0.rc hin0.m
  generalize dnum fs key cs f = x at *
  generalize dhas fs key cs f = y at *
  clear hin hin0
  go_enter Tryz.func86, Tryz.ntmps86
  go_wp2_with fail
  refine HN.out.mono ?_
  rintro e w1 ⟨rfl, hb1⟩
  have Q1 := Q0.below hb1 Q0.lt
  have hw1 := below_trans hb0 hb1
  have q3 := Q1.cell 3
  have q4 := Q1.cell 4
  simp at q3 q4
  clear HN Q0 Q1 hb0 hb1
  cases y with
  | false =>
    go_wp2
    go_ret
    exact ⟨rfl, hw1⟩
  | true =>
    by_cases h1 : lo ≤ x
    · have d1 : decide (lo ≤ x) = true := decide_eq_true h1
      have H1 : Hid (decide (lo ≤ x) = true) := d1
      go_wp2
      go_ret
      exact ⟨ret_bool (by rw [H1.out]; rfl), hw1⟩
    · have d1 : decide (lo ≤ x) = false := decide_eq_false h1
      have H1 : Hid (decide (lo ≤ x) = false) := d1
      go_wp2
      go_ret
      exact ⟨ret_bool (by rw [H1.out]; rfl), hw1⟩
/-- What is answered the other way round. -/
theorem asks5 (d X Y F : Nat) (w : World) (ps : List Qy) (want : Nat → Bool) (hF : Blk w F #[.func (.func 78) #[] #[.pointer (some ⟨X, 0, none⟩), .pointer (some ⟨Y, 0, none⟩)]] 87) (hm : AsksQ1 d X Y w ps want) : AsksQ5 d F w ps fun i => !want i := by
  intro wx hbx i hi p c hq
  dsimp only
  have hba : Below wx.heap.size wx (wx.alloc (.cells #[.int .i64 (qat ps i).kind, .string (qat ps i).field, .string (qat ps i).text, .int .i64 (qat ps i).low, .int .i64 (qat ps i).high, .slice p (qat ps i).parts.length c] 41)) := (Below.refl _ wx).alloc (Nat.le_refl _) _
  have b0 := ((hF.below hbx hF.lt).below hba (hF.below hbx hF.lt).lt).cell 0
  have HC := hm _ (below_trans hbx hba) i hi p c (hq.below hba)
  simp at b0
  clear hF hm hq
  generalize want i = b at *
  generalize qat ps i = q at *
  obtain ⟨kd, f', t', lo', hi', pp⟩ := q
  simp only [Qy.kind, Qy.field, Qy.text, Qy.low, Qy.high, Qy.parts] at HC b0 hba ⊢
  go_enter Tryz.func89, Tryz.ntmps89
  go_wp2_with fail
  refine HC.mono ?_
  rintro e w2 ⟨rfl, hb2⟩
  have hw2 := below_trans hba hb2
  clear HC b0
  go_wp2
  go_ret
  exact ⟨rfl, hw2⟩
end Go.Proofs.YtjkimadnopeakaaGreatDoor
