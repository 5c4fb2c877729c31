/- impl.docMeets: does a document meet a question? -/
import Derived.Test.YtjkimadnopeakaaGreatDoorMtFind
import Derived.Laws.EntriesVeiled
import Derived.Deep.RegionLaw
namespace Go.Proofs.YtjkimadnopeakaaGreatDoor
open Go.RowKit
set_option linter.unusedVariables false

def DocMeets (D : Nat) : Prop := ∀ (fa : Option Addr) (capf : Nat) (fs : List Fld) (key : ByteArray) (ca : Option Addr) (capc : Nat) (cs : List Cel) (k : Int) (f t : ByteArray) (lo hi : Int) (ps : List Qy) (a : Option Addr) (c : Nat) (w : World), MtIn w fa capf fs key ca cs → QAt w 0 D a ps → QSz 1048576 D ps → f.size ≤ 1048576 → t.size ≤ 1048576 → (∃ d, qformB d (.mk k f t lo hi ps) = true) →
  Calls Tryz.prog 43 #[.slice fa fs.length capf, .agg #[.string key, .slice ca cs.length capc], .agg #[.int .i64 k, .string f, .string t, .int .i64 lo, .int .i64 hi, .slice a ps.length c]] w fun e w' => e = .returned (.bool (meetsQ fs key cs D (.mk k f t lo hi ps))) ∧ Below w.heap.size w w'
theorem mt1 {D : Nat} (HF : DocMeets D) (X Y : Nat) (fa : Option Addr) (capf : Nat) (fs : List Fld) (key : ByteArray) (ca : Option Addr) (capc : Nat) (cs : List Cel) (ps : List Qy) (w : World) (hin : MtIn w fa capf fs key ca cs) (hX : Blk w X #[.slice fa fs.length capf] 33) (hY : Blk w Y #[.string key, .slice ca cs.length capc] 37)
    (hs : QSz 1048576 (D + 1) ps) (hform : ∀ i, i < ps.length → ∃ d, qformB d (qat ps i) = true) : AsksQ1 D X Y w ps fun i => meetsQ fs key cs D (qat ps i) := by
  intro wx hbx i hi p c hq
  dsimp only
  obtain ⟨s1, s2, s3⟩ := hs.2 i hi
  have hfm := hform i hi
  have hba : Below wx.heap.size wx (wx.alloc (.cells #[.int .i64 (qat ps i).kind, .string (qat ps i).field, .string (qat ps i).text, .int .i64 (qat ps i).low, .int .i64 (qat ps i).high, .slice p (qat ps i).parts.length c] 41)) := (Below.refl _ wx).alloc (Nat.le_refl _) _
  have hX2 := hX.below hbx hX.lt
  have hY2 := hY.below hbx hY.lt
  have x0 := (hX2.below hba hX2.lt).cell 0
  have y0 := (hY2.below hba hY2.lt).cell 0
  have y1 := (hY2.below hba hY2.lt).cell 1
  have hin2 := (hin.below hbx).below hba
  have hqa := hq.below hba
  simp at x0 y0 y1
  clear hX hY hX2 hY2 hin hq hs hform
  generalize qat ps i = q at *
  obtain ⟨kd, f', t', lo', hi', pp⟩ := q
  simp only [Qy.kind, Qy.field, Qy.text, Qy.low, Qy.high, Qy.parts] at *
  have HC := HF fa capf fs key ca capc cs kd f' t' lo' hi' pp p c _ hin2 hqa s3 s1 s2 hfm
  clear hin2 hqa s1 s2 s3 hfm
  generalize meetsQ fs key cs D (.mk kd f' t' lo' hi' pp) = b at *
  go_enter Tryz.func78, Tryz.ntmps78
  go_wp2_with fail
  refine HC.mono ?_
  rintro e w2 ⟨rfl, hb2⟩
  have hw2 := below_trans hba hb2
  clear HC x0 y0 y1
  go_wp2
  go_ret
  exact ⟨rfl, hw2⟩
theorem leafM_2 (fs : List Fld) (key : ByteArray) (cs : List Cel) (k : Int) (f t : ByteArray) (lo hi : Int) (h : k = 2 ∨ k = 3) : leafM fs key cs k f t lo hi = anyTo (cellM fs cs f fun ts => runB ts (termsL t)) cs.length := by
  have e : textM k t = fun ts => runB ts (termsL t) := by
    funext ts
    exact if_neg (by omega)
  unfold leafM
  rw [if_neg (by omega), if_neg (by omega), if_neg (by omega), e]
theorem leafM_4 (fs : List Fld) (key : ByteArray) (cs : List Cel) (f t : ByteArray) (lo hi : Int) : leafM fs key cs 4 f t lo hi = anyTo (cellM fs cs f fun ts => someBeg ts t) cs.length := by
  have e : textM 4 t = fun ts => someBeg ts t := by
    funext ts
    exact if_pos rfl
  unfold leafM
  rw [if_neg (by decide), if_neg (by decide), if_neg (by decide), e]
theorem leafM_5 (fs : List Fld) (key : ByteArray) (cs : List Cel) (f t : ByteArray) (lo hi : Int) : leafM fs key cs 5 f t lo hi = (dhas fs key cs f && (decide (lo ≤ dnum fs key cs f) && decide (dnum fs key cs f ≤ hi))) := by
  unfold leafM
  rw [if_neg (by decide), if_pos rfl]
theorem leafM_6 (fs : List Fld) (key : ByteArray) (cs : List Cel) (f t : ByteArray) (lo hi : Int) : leafM fs key cs 6 f t lo hi = Lib.containsS (dtags fs key cs f) t := by
  unfold leafM
  rw [if_neg (by decide), if_neg (by decide), if_pos rfl]
theorem containsT_any (p : Option Addr) (c : Nat) (T : List ByteArray) (x : ByteArray) (w : World) (hz : T.length ≤ 4000000) (hr : StrRow w p T) :
    Calls Tryz.prog 87 #[.slice p T.length c, .string x] w fun e w' => e = .returned (.bool (Lib.containsS T x)) ∧ w' = w := by
  by_cases h0 : T.length = 0
  · obtain rfl : T = [] := List.eq_nil_of_length_eq_zero h0
    exact Tryz.slices_Contains_string_empty p c x w
  · obtain ⟨g, rfl, hg, hc⟩ := hr (by omega)
    have := Tryz.slices_Contains_string g 0 T.length c T x w (Nat.le_refl _) (by omega) (fun j hj => by rw [Nat.zero_add]; exact hc j hj)
    rwa [List.take_of_length_le (Nat.le_refl T.length)] at this
set_option maxRecDepth 100000 in
set_option maxHeartbeats 8000000 in
theorem docMeets_of {D : Nat} (hF : ∀ D', D = D' + 1 → DocMeets D') : DocMeets D := by
  intro fa capf fs key ca capc cs k f t lo hi ps a c w hin ha hsz hf ht hform
  have hz := hsz.len
  have hb3 : Below w.heap.size w (((w.alloc (.cells #[.slice fa fs.length capf] 33)).alloc (.cells #[.string key, .slice ca cs.length capc] 37)).alloc (.cells #[.int .i64 k, .string f, .string t, .int .i64 lo, .int .i64 hi, .slice a ps.length c] 41)) := (((Below.refl _ w).alloc (Nat.le_refl _) _).alloc (by simp) _).alloc (by simp; omega) _
  have X3 : Blk (((w.alloc (.cells #[.slice fa fs.length capf] 33)).alloc (.cells #[.string key, .slice ca cs.length capc] 37)).alloc (.cells #[.int .i64 k, .string f, .string t, .int .i64 lo, .int .i64 hi, .slice a ps.length c] 41)) w.heap.size #[.slice fa fs.length capf] 33 := ((Blk.new w _ _).alloc _).alloc _
  have Y3 : Blk (((w.alloc (.cells #[.slice fa fs.length capf] 33)).alloc (.cells #[.string key, .slice ca cs.length capc] 37)).alloc (.cells #[.int .i64 k, .string f, .string t, .int .i64 lo, .int .i64 hi, .slice a ps.length c] 41)) (w.heap.size + 1) #[.string key, .slice ca cs.length capc] 37 := by
    have h := Blk.new (w.alloc (.cells #[.slice fa fs.length capf] 33)) #[.string key, .slice ca cs.length capc] 37
    rw [World.size_alloc] at h
    exact h.alloc _
  have Q3 : QBox (((w.alloc (.cells #[.slice fa fs.length capf] 33)).alloc (.cells #[.string key, .slice ca cs.length capc] 37)).alloc (.cells #[.int .i64 k, .string f, .string t, .int .i64 lo, .int .i64 hi, .slice a ps.length c] 41)) (w.heap.size + 1 + 1) k f t lo hi a ps.length c := by
    have h := Blk.new ((w.alloc (.cells #[.slice fa fs.length capf] 33)).alloc (.cells #[.string key, .slice ca cs.length capc] 37)) #[.int .i64 k, .string f, .string t, .int .i64 lo, .int .i64 hi, .slice a ps.length c] 41
    rw [World.size_alloc, World.size_alloc] at h
    exact h
  obtain ⟨w3, hw3⟩ : ∃ w3, (((w.alloc (.cells #[.slice fa fs.length capf] 33)).alloc (.cells #[.string key, .slice ca cs.length capc] 37)).alloc (.cells #[.int .i64 k, .string f, .string t, .int .i64 lo, .int .i64 hi, .slice a ps.length c] 41)) = w3 := ⟨_, rfl⟩
  have HW3 : Hid ((((w.alloc (.cells #[.slice fa fs.length capf] 33)).alloc (.cells #[.string key, .slice ca cs.length capc] 37)).alloc (.cells #[.int .i64 k, .string f, .string t, .int .i64 lo, .int .i64 hi, .slice a ps.length c] 41)) = w3) := hw3
  rw [hw3] at hb3 X3 Y3 Q3
  have hba : Below w3.heap.size w3 (w3.alloc (.cells #[.func (.func 78) #[] #[.pointer (some ⟨w.heap.size, 0, none⟩), .pointer (some ⟨w.heap.size + 1, 0, none⟩)]] 87)) := (Below.refl _ w3).alloc (Nat.le_refl _) _
  have hb0 := below_trans hb3 hba
  have X0 := X3.below hba X3.lt
  have Y0 := Y3.below hba Y3.lt
  have Q0 := Q3.below hba Q3.lt
  have F0 := Blk.new w3 #[.func (.func 78) #[] #[.pointer (some ⟨w.heap.size, 0, none⟩), .pointer (some ⟨w.heap.size + 1, 0, none⟩)]] 87
  have hin4 := hin.below hb0
  have ha4 := ha.below hb0
  obtain ⟨w4, hw4⟩ : ∃ w4, w3.alloc (.cells #[.func (.func 78) #[] #[.pointer (some ⟨w.heap.size, 0, none⟩), .pointer (some ⟨w.heap.size + 1, 0, none⟩)]] 87) = w4 := ⟨_, rfl⟩
  have HW4 : Hid (w3.alloc (.cells #[.func (.func 78) #[] #[.pointer (some ⟨w.heap.size, 0, none⟩), .pointer (some ⟨w.heap.size + 1, 0, none⟩)]] 87) = w4) := hw4
  rw [hw4] at hb0 X0 Y0 Q0 F0 hin4 ha4
  have HL3 : Hid (w.heap.size + 1 + 1 < w3.heap.size) := Q3.lt
  clear hb3 X3 Y3 Q3 hw3 hba
  have HB : Hid (Below w.heap.size w w4) := hb0
  have HX : Hid (Blk w4 w.heap.size #[.slice fa fs.length capf] 33) := X0
  have HY : Hid (Blk w4 (w.heap.size + 1) #[.string key, .slice ca cs.length capc] 37) := Y0
  have HQ : Hid (QBox w4 (w.heap.size + 1 + 1) k f t lo hi a ps.length c) := Q0
  have HFB : Hid (Blk w4 w3.heap.size #[.func (.func 78) #[] #[.pointer (some ⟨w.heap.size, 0, none⟩), .pointer (some ⟨w.heap.size + 1, 0, none⟩)]] 87) := F0
  have HIN : Hid (MtIn w4 fa capf fs key ca cs) := hin4
  have HA : Hid (QAt w4 0 D a ps) := ha4
  have HS : Hid (QSz 1048576 D ps) := hsz
  have HFM : Hid (∃ d, qformB d (.mk k f t lo hi ps) = true) := hform
  have HF : Hid (∀ D', D = D' + 1 → DocMeets D') := hF
  have x0 := X0.cell 0
  have y0 := Y0.cell 0
  have y1 := Y0.cell 1
  have q0 := Q0.cell 0
  have q1 := Q0.cell 1
  have q2 := Q0.cell 2
  have q3 := Q0.cell 3
  have q4 := Q0.cell 4
  have q5 := Q0.cell 5
  have f0 := F0.cell 0
  have hl4 := F0.lt
  simp at x0 y0 y1 q0 q1 q2 q3 q4 q5 f0
  have HP : Hid (k = 7 ∨ k = 8 ∨ k = 9 → ∃ D', D = D' + 1 ∧ 0 < ps.length ∧ DocMeets D' ∧ AsksQ1 D' w.heap.size (w.heap.size + 1) w4 ps fun i => meetsQ fs key cs D' (qat ps i)) := fun hk => by
    obtain ⟨d, hfd⟩ := hform
    have hp := form_some hfd hk
    obtain ⟨D', rfl⟩ : ∃ D', D = D' + 1 := by
      cases D with
      | zero =>
        have e : ps = [] := hsz
        rw [e] at hp
        exact absurd hp (by simp)
      | succ D' => exact ⟨D', rfl⟩
    exact ⟨D', rfl, hp, hF D' rfl, mt1 (hF D' rfl) _ _ fa capf fs key ca capc cs ps w4 hin4 X0 Y0 hsz fun i hi => by
      obtain ⟨d', _, h'⟩ := form_part hfd hi
      exact ⟨d', h'⟩⟩
  have HKD : Hid (k ≠ 7 → k ≠ 8 → k ≠ 9 → k = 1 ∨ ((k = 2 ∨ k = 3 ∨ k = 4) ∧ t.size ≤ 60 ∧ 0 < l5W t) ∨ k = 5 ∨ k = 6) := fun h7 h8 h9 => by
    obtain ⟨d, hfd⟩ := hform
    exact form_kindM hfd h7 h8 h9
  clear hF hin ha hsz hform hb0 X0 Y0 Q0 F0 hin4 ha4 hw4 HFM HF
  by_cases h7 : k = 7
  · subst h7
    obtain ⟨D', rfl, hp, hFD, has⟩ := HP.out (.inl rfl)
    have HR : Hid (meetsQ fs key cs (D' + 1) (.mk 7 f t lo hi ps) = !anyTo (fun i => !meetsQ fs key cs D' (qat ps i)) ps.length) := by
      unfold Hid
      rw [meets_7, anyTo_not, Bool.not_not]
    have HC : Hid (Calls Tryz.prog 88 #[.slice a ps.length c, .func (.func 89) #[] #[.pointer (some ⟨w3.heap.size, 0, none⟩)]] w4 fun e w' => e = .returned (.bool (anyTo (fun i => !meetsQ fs key cs D' (qat ps i)) ps.length)) ∧ Below w4.heap.size w4 w') := containsQ5_any D' w3.heap.size ps _ a c w4 hz HA.out (asks5 D' _ _ _ w4 ps _ HFB.out has)
    generalize anyTo (fun i => !meetsQ fs key cs D' (qat ps i)) ps.length = b at *
    clear has hFD HP HKD HA HS HIN HFB HQ HX HY
    go_enter Tryz.func43, Tryz.ntmps43
    go_upto_region 1 with fail
    rw [HW3.out]
    go_upto_region 2 with fail
    rw [HW4.out]
    clear HW3 HW4
    go_wp2_with fail
    refine HC.out.mono ?_
    rintro e w5 ⟨rfl, hb5⟩
    have hw5 := HB.out.trans (hb5.mono HB.out.size)
    clear HC hb5
    go_wp2
    go_ret
    exact ⟨ret_bool HR.out.symm, hw5⟩
  by_cases h8 : k = 8
  · subst h8
    obtain ⟨D', rfl, hp, hFD, has⟩ := HP.out (.inr (.inl rfl))
    have HR : Hid (meetsQ fs key cs (D' + 1) (.mk 8 f t lo hi ps) = anyTo (fun i => meetsQ fs key cs D' (qat ps i)) ps.length) := meets_8 _ _ _ _ _ _ _ _ _
    have HC : Hid (Calls Tryz.prog 88 #[.slice a ps.length c, .func (.func 78) #[] #[.pointer (some ⟨w.heap.size, 0, none⟩), .pointer (some ⟨w.heap.size + 1, 0, none⟩)]] w4 fun e w' => e = .returned (.bool (anyTo (fun i => meetsQ fs key cs D' (qat ps i)) ps.length)) ∧ Below w4.heap.size w4 w') := containsQ1_any D' w.heap.size (w.heap.size + 1) ps _ a c w4 hz HA.out has
    generalize anyTo (fun i => meetsQ fs key cs D' (qat ps i)) ps.length = b at *
    clear has hFD HP HKD HA HS HIN HFB HQ HX HY
    go_enter Tryz.func43, Tryz.ntmps43
    go_upto_region 1 with fail
    rw [HW3.out]
    go_upto_region 2 with fail
    rw [HW4.out]
    clear HW3 HW4
    go_wp2_with fail
    refine HC.out.mono ?_
    rintro e w5 ⟨rfl, hb5⟩
    have hw5 := HB.out.trans (hb5.mono HB.out.size)
    clear HC hb5
    go_wp2
    go_ret
    exact ⟨ret_bool HR.out.symm, hw5⟩
  by_cases h9 : k = 9
  · subst h9
    obtain ⟨D', rfl, hp, hFD, has⟩ := HP.out (.inr (.inr rfl))
    have HR : Hid (meetsQ fs key cs (D' + 1) (.mk 9 f t lo hi ps) = !meetsQ fs key cs D' (qat ps 0)) := meets_9 _ _ _ _ _ _ _ _ _
    obtain ⟨g, off, rfl, _, hg, hc⟩ := HA.out hp
    obtain ⟨p, c', ⟨c0, c1, c2, c3, c4, c5⟩, hq⟩ := hc 0 hp
    have HC := has w4.drew (below_drew (Below.refl _ _)) 0 hp p c' (hq.below (below_drew (Below.refl _ _)))
    have hp1 : (0 : Int) < (ps.length : Int) := by omega
    dsimp only at HC
    generalize meetsQ fs key cs D' (qat ps 0) = b at *
    clear has hFD HP HKD HA HS HIN HFB HQ HX HY hc hq
    generalize qat ps 0 = q at *
    obtain ⟨kd, f', t', lo', hi', pp⟩ := q
    simp only [Qy.kind, Qy.field, Qy.text, Qy.low, Qy.high, Qy.parts, Nat.zero_mul, Nat.add_zero] at c0 c1 c2 c3 c4 c5 HC
    have HCH : Hid (Calls Tryz.prog 78 #[.agg #[.int .i64 kd, .string f', .string t', .int .i64 lo', .int .i64 hi', .slice p pp.length c'], .pointer (some ⟨w.heap.size, 0, none⟩), .pointer (some ⟨w.heap.size + 1, 0, none⟩)] w4.drew fun e w' => e = .returned (.bool b) ∧ Below w4.drew.heap.size w4.drew w') := HC
    clear HC
    go_enter Tryz.func43, Tryz.ntmps43
    go_upto_region 1 with fail
    rw [HW3.out]
    go_upto_region 2 with fail
    rw [HW4.out]
    clear HW3 HW4
    go_wp2_with fail
    go_region_with (go_at_call 78; refine HCH.out.mono ?_; rintro e w5 ⟨rfl, hb5d⟩; have hb5 : Below w4.heap.size w4 w5 := ⟨hb5d.os, hb5d.tape, hb5d.output, hb5d.size, hb5d.block⟩; clear hb5d)
    all_goals
      have hw5 := HB.out.trans (hb5.mono HB.out.size)
      clear c0 c1 c2 c3 c4 c5 hb5 HCH
      go_wp2
      go_ret
      exact ⟨ret_bool HR.out.symm, hw5⟩
  have h7b : (k == 7) = false := beq_eq_false_iff_ne.2 h7
  have h8b : (k == 8) = false := beq_eq_false_iff_ne.2 h8
  have h9b : (k == 9) = false := beq_eq_false_iff_ne.2 h9
  have HL : Hid (meetsQ fs key cs D (.mk k f t lo hi ps) = leafM fs key cs k f t lo hi) := meets_leaf _ _ _ _ _ _ _ _ _ _ h7 h8 h9
  clear HP HA HS HFB
  rcases HKD.out h7 h8 h9 with rfl | ⟨h234, ht6, hw6⟩ | rfl | rfl
  · have HR : Hid (meetsQ fs key cs D (.mk 1 f t lo hi ps) = true) := HL.out.trans (if_pos rfl)
    clear HL HKD HIN HX HY HQ
    go_enter Tryz.func43, Tryz.ntmps43
    go_upto_region 1 with fail
    rw [HW3.out]
    go_upto_region 2 with fail
    rw [HW4.out]
    clear HW3 HW4
    go_wp2
    go_ret
    exact ⟨ret_bool HR.out.symm, HB.out⟩
  · obtain ⟨hT0, ht0⟩ := terms_some hw6
    have hT1 := termsL_le t
    have HX5 : Hid (∀ (w5 : World) o, Below w4.heap.size w4 w5 → (w5.alloc o).cell? ⟨w.heap.size, 0, none⟩ = some (.slice fa fs.length capf) ∧ (w5.alloc o).cell? ⟨w.heap.size + 1, 0, none⟩ = some (.string key) ∧ (w5.alloc o).cell? ⟨w.heap.size + 1, 1, none⟩ = some (.slice ca cs.length capc)) := fun w5 o hb => ⟨((HX.out.below hb HX.out.lt).alloc o).cell 0, ((HY.out.below hb HY.out.lt).alloc o).cell 0, ((HY.out.below hb HY.out.lt).alloc o).cell 1⟩
    have HQ5 : Hid (∀ (w5 : World) o, Below w4.heap.size w4 w5 → (w5.alloc o).cell? ⟨w.heap.size + 1 + 1, 1, none⟩ = some (.string f)) := fun w5 o hb => ((HQ.out.below hb HQ.out.lt).alloc o).cell 1
    by_cases h4 : k = 4
    · subst h4
      have HR : Hid (meetsQ fs key cs D (.mk 4 f t lo hi ps) = anyTo (cellM fs cs f fun ts => someBeg ts t) cs.length) := HL.out.trans (leafM_4 _ _ _ _ _ _ _)
      have hba : Below w4.heap.size w4 (w4.alloc (.cells #[.func (.func 82) #[] #[.pointer (some ⟨w.heap.size + 1 + 1, 0, none⟩)]] 118)) := (Below.refl _ w4).alloc (Nat.le_refl _) _
      have Z0 := Blk.new w4 #[.func (.func 82) #[] #[.pointer (some ⟨w.heap.size + 1 + 1, 0, none⟩)]] 118
      have i5 := HIN.out.below hba
      have HC : Hid (Calls Tryz.prog 79 #[.slice fa fs.length capf, .agg #[.string key, .slice ca cs.length capc], .string f, .func (.func 84) #[] #[.pointer (some ⟨w4.heap.size, 0, none⟩)]] (w4.alloc (.cells #[.func (.func 82) #[] #[.pointer (some ⟨w.heap.size + 1 + 1, 0, none⟩)]] 118)) fun e w' => e = .returned (.bool (anyTo (cellM fs cs f fun ts => someBeg ts t) cs.length)) ∧ Below w4.heap.size w4 w') := by
        refine (someText4_any fa capf fs key ca capc cs f w4.heap.size _ _ i5.zf i5.zc i5.sc i5.rf i5.rc (asks4 _ (w.heap.size + 1 + 1) 4 f t lo hi a ps.length c _ Z0 (HQ.out.below hba HQ.out.lt))).mono ?_
        rintro e w' ⟨rfl, hb⟩
        exact ⟨rfl, below_trans hba hb⟩
      generalize anyTo (cellM fs cs f fun ts => someBeg ts t) cs.length = b at *
      obtain ⟨z0, z1, z2⟩ := HX5.out w4 (.cells #[.func (.func 82) #[] #[.pointer (some ⟨w.heap.size + 1 + 1, 0, none⟩)]] 118) (Below.refl _ _)
      have z3 := HQ5.out w4 (.cells #[.func (.func 82) #[] #[.pointer (some ⟨w.heap.size + 1 + 1, 0, none⟩)]] 118) (Below.refl _ _)
      clear HL HKD HIN HX HY HQ hba Z0 i5 HX5 HQ5
      go_enter Tryz.func43, Tryz.ntmps43
      go_upto_region 1 with fail
      rw [HW3.out]
      go_upto_region 2 with fail
      rw [HW4.out]
      clear HW3 HW4
      go_wp2_with fail
      refine HC.out.mono ?_
      rintro e w5 ⟨rfl, hb5⟩
      have hw5 := HB.out.trans (hb5.mono HB.out.size)
      clear HC hb5
      go_wp2
      go_ret
      exact ⟨ret_bool HR.out.symm, hw5⟩
    · have h23 : k = 2 ∨ k = 3 := by omega
      have HR : Hid (meetsQ fs key cs D (.mk k f t lo hi ps) = anyTo (cellM fs cs f fun ts => runB ts (termsL t)) cs.length) := HL.out.trans (leafM_2 _ _ _ _ _ _ _ _ h23)
      have HT : Hid (Calls Tryz.prog 31 #[.string t] w4 fun e w' => ∃ p c, e = .returned (.slice p (termsL t).length c) ∧ (termsL t).length ≤ c ∧ StrRow w' p (termsL t) ∧ Below w4.heap.size w4 w') := by
        refine (termsI2_any t w4 ht).mono ?_
        rintro e w' ⟨v, rfl, ho, hb⟩
        obtain ⟨p, c, rfl, hcl, hr⟩ := owns_strRowC ho
        exact ⟨p, c, rfl, hcl, hr, hb⟩
      clear HL HKD HQ
      generalize termsL t = ss at *
      have HST : Hid (∀ (w5 : World) p5 c5, Below w4.heap.size w4 w5 → StrRow w5 p5 ss → Calls Tryz.prog 79 #[.slice fa fs.length capf, .agg #[.string key, .slice ca cs.length capc], .string f, .func (.func 80) #[] #[.pointer (some ⟨w5.heap.size, 0, none⟩)]] (w5.alloc (.cells #[.slice p5 ss.length c5] 60)) fun e w' => e = .returned (.bool (anyTo (cellM fs cs f fun ts => runB ts ss) cs.length)) ∧ Below w5.heap.size w5 w') := fun w5 p5 c5 hb5 hr5 => by
        have hba : Below w5.heap.size w5 (w5.alloc (.cells #[.slice p5 ss.length c5] 60)) := (Below.refl _ w5).alloc (Nat.le_refl _) _
        have i5 := (HIN.out.below hb5).below hba
        refine (someText2_any fa capf fs key ca capc cs f w5.heap.size _ _ i5.zf i5.zc i5.sc i5.rf i5.rc (asks2 _ p5 c5 ss _ (Blk.new w5 _ _) hT0 (by omega) (hr5.below hba))).mono ?_
        rintro e w' ⟨rfl, hb⟩
        exact ⟨rfl, below_trans hba hb⟩
      generalize anyTo (cellM fs cs f fun ts => runB ts ss) cs.length = b at *
      rcases h23 with rfl | rfl
      all_goals
        clear HIN HX HY hT0 hT1
        go_enter Tryz.func43, Tryz.ntmps43
        go_upto_region 1 with fail
        rw [HW3.out]
        go_upto_region 2 with fail
        rw [HW4.out]
        clear HW3 HW4
        go_wp2_with fail
        refine HT.out.mono ?_
        rintro e w5 ⟨p5, c5, rfl, hcl, r5, hb5⟩
        have HC := HST.out w5 p5 c5 hb5 r5
        have hw5 := HB.out.trans (hb5.mono HB.out.size)
        obtain ⟨z0, z1, z2⟩ := HX5.out w5 (.cells #[.slice p5 ss.length c5] 60) hb5
        have z3 := HQ5.out w5 (.cells #[.slice p5 ss.length c5] 60) hb5
        clear HT HST HX5 HQ5 hb5 r5 hcl x0 y0 y1 q0 q1 q2 q3 q4 q5 f0
        go_wp2_with fail
        refine HC.mono ?_
        rintro e w6 ⟨rfl, hb6⟩
        have hw6 := hw5.trans (hb6.mono hw5.size)
        clear HC hb6 z0 z1 z2 z3
        go_wp2
        go_ret
        exact ⟨ret_bool HR.out.symm, hw6⟩
  · have HR : Hid (meetsQ fs key cs D (.mk 5 f t lo hi ps) = (dhas fs key cs f && (decide (lo ≤ dnum fs key cs f) && decide (dnum fs key cs f ≤ hi)))) := HL.out.trans (leafM_5 _ _ _ _ _ _ _)
    have HC : Hid (Calls Tryz.prog 86 #[.slice fa fs.length capf, .agg #[.string key, .slice ca cs.length capc], .agg #[.int .i64 5, .string f, .string t, .int .i64 lo, .int .i64 hi, .slice a ps.length c]] w4 fun e w' => e = .returned (.bool (dhas fs key cs f && (decide (lo ≤ dnum fs key cs f) && decide (dnum fs key cs f ≤ hi)))) ∧ Below w4.heap.size w4 w') := numMeets_any fa capf fs key ca capc cs 5 f t lo hi ps.length a c w4 HIN.out
    generalize (dhas fs key cs f && (decide (lo ≤ dnum fs key cs f) && decide (dnum fs key cs f ≤ hi))) = b at *
    clear HL HKD HIN HX HY HQ
    go_enter Tryz.func43, Tryz.ntmps43
    go_upto_region 1 with fail
    rw [HW3.out]
    go_upto_region 2 with fail
    rw [HW4.out]
    clear HW3 HW4
    go_wp2_with fail
    refine HC.out.mono ?_
    rintro e w5 ⟨rfl, hb5⟩
    have hw5 := HB.out.trans (hb5.mono HB.out.size)
    clear HC hb5
    go_wp2
    go_ret
    exact ⟨ret_bool HR.out.symm, hw5⟩
  · have HR : Hid (meetsQ fs key cs D (.mk 6 f t lo hi ps) = Lib.containsS (dtags fs key cs f) t) := HL.out.trans (leafM_6 _ _ _ _ _ _ _)
    have hTz : (dtags fs key cs f).length ≤ 2000000 := dtags_len HIN.out.sc
    have HD : Hid (Calls Tryz.prog 35 #[.slice fa fs.length capf, .agg #[.string key, .slice ca cs.length capc], .string f] w4.drew fun e w' => ∃ p c, e = .returned (.slice p (dtags fs key cs f).length c) ∧ StrRow w' p (dtags fs key cs f) ∧ Below w4.drew.heap.size w4.drew w') := by
      have i5 := HIN.out.below (below_drew (Below.refl _ _))
      refine (docTagsI_any fa capf fs key ca capc cs f w4.drew i5.zf i5.cf i5.sf i5.rf i5.zk i5.zc i5.sc i5.rc i5.m).mono ?_
      rintro e w' ⟨v, rfl, ho, hb⟩
      obtain ⟨p, c, rfl, hr⟩ := owns_strRow ho
      exact ⟨p, c, rfl, hr, hb⟩
    clear HL HKD HIN HX HY
    generalize dtags fs key cs f = T at *
    have HCN : Hid (∀ wx p c, StrRow wx p T → Calls Tryz.prog 87 #[.slice p T.length c, .string t] wx fun e w' => e = .returned (.bool (Lib.containsS T t)) ∧ w' = wx) := fun wx p c hr => containsT_any p c T t wx (by omega) hr
    generalize Lib.containsS T t = b at *
    go_enter Tryz.func43, Tryz.ntmps43
    go_upto_region 1 with fail
    rw [HW3.out]
    go_upto_region 2 with fail
    rw [HW4.out]
    clear HW3 HW4
    go_wp2_with fail
    go_region_law (first
      | (go_simp; go_at_call 35; refine HD.out.mono ?_; rintro e w5 ⟨p5, c5, rfl, r5, hb5d⟩; have hb5 : Below w4.heap.size w4 w5 := ⟨hb5d.os, hb5d.tape, hb5d.output, hb5d.size, hb5d.block⟩; clear hb5d; have q25 := (HQ.out.below hb5 HQ.out.lt).cell 2; simp at q25)
      | (go_simp; go_at_call 87; refine (HCN.out _ p5 c5 (by exact r5)).mono ?_; rintro e _ ⟨rfl, rfl⟩))
    all_goals
      have hw5 := HB.out.trans (hb5.mono HB.out.size)
      clear hb5 HD HCN HQ
      go_wp2
      go_ret
      exact ⟨ret_bool HR.out.symm, hw5⟩
theorem docMeets_any : ∀ D, DocMeets D
  | 0 => docMeets_of (fun D' h => by omega)
  | D + 1 => docMeets_of (fun D' h => by obtain rfl : D = D' := by omega
                                         exact docMeets_any D)
end Go.Proofs.YtjkimadnopeakaaGreatDoor
