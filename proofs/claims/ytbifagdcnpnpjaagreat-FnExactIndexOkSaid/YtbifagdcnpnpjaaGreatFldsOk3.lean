/- FieldsOk of the model; how great fields are; two slices of the same fields are the same. -/
import Derived.Test.YtbifagdcnpnpjaaGreatMg5FnExactIndexOk
namespace Go.Proofs.YtbifagdcnpnpjaaGreat
open Go.RowKit

theorem wOk_ways (kd wt : Int) :
    ((kd == 1) = true ∧ inB wt 1 9 = true ∧ inB kd 2 3 = false ∧ wOk kd wt = true) ∨ ((kd == 1) = true ∧ inB wt 1 9 = false ∧ inB kd 2 3 = false ∧ wOk kd wt = false) ∨
    ((kd == 1) = false ∧ inB kd 2 3 = true ∧ (wt == 0) = true ∧ wOk kd wt = true) ∨ ((kd == 1) = false ∧ inB kd 2 3 = true ∧ (wt == 0) = false ∧ wOk kd wt = false) ∨
    ((kd == 1) = false ∧ inB kd 2 3 = false ∧ wOk kd wt = false) := by
  by_cases h1 : kd = 1
  · subst h1
    by_cases h2 : 1 ≤ wt ∧ wt ≤ 9
    · exact .inl ⟨rfl, by simp [inB, h2], rfl, by simp [wOk, h2]⟩
    · refine .inr (.inl ⟨rfl, ?_, rfl, ?_⟩)
      · simp [inB]; omega
      · simp [wOk]; omega
  · have e1 : (kd == 1) = false := by simpa using h1
    by_cases h2 : kd = 2 ∨ kd = 3
    · have e2 : inB kd 2 3 = true := by simp [inB]; omega
      by_cases h3 : wt = 0
      · refine .inr (.inr (.inl ⟨e1, e2, by simpa using h3, ?_⟩))
        rcases h2 with rfl | rfl <;> simp [wOk, h3]
      · refine .inr (.inr (.inr (.inl ⟨e1, e2, by simpa using h3, ?_⟩)))
        rcases h2 with rfl | rfl <;> simp [wOk, h3]
    · have n2 : kd ≠ 2 := fun h => h2 (.inl h)
      have n3 : kd ≠ 3 := fun h => h2 (.inr h)
      refine .inr (.inr (.inr (.inr ⟨e1, ?_, ?_⟩)))
      · simp [inB]; omega
      · simp [wOk, h1, n2, n3]
theorem fpos_at (fs : List Fld) (k : Nat) (p : Int) (h : FPos fs (fat fs k).name p) (hk : k < fs.length) : (p != (k : Int)) = !noneTo fs (fat fs k).name k := by
  rcases h with ⟨j, hj, rfl, h1, h2⟩ | ⟨rfl, h2⟩
  · rcases Nat.lt_trichotomy j k with h | h | h
    · rw [noneTo_not h h1]
      have : (j : Int) ≠ (k : Int) := by omega
      simp [this]
    · subst h
      rw [h2]
      simp
    · rw [noneTo_not h (by simp)] at h2
      cases h2
  · rw [noneTo_not hk (by simp)] at h2
    cases h2

set_option maxHeartbeats 2000000 in
theorem fieldsS_any (a : Option Addr) (cap : Nat) (fs : List Fld) (w : World) (hz : fs.length ≤ 1048576) (hsm : FldsSmall fs) (hr : FldRow w a fs) :
    Calls Tryz.prog 43 #[.slice a fs.length cap] w fun e w' => e = .returned (.bool (fieldsB fs)) ∧ Below w.heap.size w w' := by
  go_enter Tryz.func43, Tryz.ntmps43
  go_wp2
  go_loopw [3] (fun i wr => ∃ k : Nat, k ≤ fs.length ∧ i = .int .i64 k ∧ allTo (fldOk fs) k = true ∧ Below w.heap.size w wr) (fun i _ => fs.length - (intOf i).toNat)
  case atStart => exact ⟨0, Nat.zero_le _, rfl, rfl, Below.refl _ _⟩
  case round =>
    obtain ⟨k, hk, rfl, ha, hbel⟩ := hrel
    have HA : Hid (allTo (fldOk fs) k = true) := ha
    clear ha
    have hsz := hbel.size
    by_cases hlt : k < fs.length
    · have hkl : (k : Int) < (fs.length : Int) := by omega
      have r1 := hr.below hbel
      obtain ⟨g, off, rfl, hg, hc⟩ := r1 (by omega)
      obtain ⟨c0, c1, c2⟩ := hc k hlt
      have hs := hsm k hlt
      have HNO : Hid (fldOk fs k = false → fieldsB fs = false) := fieldsB_no fs k hlt
      have HFO : Hid (fldOk fs k = (noneTo fs (fat fs k).name k && nameI (fat fs k).name && wOk (fat fs k).kind (fat fs k).weight)) := rfl
      have HFP : Hid (∀ p, FPos fs (fat fs k).name p → (p != (k : Int)) = !noneTo fs (fat fs k).name k) := fun p h => fpos_at fs k p h hlt
      generalize fat fs k = fd at *
      obtain ⟨nm, kd, wt⟩ := fd
      simp only at c0 c1 c2 hs HFO HFP
      have r2 := r1.below ((Below.refl _ wr).alloc (Nat.le_refl _) (.cells #[.string nm, .int .i64 kd, .int .i64 wt] 123))
      have hb2 : Below w.heap.size w (wr.alloc (.cells #[.string nm, .int .i64 kd, .int .i64 wt] 123)) := hbel.alloc hsz _
      clear hr hc hsm r1
      have hnm := name_same nm
      have HNM : Hid (nameI nm = nameS nm) := hnm
      clear hnm
      rcases wOk_ways kd wt with ⟨w1, w2, w3, w4⟩ | ⟨w1, w2, w3, w4⟩ | ⟨w1, w2, w3, w4⟩ | ⟨w1, w2, w3, w4⟩ | ⟨w1, w2, w4⟩
      all_goals
        have HW := w4
        have HW4 : Hid (wOk kd wt = _) := HW
        clear HW w4
        go_wp2_with (go_at_call 42; refine (l1In_any _ _ _ _).mono ?_; rintro e w5 ⟨rfl, rfl⟩)
        refine (nameS_any nm _ (by unfold maxLen; omega)).mono ?_
        rintro e w5 ⟨rfl, rfl⟩
        cases h2 : nameS nm with
        | false =>
          have hb : Hid (fieldsB fs = false) := HNO.out (by rw [HFO.out, HNM.out, h2]; simp)
          go_wp2
          go_ret
          exact ⟨ret_bool hb.out.symm, hb2⟩
        | true =>
          go_wp2_with fail
          refine (l2Field_any (some ⟨g, off, none⟩) cap fs nm _ (by omega) r2).mono ?_
          rintro e w5 ⟨p, rfl, hp, rfl⟩
          have hpe := HFP.out p hp
          clear r2 hp
          cases h1 : noneTo fs nm k with
          | false =>
            have hb : Hid (fieldsB fs = false) := HNO.out (by rw [HFO.out, h1]; rfl)
            rw [h1] at hpe
            go_wp2
            go_ret
            exact ⟨ret_bool hb.out.symm, hb2⟩
          | true =>
            rw [h1] at hpe
            first
            | (have HS : Hid (allTo (fldOk fs) (k + 1) = true) := allTo_snoc _ k HA.out (by rw [HFO.out, HNM.out, h1, h2, HW4.out]; rfl)
               go_wp2
               go_roundw
               case rel => exact ⟨k + 1, by omega, by go_num, HS.out, hb2⟩
               case measure => simp [intOf]; omega)
            | (have hb : Hid (fieldsB fs = false) := HNO.out (by rw [HFO.out, HW4.out]; simp)
               go_wp2
               go_ret
               exact ⟨ret_bool hb.out.symm, hb2⟩)
    · have hkl : k = fs.length := by omega
      subst hkl
      have HB : Hid (fieldsB fs = inB fs.length 1 4) := by
        unfold Hid fieldsB inB
        rw [HA.out, Bool.and_true]
        congr 1
        · exact decide_eq_decide.2 (by omega)
        · exact decide_eq_decide.2 (by omega)
      clear hr hsm
      go_wp2_with (go_at_call 42; refine (l1In_any _ _ _ _).mono ?_; rintro e w5 ⟨rfl, rfl⟩)
      go_ret
      exact ⟨ret_bool HB.out.symm, hbel⟩

theorem szField_any (n : ByteArray) (k x : Int) (left : Int) (w : World) (hn : n.size ≤ maxLen) (h0 : 0 ≤ left) (h1 : left ≤ 1048576) :
    Calls Tryz.prog 78 #[.agg #[.string n, .int .i64 k, .int .i64 x], .int .i64 left] w fun e w' => ∃ r : Int, e = .returned (.int .i64 r) ∧ r ≤ left ∧ (0 ≤ r → (n.size : Int) ≤ left) ∧ Below w.heap.size w w' := by
  unfold maxLen at hn
  by_cases hlt : left - (n.size : Int) < 0
  · go_enter Tryz.func78, Tryz.ntmps78
    go_wp2
    go_ret
    exact ⟨-1, rfl, by omega, fun h => by omega, (Below.refl _ w).alloc (Nat.le_refl _) _⟩
  · have hd : decide (left - (n.size : Int) < 0) = false := by simpa using hlt
    go_enter Tryz.func78, Tryz.ntmps78
    go_wp2
    go_ret
    exact ⟨left - n.size, rfl, by omega, fun h => by omega, (Below.refl _ w).alloc (Nat.le_refl _) _⟩

set_option maxHeartbeats 1000000 in
theorem szFieldS_any (a : Option Addr) (cap : Nat) (fs : List Fld) (w : World) (hz : fs.length ≤ maxLen) (hsm : ∀ i, i < fs.length → (fat fs i).name.size ≤ maxLen) (hr : FldRow w a fs) :
    Calls Tryz.prog 37 #[.slice a fs.length cap, .int .i64 1048576] w fun e w' => ∃ r : Int, e = .returned (.int .i64 r) ∧ (0 ≤ r → fs.length ≤ 1048576 ∧ FldsSmall fs) ∧ Below w.heap.size w w' := by
  unfold maxLen at hz
  by_cases hbig : 1048576 - (fs.length : Int) < 0
  · clear hr hsm
    go_enter Tryz.func37, Tryz.ntmps37
    go_wp2
    go_ret
    exact ⟨-1, rfl, fun h => by omega, Below.refl _ _⟩
  have hbd : decide (1048576 - (fs.length : Int) < 0) = false := by simpa using hbig
  go_enter Tryz.func37, Tryz.ntmps37
  go_wp2
  go_loopw [1, 5] (fun l i wr => ∃ (k : Nat) (left : Int), k ≤ fs.length ∧ i = .int .i64 k ∧ l = .int .i64 left ∧ 0 ≤ left ∧ left ≤ 1048576 ∧ (∀ j, j < k → (fat fs j).name.size ≤ 1048576) ∧ Below w.heap.size w wr) (fun _ i _ => fs.length - (intOf i).toNat)
  case atStart => exact ⟨0, 1048576 - fs.length, Nat.zero_le _, rfl, rfl, by omega, by omega, fun j hj => by omega, Below.refl _ _⟩
  case round =>
    obtain ⟨k, left, hk, rfl, rfl, hl0, hl1, hj, hbel⟩ := hrel
    have HJ : Hid (∀ j, j < k → (fat fs j).name.size ≤ 1048576) := hj
    clear hj
    by_cases hlt : k < fs.length
    · have hkl : (k : Int) < (fs.length : Int) := by omega
      obtain ⟨g, off, rfl, hg, hc⟩ := (hr.below hbel) (by omega)
      obtain ⟨c0, c1, c2⟩ := hc k hlt
      have hs := hsm k hlt
      have HJK : Hid ((fat fs k).name.size ≤ 1048576 → ∀ j, j < k + 1 → (fat fs j).name.size ≤ 1048576) := fun h j hj => by
        by_cases e : j = k
        · subst e; exact h
        · exact HJ.out j (by omega)
      generalize fat fs k = fd at *
      obtain ⟨nm, kd, wt⟩ := fd
      simp only at c0 c1 c2 hs HJK
      clear hr hc hsm
      go_wp2_with fail
      refine (szField_any nm kd wt left _ hs hl0 hl1).mono ?_
      rintro e w2 ⟨r, rfl, hr1, hr2, hb2⟩
      have hb3 := hbel.trans (hb2.mono hbel.size)
      clear c0 c1 c2
      by_cases hneg : r < 0
      · go_wp2
        go_ret
        exact ⟨-1, rfl, fun h => by omega, hb3⟩
      · have hnd : decide (r < 0) = false := by simpa using hneg
        go_wp2
        go_roundw
        case rel => exact ⟨k + 1, r, by omega, by go_num, rfl, by omega, by omega, HJK.out (by have := hr2 (by omega); omega), hb3⟩
        case measure => simp [intOf]; omega
    · have hkl : k = fs.length := by omega
      subst hkl
      clear hr hsm
      go_wp2
      go_ret
      exact ⟨left, rfl, fun _ => ⟨by omega, HJ.out⟩, hbel⟩

theorem eqField_same (t : ByteArray) (x y : Int) (w : World) :
    Calls Tryz.prog 96 #[.agg #[.string t, .int .i64 x, .int .i64 y], .agg #[.string t, .int .i64 x, .int .i64 y]] w fun e w' => e = .returned (.bool true) ∧ Below w.heap.size w w' := by
  go_enter Tryz.func96, Tryz.ntmps96
  go_wp2
  go_ret
  exact ⟨rfl, ((Below.refl _ w).alloc (Nat.le_refl _) _).alloc (by simp) _⟩

set_option maxHeartbeats 1000000 in
theorem eqFieldS_same (a b : Option Addr) (ca cb : Nat) (fs : List Fld) (w : World) (hl : fs.length ≤ 1099511627) (ha : FldRow w a fs) (hb : FldRow w b fs) :
    Calls Tryz.prog 50 #[.slice a fs.length ca, .slice b fs.length cb] w fun e w' => e = .returned (.bool true) ∧ Below w.heap.size w w' := by
  go_enter Tryz.func50, Tryz.ntmps50
  go_wp2
  go_loopw [5] (fun i wr => ∃ k : Nat, k ≤ fs.length ∧ i = .int .i64 k ∧ Below w.heap.size w wr) (fun i _ => fs.length - (intOf i).toNat)
  case atStart => exact ⟨0, Nat.zero_le _, rfl, Below.refl _ _⟩
  case round =>
    obtain ⟨k, hk, rfl, hbel⟩ := hrel
    by_cases hlt : k < fs.length
    · obtain ⟨g1, o1, rfl, hg1, hc1⟩ := (ha.below hbel) (by omega)
      obtain ⟨g2, o2, rfl, hg2, hc2⟩ := (hb.below hbel) (by omega)
      obtain ⟨r0, r1, r2⟩ := hc1 k hlt
      obtain ⟨s0, s1, s2⟩ := hc2 k hlt
      clear ha hb hc1 hc2
      generalize fat fs k = fd at *
      obtain ⟨t, x, y⟩ := fd
      simp only at r0 r1 r2 s0 s1 s2
      go_wp2
      go_region_with (go_at_call 96; refine (eqField_same t x y _).mono ?_; rintro e w2 ⟨rfl, hb2d⟩; have hb2 : Below wr.heap.size wr w2 := ⟨hb2d.os, hb2d.tape, hb2d.output, hb2d.size, hb2d.block⟩; clear hb2d)
      all_goals
        go_wp2
        go_roundw
        case rel => exact ⟨k + 1, by omega, by go_num, hbel.trans (hb2.mono hbel.size)⟩
        case measure => simp [intOf]; omega
    · clear ha hb
      go_wp2
      go_ret
      exact ⟨rfl, hbel⟩
end Go.Proofs.YtbifagdcnpnpjaaGreat
