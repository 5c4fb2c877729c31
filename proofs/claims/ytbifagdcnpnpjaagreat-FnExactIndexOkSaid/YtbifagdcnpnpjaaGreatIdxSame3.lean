/- Whether lists of entries are the same, by the program: slices.EqualFunc. -/
import Derived.Test.YtbifagdcnpnpjaaGreatIdxSame2
namespace Go.Proofs.YtbifagdcnpnpjaaGreat
open Go Go.Sort Go.RowKit
set_option linter.unusedVariables false

def EqB (b : Bool) (w w' : World) (e : Ending) : Prop := e = .returned (.bool b) ∧ Below w.heap.size w w'
theorem eqB_no {b : Bool} {w w' : World} (h : b = false) (hb : Below w.heap.size w w') : EqB b w w' (.returned (.bool false)) := ⟨by rw [h], hb⟩
theorem eqB_yes {b : Bool} {w w' : World} (h : b = true) (hb : Below w.heap.size w w') : EqB b w w' (.returned (.bool true)) := ⟨by rw [h], hb⟩

set_option maxRecDepth 100000 in
set_option maxHeartbeats 2000000 in
theorem equalPosts_any (a b : Option Addr) (ca cb : Nat) (xs ys : List Pst) (w : World) (hx : PstsSm xs) (hy : PstsSm ys) (ha : PstRow w a xs) (hb : PstRow w b ys) :
    Calls Tryz.prog 122 #[.slice a xs.length ca, .slice b ys.length cb, .func (.func 123) #[] #[]] w fun e w' => EqB (decide (xs = ys)) w w' e := by
  have hxl := hx.1
  have hyl := hy.1
  have HA : Hid (∀ wx, Below w.heap.size w wx → PstRow wx a xs) := fun wx h => ha.below h
  have HB : Hid (∀ wx, Below w.heap.size w wx → PstRow wx b ys) := fun wx h => hb.below h
  have HX : Hid (∀ x ∈ xs, PstSm x) := fun x h => hx.2 x h
  have HY : Hid (∀ x ∈ ys, PstSm x) := fun x h => hy.2 x h
  clear ha hb hx hy
  by_cases hl : xs.length = ys.length
  · have hle : ((xs.length : Int) == (ys.length : Int)) = true := by simp [hl]
    have hln : ((xs.length : Int) != (ys.length : Int)) = false := by simp [hl]
    have HL : Hid (xs.length = ys.length) := hl
    clear hl
    go_enter Tryz.func122, Tryz.ntmps122
    go_wp2
    go_loopw [17] (fun i wr => ∃ k : Nat, k ≤ xs.length ∧ i = .int .i64 k ∧ (∀ j x y, j < k → xs[j]? = some x → ys[j]? = some y → x = y) ∧ Below w.heap.size w wr) (fun i _ => xs.length - (intOf i).toNat)
    case atStart => exact ⟨0, Nat.zero_le _, rfl, fun j x y hj => by omega, Below.refl _ _⟩
    case round =>
      obtain ⟨k, hk, rfl, hsame, hbel⟩ := hrel
      have HS : Hid (∀ j x y, j < k → xs[j]? = some x → ys[j]? = some y → x = y) := hsame
      clear hsame
      by_cases hlt : k < xs.length
      · have hltI : (k : Int) < (xs.length : Int) := by omega
        have hkyn : k < ys.length := by have := HL.out; omega
        have hky : (k : Int) < (ys.length : Int) := by omega
        obtain ⟨g1, o1, rfl, hg1, hc1⟩ := (HA.out _ hbel) (by omega)
        obtain ⟨g2, o2, rfl, hg2, hc2⟩ := (HB.out _ hbel) (by omega)
        obtain ⟨q1, e1, x0, x1, hcx, hx3⟩ := hc1 k xs[k] (List.getElem?_eq_getElem hlt)
        obtain ⟨q2, e2, y0, y1, hcy, hy3⟩ := hc2 k ys[k] (List.getElem?_eq_getElem hkyn)
        have HSX : Hid (PstSm xs[k]) := HX.out _ (List.getElem_mem hlt)
        have HSY : Hid (PstSm ys[k]) := HY.out _ (List.getElem_mem hkyn)
        have HN : Hid (xs[k] = ys[k] → ∀ j x y, j < k + 1 → xs[j]? = some x → ys[j]? = some y → x = y) := fun h j x y hj hx hy => by
          by_cases e : j = k
          · subst e
            rw [List.getElem?_eq_getElem hlt] at hx
            rw [List.getElem?_eq_getElem hkyn] at hy
            cases hx
            cases hy
            exact h
          · exact HS.out j x y (by omega) hx hy
        have HD : Hid (xs[k] ≠ ys[k] → xs ≠ ys) := fun h => same_not (List.getElem?_eq_getElem hlt) (List.getElem?_eq_getElem hkyn) h
        have HC : Hid (∀ wx, Below wr.heap.size wr wx → Calls Tryz.prog 123 #[.agg #[.int .i64 xs[k].doc, .slice q1 xs[k].ats.length e1], .agg #[.int .i64 ys[k].doc, .slice q2 ys[k].ats.length e2]] wx fun e w' => EqB (decide (xs[k] = ys[k])) wx w' e) := fun wx h => postEqual_any _ _ q1 q2 e1 e2 wx HSX.out HSY.out (hx3.below h) (hy3.below h)
        clear hc1 hc2 HS hx3 hy3
        generalize xs[k] = x at *
        generalize ys[k] = y at *
        have HB1 : ∀ o1 o2, Hid (Below wr.heap.size wr ((wr.alloc o1).alloc o2)) := fun o1 o2 => ((Below.refl _ _).alloc (Nat.le_refl _) _).alloc (by simp) _
        go_wp2_with fail
        refine (HC.out _ (HB1 _ _).out).mono ?_
        rintro e w2 ⟨rfl, hb2⟩
        have hb3 : Below w.heap.size w w2 := hbel.trans (((HB1 _ _).out.trans (hb2.mono (by simp; omega))).mono hbel.size)
        clear HC HB1 hb2 x0 x1 y0 y1
        cases hz : decide (x = y) with
        | true =>
          have HZ : Hid (∀ j x y, j < k + 1 → xs[j]? = some x → ys[j]? = some y → x = y) := HN.out (of_decide_eq_true hz)
          clear HN HD hz
          go_wp2
          go_roundw
          case rel => exact ⟨k + 1, by omega, by go_num, HZ.out, hb3⟩
          case measure => simp [intOf]; omega
        | false =>
          have HZ : Hid (xs ≠ ys) := HD.out (of_decide_eq_false hz)
          clear HN HD hz
          go_wp2
          go_ret
          exact eqB_no (decide_eq_false HZ.out) hb3
      · have hkl : k = xs.length := by omega
        subst hkl
        have HE : Hid (xs = ys) := same_all HL.out HS.out
        clear HA HB HX HY HS
        go_wp2
        go_ret
        exact eqB_yes (decide_eq_true HE.out) hbel
  · have hle : ((xs.length : Int) == (ys.length : Int)) = false := by simp; omega
    have hln : ((xs.length : Int) != (ys.length : Int)) = true := by simp; omega
    have HE : Hid (xs ≠ ys) := fun e => hl (by rw [e])
    clear HA HB HX HY hl
    go_enter Tryz.func122, Tryz.ntmps122
    go_wp2
    go_ret
    exact eqB_no (decide_eq_false HE.out) (Below.refl _ _)

set_option maxHeartbeats 1000000 in
theorem entryEqual_any (x y : Ent) (a b : Option Addr) (ca cb : Nat) (w : World) (hx : EntSm x) (hy : EntSm y) (ha : PstRow w a x.posts) (hb : PstRow w b y.posts) :
    Calls Tryz.prog 95 #[.agg #[.string x.field, .string x.term, .slice a x.posts.length ca], .agg #[.string y.field, .string y.term, .slice b y.posts.length cb]] w fun e w' => EqB (decide (x = y)) w w' e := by
  obtain ⟨f1, t1, ps⟩ := x
  obtain ⟨f2, t2, qs⟩ := y
  obtain ⟨_, _, hx⟩ := hx
  obtain ⟨_, _, hy⟩ := hy
  simp only at ha hb hx hy ⊢
  have hb0 : Below w.heap.size w ((w.alloc (.cells #[.string f1, .string t1, .slice a ps.length ca] 99)).alloc (.cells #[.string f2, .string t2, .slice b qs.length cb] 99)) := ((Below.refl _ w).alloc (Nat.le_refl _) _).alloc (by simp) _
  have a0 := ha.below hb0
  have b0 := hb.below hb0
  have HX : Hid (PstsSm ps) := hx
  have HY : Hid (PstsSm qs) := hy
  clear ha hb hx hy
  obtain ⟨bb, HBB⟩ : ∃ bb, Hid (decide ((⟨f1, t1, ps⟩ : Ent) = ⟨f2, t2, qs⟩) = bb) := ⟨_, rfl⟩
  rw [HBB.out]
  by_cases hf : f1 = f2
  · subst hf
    have b1 : (f1.toList == f1.toList) = true := by simp
    by_cases ht : t1 = t2
    · subst ht
      have b3 : (t1.toList == t1.toList) = true := by simp
      have HE : Hid (bb = decide (ps = qs)) := by unfold Hid; rw [← HBB.out]; simp
      clear HBB
      have HB0 : Hid (Below w.heap.size w ((w.alloc (.cells #[.string f1, .string t1, .slice a ps.length ca] 99)).alloc (.cells #[.string f1, .string t1, .slice b qs.length cb] 99))) := hb0
      clear hb0
      go_enter Tryz.func95, Tryz.ntmps95
      go_wp2_with fail
      refine (equalPosts_any a b ca cb ps qs _ HX.out HY.out a0 b0).mono ?_
      rintro e w2 ⟨rfl, hb2⟩
      have hb3 : Below w.heap.size w w2 := HB0.out.trans (hb2.mono (by simp; omega))
      clear a0 b0 hb2
      rw [← HE.out]
      clear HE
      go_wp2
      go_ret
      exact ⟨rfl, hb3⟩
    · have b3 : (t1.toList == t2.toList) = false := by rw [toL_beq]; simpa using ht
      have HE : Hid (bb = false) := by unfold Hid; rw [← HBB.out]; exact decide_eq_false (fun e => ht (by cases e; rfl))
      clear HBB
      clear a0 b0 ht
      go_enter Tryz.func95, Tryz.ntmps95
      go_wp2
      go_ret
      exact eqB_no HE.out hb0
  · have b1 : (f1.toList == f2.toList) = false := by rw [toL_beq]; simpa using hf
    have HE : Hid (bb = false) := by unfold Hid; rw [← HBB.out]; exact decide_eq_false (fun e => hf (by cases e; rfl))
    clear HBB
    clear a0 b0 hf
    go_enter Tryz.func95, Tryz.ntmps95
    go_wp2
    go_ret
    exact eqB_no HE.out hb0

set_option maxRecDepth 100000 in
set_option maxHeartbeats 2000000 in
theorem equalEntries_any (a b : Option Addr) (ca cb : Nat) (xs ys : List Ent) (w : World) (hx : EntsSm xs) (hy : EntsSm ys) (ha : EntRow w a xs) (hb : EntRow w b ys) :
    Calls Tryz.prog 93 #[.slice a xs.length ca, .slice b ys.length cb, .func (.func 95) #[] #[]] w fun e w' => EqB (decide (xs = ys)) w w' e := by
  have hxl := hx.1
  have hyl := hy.1
  have HA : Hid (∀ wx, Below w.heap.size w wx → EntRow wx a xs) := fun wx h => ha.below h
  have HB : Hid (∀ wx, Below w.heap.size w wx → EntRow wx b ys) := fun wx h => hb.below h
  have HX : Hid (∀ x ∈ xs, EntSm x) := fun x h => hx.2 x h
  have HY : Hid (∀ x ∈ ys, EntSm x) := fun x h => hy.2 x h
  clear ha hb hx hy
  by_cases hl : xs.length = ys.length
  · have hle : ((xs.length : Int) == (ys.length : Int)) = true := by simp [hl]
    have hln : ((xs.length : Int) != (ys.length : Int)) = false := by simp [hl]
    have HL : Hid (xs.length = ys.length) := hl
    clear hl
    go_enter Tryz.func93, Tryz.ntmps93
    go_wp2
    go_loopw [17] (fun i wr => ∃ k : Nat, k ≤ xs.length ∧ i = .int .i64 k ∧ (∀ j x y, j < k → xs[j]? = some x → ys[j]? = some y → x = y) ∧ Below w.heap.size w wr) (fun i _ => xs.length - (intOf i).toNat)
    case atStart => exact ⟨0, Nat.zero_le _, rfl, fun j x y hj => by omega, Below.refl _ _⟩
    case round =>
      obtain ⟨k, hk, rfl, hsame, hbel⟩ := hrel
      have HS : Hid (∀ j x y, j < k → xs[j]? = some x → ys[j]? = some y → x = y) := hsame
      clear hsame
      by_cases hlt : k < xs.length
      · have hltI : (k : Int) < (xs.length : Int) := by omega
        have hkyn : k < ys.length := by have := HL.out; omega
        have hky : (k : Int) < (ys.length : Int) := by omega
        obtain ⟨g1, o1, rfl, hg1, hc1⟩ := (HA.out _ hbel) (by omega)
        obtain ⟨g2, o2, rfl, hg2, hc2⟩ := (HB.out _ hbel) (by omega)
        obtain ⟨q1, e1, x0, x1, x2, hcx, hx3⟩ := hc1 k xs[k] (List.getElem?_eq_getElem hlt)
        obtain ⟨q2, e2, y0, y1, y2, hcy, hy3⟩ := hc2 k ys[k] (List.getElem?_eq_getElem hkyn)
        have HSX : Hid (EntSm xs[k]) := HX.out _ (List.getElem_mem hlt)
        have HSY : Hid (EntSm ys[k]) := HY.out _ (List.getElem_mem hkyn)
        have HN : Hid (xs[k] = ys[k] → ∀ j x y, j < k + 1 → xs[j]? = some x → ys[j]? = some y → x = y) := fun h j x y hj hx hy => by
          by_cases e : j = k
          · subst e
            rw [List.getElem?_eq_getElem hlt] at hx
            rw [List.getElem?_eq_getElem hkyn] at hy
            cases hx
            cases hy
            exact h
          · exact HS.out j x y (by omega) hx hy
        have HD : Hid (xs[k] ≠ ys[k] → xs ≠ ys) := fun h => same_not (List.getElem?_eq_getElem hlt) (List.getElem?_eq_getElem hkyn) h
        have HC : Hid (∀ wx, Below wr.heap.size wr wx → Calls Tryz.prog 95 #[.agg #[.string xs[k].field, .string xs[k].term, .slice q1 xs[k].posts.length e1], .agg #[.string ys[k].field, .string ys[k].term, .slice q2 ys[k].posts.length e2]] wx fun e w' => EqB (decide (xs[k] = ys[k])) wx w' e) := fun wx h => entryEqual_any _ _ q1 q2 e1 e2 wx HSX.out HSY.out (hx3.below h) (hy3.below h)
        clear hc1 hc2 HS hx3 hy3
        generalize xs[k] = x at *
        generalize ys[k] = y at *
        have HB1 : ∀ o1 o2, Hid (Below wr.heap.size wr ((wr.alloc o1).alloc o2)) := fun o1 o2 => ((Below.refl _ _).alloc (Nat.le_refl _) _).alloc (by simp) _
        go_wp2_with fail
        refine (HC.out _ (HB1 _ _).out).mono ?_
        rintro e w2 ⟨rfl, hb2⟩
        have hb3 : Below w.heap.size w w2 := hbel.trans (((HB1 _ _).out.trans (hb2.mono (by simp; omega))).mono hbel.size)
        clear HC HB1 hb2 x0 x1 x2 y0 y1 y2
        cases hz : decide (x = y) with
        | true =>
          have HZ : Hid (∀ j x y, j < k + 1 → xs[j]? = some x → ys[j]? = some y → x = y) := HN.out (of_decide_eq_true hz)
          clear HN HD hz
          go_wp2
          go_roundw
          case rel => exact ⟨k + 1, by omega, by go_num, HZ.out, hb3⟩
          case measure => simp [intOf]; omega
        | false =>
          have HZ : Hid (xs ≠ ys) := HD.out (of_decide_eq_false hz)
          clear HN HD hz
          go_wp2
          go_ret
          exact eqB_no (decide_eq_false HZ.out) hb3
      · have hkl : k = xs.length := by omega
        subst hkl
        have HE : Hid (xs = ys) := same_all HL.out HS.out
        clear HA HB HX HY HS
        go_wp2
        go_ret
        exact eqB_yes (decide_eq_true HE.out) hbel
  · have hle : ((xs.length : Int) == (ys.length : Int)) = false := by simp; omega
    have hln : ((xs.length : Int) != (ys.length : Int)) = true := by simp; omega
    have HE : Hid (xs ≠ ys) := fun e => hl (by rw [e])
    clear HA HB HX HY hl
    go_enter Tryz.func93, Tryz.ntmps93
    go_wp2
    go_ret
    exact eqB_no (decide_eq_false HE.out) (Below.refl _ _)
end Go.Proofs.YtbifagdcnpnpjaaGreat
