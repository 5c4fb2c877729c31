/- Whether entries are the same: of the model, and of the program. -/
import Derived.Test.YtbifagdcnpnpjaaGreatIdxSz
import Derived.Test.YtbifagdcnpnpjaaGreatQuietOne
namespace Go.Proofs.YtbifagdcnpnpjaaGreat
open Go Go.Sort Go.RowKit
set_option linter.unusedVariables false

deriving instance DecidableEq for Pst
deriving instance DecidableEq for Ent
theorem nth_ext {xs ys : List Int} (hl : xs.length = ys.length) (h : ∀ j, j < xs.length → nth xs j = nth ys j) : xs = ys := by
  apply List.ext_getElem hl
  intro i h1 h2
  have := h i h1
  unfold nth at this
  rwa [List.getD_eq_getElem?_getD, List.getD_eq_getElem?_getD, List.getElem?_eq_getElem h1, List.getElem?_eq_getElem h2] at this
set_option maxHeartbeats 1000000 in
theorem l4Ints_any (a b : Option Addr) (ca cb : Nat) (xs ys : List Int) (w : World) (hlx : xs.length ≤ 1048576) (hly : ys.length ≤ 1048576) (ha : IntRow w a xs) (hb : IntRow w b ys) :
    Calls Tryz.prog 85 #[.slice a xs.length ca, .slice b ys.length cb] w fun e w' => e = .returned (.bool (decide (xs = ys))) ∧ Below w.heap.size w w' := by
  by_cases hl : xs.length = ys.length
  · have hle : ((xs.length : Int) == (ys.length : Int)) = true := by simp [hl]
    have hln : ((xs.length : Int) != (ys.length : Int)) = false := by simp [hl]
    have HL : Hid (xs.length = ys.length) := hl
    clear hl
    go_enter Tryz.func85, Tryz.ntmps85
    go_wp2
    go_loopw [5] (fun i wr => ∃ k : Nat, k ≤ xs.length ∧ i = .int .i64 k ∧ (∀ j, j < k → nth xs j = nth ys j) ∧ Below w.heap.size w wr) (fun i _ => xs.length - (intOf i).toNat)
    case atStart => exact ⟨0, Nat.zero_le _, rfl, fun j hj => by omega, Below.refl _ _⟩
    case round =>
      obtain ⟨k, hk, rfl, hsame, hbel⟩ := hrel
      have HS : Hid (∀ j, j < k → nth xs j = nth ys j) := hsame
      clear hsame
      by_cases hlt : k < xs.length
      · obtain ⟨g1, o1, rfl, hg1, hc1⟩ := ha (by omega)
        obtain ⟨g2, o2, rfl, hg2, hc2⟩ := hb (by have := HL.out; omega)
        have c1 := (hbel.cell (p := ⟨g1, o1 + k, none⟩) hg1).trans (hc1 k hlt)
        have c2 := (hbel.cell (p := ⟨g2, o2 + k, none⟩) hg2).trans (hc2 k (by have := HL.out; omega))
        have hky : (k : Int) < (ys.length : Int) := by have := HL.out; omega
        have HN : Hid (nth xs k = nth ys k → ∀ j, j < k + 1 → nth xs j = nth ys j) := fun h j hj => by
          by_cases e : j = k
          · subst e; exact h
          · exact HS.out j (by omega)
        have HD : Hid (nth xs k ≠ nth ys k → decide (xs = ys) = false) := fun h => decide_eq_false (fun e => h (by rw [e]))
        clear ha hb hc1 hc2 HS
        generalize nth xs k = t1 at *
        generalize nth ys k = t2 at *
        by_cases ht : t1 = t2
        · have HM : Hid (∀ j, j < k + 1 → nth xs j = nth ys j) := HN.out ht
          clear HN HD
          subst ht
          go_wp2
          go_quiet (fail)
          go_wp2
          go_roundw
          case rel => exact ⟨k + 1, by omega, by go_num, HM.out, below_drewN hbel _⟩
          case measure => simp [intOf]; omega
        · have h1 : (t1 == t2) = false := by simpa using ht
          have h2 : (t1 != t2) = true := by simpa using ht
          have HB : Hid (decide (xs = ys) = false) := HD.out ht
          clear HD HN
          go_wp2
          go_quiet (fail)
          go_wp2
          go_ret
          exact ⟨by rw [HB.out]; rfl, below_drewN hbel _⟩
      · have hkl : k = xs.length := by omega
        subst hkl
        have HE : Hid (decide (xs = ys) = true) := decide_eq_true (nth_ext HL.out HS.out)
        clear ha hb HS
        go_wp2
        go_ret
        exact ⟨by rw [HE.out]; rfl, hbel⟩
  · have hle : ((xs.length : Int) == (ys.length : Int)) = false := by simp; omega
    have hln : ((xs.length : Int) != (ys.length : Int)) = true := by simp; omega
    have HE : Hid (decide (xs = ys) = false) := decide_eq_false (fun e => hl (by rw [e]))
    clear ha hb hl
    go_enter Tryz.func85, Tryz.ntmps85
    go_wp2
    go_ret
    exact ⟨by rw [HE.out]; rfl, Below.refl _ _⟩
set_option maxHeartbeats 1000000 in
theorem equalInts_any (a b : Option Addr) (ca cb : Nat) (xs ys : List Int) (w : World) (hlx : xs.length ≤ 1048576) (hly : ys.length ≤ 1048576) (ha : IntRow w a xs) (hb : IntRow w b ys) :
    Calls Tryz.prog 140 #[.slice a xs.length ca, .slice b ys.length cb] w fun e w' => e = .returned (.bool (decide (xs = ys))) ∧ Below w.heap.size w w' := by
  by_cases hl : xs.length = ys.length
  · have hle : ((xs.length : Int) == (ys.length : Int)) = true := by simp [hl]
    have hln : ((xs.length : Int) != (ys.length : Int)) = false := by simp [hl]
    have HL : Hid (xs.length = ys.length) := hl
    clear hl
    go_enter Tryz.func140, Tryz.ntmps140
    go_wp2
    go_loopw [13] (fun i wr => ∃ k : Nat, k ≤ xs.length ∧ i = .int .i64 k ∧ (∀ j, j < k → nth xs j = nth ys j) ∧ Below w.heap.size w wr) (fun i _ => xs.length - (intOf i).toNat)
    case atStart => exact ⟨0, Nat.zero_le _, rfl, fun j hj => by omega, Below.refl _ _⟩
    case round =>
      obtain ⟨k, hk, rfl, hsame, hbel⟩ := hrel
      have HS : Hid (∀ j, j < k → nth xs j = nth ys j) := hsame
      clear hsame
      by_cases hlt : k < xs.length
      · obtain ⟨g1, o1, rfl, hg1, hc1⟩ := ha (by omega)
        obtain ⟨g2, o2, rfl, hg2, hc2⟩ := hb (by have := HL.out; omega)
        have c1 := (hbel.cell (p := ⟨g1, o1 + k, none⟩) hg1).trans (hc1 k hlt)
        have c2 := (hbel.cell (p := ⟨g2, o2 + k, none⟩) hg2).trans (hc2 k (by have := HL.out; omega))
        have hky : (k : Int) < (ys.length : Int) := by have := HL.out; omega
        have HN : Hid (nth xs k = nth ys k → ∀ j, j < k + 1 → nth xs j = nth ys j) := fun h j hj => by
          by_cases e : j = k
          · subst e; exact h
          · exact HS.out j (by omega)
        have HD : Hid (nth xs k ≠ nth ys k → decide (xs = ys) = false) := fun h => decide_eq_false (fun e => h (by rw [e]))
        clear ha hb hc1 hc2 HS
        generalize nth xs k = t1 at *
        generalize nth ys k = t2 at *
        by_cases ht : t1 = t2
        · have HM : Hid (∀ j, j < k + 1 → nth xs j = nth ys j) := HN.out ht
          clear HN HD
          subst ht
          go_wp2
          go_quiet (fail)
          go_wp2
          go_roundw
          case rel => exact ⟨k + 1, by omega, by go_num, HM.out, below_drewN hbel _⟩
          case measure => simp [intOf]; omega
        · have h1 : (t1 == t2) = false := by simpa using ht
          have h2 : (t1 != t2) = true := by simpa using ht
          have HB : Hid (decide (xs = ys) = false) := HD.out ht
          clear HD HN
          go_wp2
          go_quiet (fail)
          go_wp2
          go_ret
          exact ⟨by rw [HB.out]; rfl, below_drewN hbel _⟩
      · have hkl : k = xs.length := by omega
        subst hkl
        have HE : Hid (decide (xs = ys) = true) := decide_eq_true (nth_ext HL.out HS.out)
        clear ha hb HS
        go_wp2
        go_ret
        exact ⟨by rw [HE.out]; rfl, hbel⟩
  · have hle : ((xs.length : Int) == (ys.length : Int)) = false := by simp; omega
    have hln : ((xs.length : Int) != (ys.length : Int)) = true := by simp; omega
    have HE : Hid (decide (xs = ys) = false) := decide_eq_false (fun e => hl (by rw [e]))
    clear ha hb hl
    go_enter Tryz.func140, Tryz.ntmps140
    go_wp2
    go_ret
    exact ⟨by rw [HE.out]; rfl, Below.refl _ _⟩
theorem postEqual_any (x y : Pst) (a b : Option Addr) (ca cb : Nat) (w : World) (hlx : PstSm x) (hly : PstSm y) (ha : IntRow w a x.ats) (hb : IntRow w b y.ats) :
    Calls Tryz.prog 123 #[.agg #[.int .i64 x.doc, .slice a x.ats.length ca], .agg #[.int .i64 y.doc, .slice b y.ats.length cb]] w fun e w' => e = .returned (.bool (decide (x = y))) ∧ Below w.heap.size w w' := by
  obtain ⟨d1, xs⟩ := x
  obtain ⟨d2, ys⟩ := y
  have hlx' : xs.length ≤ 1048576 := hlx
  have hly' : ys.length ≤ 1048576 := hly
  simp only at ha hb ⊢
  have hb0 : Below w.heap.size w ((w.alloc (.cells #[.int .i64 d1, .slice a xs.length ca] 107)).alloc (.cells #[.int .i64 d2, .slice b ys.length cb] 107)) := ((Below.refl _ w).alloc (Nat.le_refl _) _).alloc (by simp) _
  have a0 := ha.below hb0
  have b0 := hb.below hb0
  clear ha hb hlx hly
  by_cases hd : d1 = d2
  · subst hd
    have HE : Hid (decide ((⟨d1, xs⟩ : Pst) = ⟨d1, ys⟩) = decide (xs = ys)) := by unfold Hid; simp
    have hdd : (d1 == d1) = true := by simp
    go_enter Tryz.func123, Tryz.ntmps123
    go_wp2_with fail
    refine (equalInts_any a b ca cb xs ys _ hlx' hly' a0 b0).mono ?_
    rintro e w2 ⟨rfl, hb2⟩
    have hb3 : Below w.heap.size w w2 := hb0.trans (hb2.mono (by simp; omega))
    clear a0 b0
    generalize decide (xs = ys) = bb at *
    go_wp2
    go_ret
    exact ⟨by rw [HE.out]; rfl, hb3⟩
  · have HE : Hid (decide ((⟨d1, xs⟩ : Pst) = ⟨d2, ys⟩) = false) := decide_eq_false (fun e => hd (by cases e; rfl))
    have hdd : (d1 == d2) = false := by simpa using hd
    clear a0 b0 hd
    go_enter Tryz.func123, Tryz.ntmps123
    go_wp2
    go_ret
    exact ⟨by rw [HE.out]; rfl, hb0⟩
end Go.Proofs.YtbifagdcnpnpjaaGreat
