/- Whether lists of entries are the same, by the model. -/
import Derived.Test.YtbifagdcnpnpjaaGreatIdxSame
namespace Go.Proofs.YtbifagdcnpnpjaaGreat
open Go Go.Sort Go.RowKit Go.BigFrame
set_option linter.unusedVariables false

theorem same_all {α : Type} {xs ys : List α} (hl : xs.length = ys.length) (h : ∀ j x y, j < xs.length → xs[j]? = some x → ys[j]? = some y → x = y) : xs = ys := by
  apply List.ext_getElem hl
  intro i h1 h2
  exact h i _ _ h1 (List.getElem?_eq_getElem h1) (List.getElem?_eq_getElem h2)
theorem same_not {α : Type} {xs ys : List α} {k : Nat} {x y : α} (hx : xs[k]? = some x) (hy : ys[k]? = some y) (h : x ≠ y) : xs ≠ ys := fun e => by
  rw [e, hy] at hx
  cases hx
  exact h rfl
theorem toL_beq (x t : ByteArray) : (x.toList == t.toList) = decide (x = t) := by
  rw [ByteArray.toList_eq, ByteArray.toList_eq]
  by_cases h : x = t
  · subst h; simp
  · rw [decide_eq_false h]
    exact beq_eq_false_iff_ne.2 fun e => h (by cases x; cases t; simpa using e)
theorem toL_bne (x t : ByteArray) : (x.toList != t.toList) = !decide (x = t) := by
  show (!(x.toList == t.toList)) = _
  rw [toL_beq]
def EqA (xs ys : List Ent) (w w' : World) (e : Ending) : Prop := e = .returned (.bool (decide (xs = ys))) ∧ Below w.heap.size w w'
theorem eqA_no {xs ys : List Ent} {w w' : World} (h : xs ≠ ys) (hb : Below w.heap.size w w') : EqA xs ys w w' (.returned (.bool false)) := ⟨by rw [decide_eq_false h], hb⟩
theorem eqA_yes {xs ys : List Ent} {w w' : World} (h : xs = ys) (hb : Below w.heap.size w w') : EqA xs ys w w' (.returned (.bool true)) := ⟨by rw [decide_eq_true h], hb⟩
set_option maxRecDepth 100000 in
set_option maxHeartbeats 4000000 in
theorem l4Same_any (a b : Option Addr) (ca cb : Nat) (xs ys : List Ent) (w : World) (hx : EntsSm xs) (hy : EntsSm ys) (ha : EntRow w a xs) (hb : EntRow w b ys) :
    Calls Tryz.prog 44 #[.slice a xs.length ca, .slice b ys.length cb] w fun e w' => EqA xs ys w w' e := by
  have hxl := hx.1
  have hyl := hy.1
  have HA : Hid (∀ wx, Below w.heap.size w wx → EntRow wx a xs) := fun wx h => ha.below h
  have HB : Hid (∀ wx, Below w.heap.size w wx → EntRow wx b ys) := fun wx h => hb.below h
  have HX : Hid (∀ x ∈ xs, PstsSm x.posts) := fun x h => (hx.2 x h).2.2
  have HY : Hid (∀ x ∈ ys, PstsSm x.posts) := fun x h => (hy.2 x h).2.2
  clear ha hb hx hy
  by_cases hl : xs.length = ys.length
  · have hle : ((xs.length : Int) == (ys.length : Int)) = true := by simp [hl]
    have hln : ((xs.length : Int) != (ys.length : Int)) = false := by simp [hl]
    have HL : Hid (xs.length = ys.length) := hl
    clear hl
    go_enter Tryz.func44, Tryz.ntmps44
    go_wp2
    go_loopw [5] (fun i wr => ∃ k : Nat, k ≤ xs.length ∧ i = .int .i64 k ∧ (∀ j x y, j < k → xs[j]? = some x → ys[j]? = some y → x = y) ∧ Below w.heap.size w wr) (fun i _ => xs.length - (intOf i).toNat)
    case atStart => exact ⟨0, Nat.zero_le _, rfl, fun j x y hj => by omega, Below.refl _ _⟩
    case round =>
      obtain ⟨k, hk, rfl, hsame, hbel⟩ := hrel
      have HS : Hid (∀ j x y, j < k → xs[j]? = some x → ys[j]? = some y → x = y) := hsame
      clear hsame
      by_cases hlt : k < xs.length
      · have hltI : (k : Int) < (xs.length : Int) := by omega
        have hkyn : k < ys.length := by have := HL.out; omega
        have hky : (k : Int) < (ys.length : Int) := by omega
        obtain ⟨g1, o1, rfl, hg1, hc1⟩ := (HA.out _ hbel) (by omega)
        obtain ⟨g2, o2, rfl, hg2, hc2⟩ := (HB.out _ hbel) (by omega)
        obtain ⟨q1, e1, x0, x1, x2, hcx, hx3⟩ := hc1 k xs[k] (List.getElem?_eq_getElem hlt)
        obtain ⟨q2, e2, y0, y1, y2, hcy, hy3⟩ := hc2 k ys[k] (List.getElem?_eq_getElem hkyn)
        have HSX : Hid (PstsSm xs[k].posts) := HX.out _ (List.getElem_mem hlt)
        have HSY : Hid (PstsSm ys[k].posts) := HY.out _ (List.getElem_mem hkyn)
        have HN : Hid (xs[k] = ys[k] → ∀ j x y, j < k + 1 → xs[j]? = some x → ys[j]? = some y → x = y) := fun h j x y hj hx hy => by
          by_cases e : j = k
          · subst e
            rw [List.getElem?_eq_getElem hlt] at hx
            rw [List.getElem?_eq_getElem hkyn] at hy
            cases hx
            cases hy
            exact h
          · exact HS.out j x y (by omega) hx hy
        have HD : Hid (xs[k] ≠ ys[k] → xs ≠ ys) := fun h => same_not (List.getElem?_eq_getElem hlt) (List.getElem?_eq_getElem hkyn) h
        have HP1 : Hid (∀ wx, Below wr.heap.size wr wx → PstRow wx q1 xs[k].posts) := fun wx h => hx3.below h
        have HP2 : Hid (∀ wx, Below wr.heap.size wr wx → PstRow wx q2 ys[k].posts) := fun wx h => hy3.below h
        clear hc1 hc2 HS hx3 hy3
        generalize xs[k] = x at *
        generalize ys[k] = y at *
        obtain ⟨f1, t1, ps⟩ := x
        obtain ⟨f2, t2, qs⟩ := y
        simp only at x0 x1 x2 y0 y1 y2 hcx hcy HSX HSY HP1 HP2
        by_cases hf : f1 = f2
        · subst hf
          have b1 : (f1.toList == f1.toList) = true := by simp
          have b2 : (f1.toList != f1.toList) = false := by simp
          by_cases ht : t1 = t2
          · subst ht
            have b3 : (t1.toList == t1.toList) = true := by simp
            have b4 : (t1.toList != t1.toList) = false := by simp
            by_cases hp : ps.length = qs.length
            · have b5 : ((ps.length : Int) == (qs.length : Int)) = true := by simp [hp]
              have b6 : ((ps.length : Int) != (qs.length : Int)) = false := by simp [hp]
              have HPL : Hid (ps.length = qs.length) := hp
              clear hp
              have hp1 := HSX.out.1
              have hp2 := HSY.out.1
              go_wp2
              go_quiet (fail)
              go_wp2
              rename World => wo
              go_loopw [6] (fun i wr => ∃ m : Nat, m ≤ ps.length ∧ i = .int .i64 m ∧ (∀ j x y, j < m → ps[j]? = some x → qs[j]? = some y → x = y) ∧ Below wo.heap.size wo wr) (fun i _ => ps.length - (intOf i).toNat)
              case atStart => exact ⟨0, Nat.zero_le _, rfl, fun j x y hj => by omega, below_drewN (Below.refl _ _) _⟩
              case round =>
                obtain ⟨m, hm, rfl, hsm, hbo⟩ := hrel
                have HM : Hid (∀ j x y, j < m → ps[j]? = some x → qs[j]? = some y → x = y) := hsm
                clear hsm
                have hgo1 := hbo.cell (p := ⟨g1, o1 + k * 3 + 2, none⟩) hg1
                have hgo2 := hbo.cell (p := ⟨g2, o2 + k * 3 + 2, none⟩) hg2
                rw [x2] at hgo1
                rw [y2] at hgo2
                have hbw := hbel.trans (hbo.mono hbel.size)
                by_cases hlm : m < ps.length
                · have hlmI : (m : Int) < (ps.length : Int) := by omega
                  have hmyn : m < qs.length := by have := HPL.out; omega
                  have hmy : (m : Int) < (qs.length : Int) := by omega
                  obtain ⟨g3, o3, rfl, hg3, hc3⟩ := (HP1.out _ hbo) (by omega)
                  obtain ⟨g4, o4, rfl, hg4, hc4⟩ := (HP2.out _ hbo) (by omega)
                  obtain ⟨q5, e5, v0, v1, hcv, hv2⟩ := hc3 m ps[m] (List.getElem?_eq_getElem hlm)
                  obtain ⟨q6, e6, u0, u1, hcu, hu2⟩ := hc4 m qs[m] (List.getElem?_eq_getElem hmyn)
                  have HV : Hid (ps[m].ats.length ≤ 1048576) := HSX.out.2 _ (List.getElem_mem hlm)
                  have HU : Hid (qs[m].ats.length ≤ 1048576) := HSY.out.2 _ (List.getElem_mem hmyn)
                  have HNM : Hid (ps[m] = qs[m] → ∀ j x y, j < m + 1 → ps[j]? = some x → qs[j]? = some y → x = y) := fun h j x y hj hx hy => by
                    by_cases e : j = m
                    · subst e
                      rw [List.getElem?_eq_getElem hlm] at hx
                      rw [List.getElem?_eq_getElem hmyn] at hy
                      cases hx
                      cases hy
                      exact h
                    · exact HM.out j x y (by omega) hx hy
                  have HDM : Hid (ps[m] ≠ qs[m] → xs ≠ ys) := fun h => HD.out (fun e => same_not (List.getElem?_eq_getElem hlm) (List.getElem?_eq_getElem hmyn) h (by cases e; rfl))
                  have HCI : Hid (∀ p : Regrown, Calls Tryz.prog 85 #[.slice q5 ps[m].ats.length e5, .slice q6 qs[m].ats.length e6] (grow (redrawn wr p.d) p.os) fun e w' => e = .returned (.bool (decide (ps[m].ats = qs[m].ats))) ∧ Below (grow (redrawn wr p.d) p.os).heap.size (grow (redrawn wr p.d) p.os) w') := fun p =>
                    l4Ints_any q5 q6 e5 e6 _ _ _ HV.out HU.out (hv2.below (belowQ wr p)) (hu2.below (belowQ wr p))
                  clear hc3 hc4 HM hv2 hu2 HV HU
                  generalize ps[m] = x at *
                  generalize qs[m] = y at *
                  obtain ⟨d1, zs⟩ := x
                  obtain ⟨d2, rs⟩ := y
                  simp only at v0 v1 u0 u1 hcv hcu HCI
                  by_cases hd : d1 = d2
                  · subst hd
                    have b7 : (d1 == d1) = true := by simp
                    have b8 : (d1 != d1) = false := by simp
                    have r1 := cellQ hgo1
                    have r2 := cellQ hgo2
                    have r3 := cellQ v0
                    have r4 := cellQ v1
                    have r5 := cellQ u0
                    have r6 := cellQ u1
                    cases hz : decide (zs = rs) with
                    | true =>
                      have HZ : Hid (∀ j x y, j < m + 1 → ps[j]? = some x → qs[j]? = some y → x = y) := HNM.out (by rw [of_decide_eq_true hz])
                      clear HNM HDM
                      rw [hz] at HCI
                      go_wp2
                      refine wp_region_quiet_below (by kernel_rfl) (by kernel_rfl) ?_
                      repeat (go_big_quiet_step ((go_at_call 85; with_reducible exact Calls.regrown_of (HCI.out _))))
                      refine wpQuiet_nil ?_
                      intro _ hw'
                      obtain ⟨pq, hw''⟩ := hw'
                      subst hw''
                      have hbq := belowQ wr pq
                      clear r1 r2 r3 r4 r5 r6
                      go_wp2
                      go_roundw
                      case rel => exact ⟨m + 1, by omega, by go_num, HZ.out, hbo.trans (hbq.mono hbo.size)⟩
                      case measure => simp [intOf]; omega
                    | false =>
                      have HZ : Hid (xs ≠ ys) := HDM.out (fun e => of_decide_eq_false hz (by cases e; rfl))
                      clear HNM HDM
                      rw [hz] at HCI
                      go_wp2
                      refine wp_region_quiet_below (by kernel_rfl) (by kernel_rfl) ?_
                      repeat (go_big_quiet_step ((go_at_call 85; with_reducible exact Calls.regrown_of (HCI.out _))))
                      refine wpQuiet_nil ?_
                      intro _ hw'
                      obtain ⟨pq, hw''⟩ := hw'
                      subst hw''
                      have hbq := belowQ wr pq
                      clear r1 r2 r3 r4 r5 r6
                      go_wp2
                      go_ret
                      exact eqA_no HZ.out (hbw.trans (hbq.mono hbw.size))
                  · have b7 : (d1 == d2) = false := by simpa using hd
                    have b8 : (d1 != d2) = true := by simpa using hd
                    have HZ : Hid (xs ≠ ys) := HDM.out (fun e => hd (by cases e; rfl))
                    clear HNM HDM HCI
                    go_wp2
                    go_quiet (fail)
                    go_wp2
                    go_ret
                    exact eqA_no HZ.out (below_drewN hbw _)
                · have hml : m = ps.length := by omega
                  subst hml
                  have HE : Hid (∀ j x y, j < k + 1 → xs[j]? = some x → ys[j]? = some y → x = y) := HN.out (by rw [same_all HPL.out HM.out])
                  clear HM HN HD
                  go_wp2
                  go_roundw
                  case rel => exact ⟨k + 1, by omega, by go_num, HE.out, hbw⟩
                  case measure => simp [intOf]; omega
            · have b5 : ((ps.length : Int) == (qs.length : Int)) = false := by simp; omega
              have b6 : ((ps.length : Int) != (qs.length : Int)) = true := by simp; omega
              have HE : Hid (xs ≠ ys) := HD.out (fun e => hp (by cases e; rfl))
              clear HN HD
              go_wp2
              go_quiet (fail)
              go_wp2
              go_ret
              exact eqA_no HE.out (below_drewN hbel _)
          · have b3 : (t1.toList == t2.toList) = false := by rw [toL_beq]; simpa using ht
            have b4 : (t1.toList != t2.toList) = true := by rw [toL_bne]; simpa using ht
            have HE : Hid (xs ≠ ys) := HD.out (fun e => ht (by cases e; rfl))
            clear HN HD
            go_wp2
            go_quiet (fail)
            go_wp2
            go_ret
            exact eqA_no HE.out (below_drewN hbel _)
        · have b1 : (f1.toList == f2.toList) = false := by rw [toL_beq]; simpa using hf
          have b2 : (f1.toList != f2.toList) = true := by rw [toL_bne]; simpa using hf
          have HE : Hid (xs ≠ ys) := HD.out (fun e => hf (by cases e; rfl))
          clear HN HD
          go_wp2
          go_quiet (fail)
          go_wp2
          go_ret
          exact eqA_no HE.out (below_drewN hbel _)
      · have hkl : k = xs.length := by omega
        subst hkl
        have HE : Hid (xs = ys) := same_all HL.out HS.out
        clear HA HB HX HY HS
        go_wp2
        go_ret
        exact eqA_yes HE.out hbel
  · have hle : ((xs.length : Int) == (ys.length : Int)) = false := by simp; omega
    have hln : ((xs.length : Int) != (ys.length : Int)) = true := by simp; omega
    have HE : Hid (xs ≠ ys) := fun e => hl (by rw [e])
    clear HA HB HX HY hl
    go_enter Tryz.func44, Tryz.ntmps44
    go_wp2
    go_ret
    exact eqA_no HE.out (Below.refl _ _)
end Go.Proofs.YtbifagdcnpnpjaaGreat
