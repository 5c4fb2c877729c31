/- spec.l6Run, spec.l6Begun, spec.l6Text. -/
import Derived.Test.YtjkimadnopeakaaGreatDoorMtText
import Derived.Deep.QuietTactic
import Derived.BigQuiet
namespace Go.Proofs.YtjkimadnopeakaaGreatDoor
open Go.RowKit
set_option linter.unusedVariables false

def sameAt (ts ss : List ByteArray) (i j : Nat) : Bool := (ts.getD (i + j) ⟨#[]⟩).toList == (ss.getD j ⟨#[]⟩).toList
theorem toList_eq_iff (a b : ByteArray) : (a.toList == b.toList) = decide (a = b) := by rw [eq_toL]
theorem runAt_same {ts ss : List ByteArray} {i : Nat} (h : i + ss.length ≤ ts.length) : runAt ts ss i = allTo (sameAt ts ss i) ss.length := by
  rw [Bool.eq_iff_iff, allTo_iff]
  unfold runAt
  rw [decide_eq_true_iff]
  constructor
  · intro e j hj
    have h1 : ((ts.drop i).take ss.length)[j]? = ss[j]? := by rw [e]
    rw [List.getElem?_take_of_lt hj, List.getElem?_drop] at h1
    unfold sameAt
    rw [List.getD_eq_getElem?_getD, List.getD_eq_getElem?_getD, h1]
    simp
  · intro hs
    apply List.ext_getElem?
    intro j
    by_cases hj : j < ss.length
    · rw [List.getElem?_take_of_lt hj, List.getElem?_drop]
      have := hs j hj
      unfold sameAt at this
      rw [toList_eq_iff, decide_eq_true_iff, List.getD_eq_getElem?_getD, List.getD_eq_getElem?_getD, List.getElem?_eq_getElem (show i + j < ts.length by omega), List.getElem?_eq_getElem hj] at this
      rw [List.getElem?_eq_getElem (show i + j < ts.length by omega), List.getElem?_eq_getElem hj]
      simpa using this
    · rw [List.getElem?_eq_none (by rw [List.length_take, List.length_drop]; omega), List.getElem?_eq_none (by omega)]
set_option maxRecDepth 100000 in
set_option maxHeartbeats 2000000 in
theorem l6Run_any (p : Option Addr) (c : Nat) (ts : List ByteArray) (p2 : Option Addr) (c2 : Nat) (ss : List ByteArray) (w : World) (hz : ts.length ≤ 1048576) (hn : 0 < ss.length) (hz2 : ss.length ≤ 1048576) (hr : StrRow w p ts) (hr2 : StrRow w p2 ss) :
    Calls Tryz.prog 147 #[.slice p ts.length c, .slice p2 ss.length c2] w fun e w' => e = .returned (.bool (runB ts ss)) ∧ Below w.heap.size w w' := by
  have HR : Hid (∀ wx, Below w.heap.size w wx → StrRow wx p ts) := fun wx h => hr.below h
  have HR2 : Hid (∀ wx, Below w.heap.size w wx → StrRow wx p2 ss) := fun wx h => hr2.below h
  have HNO : Hid (∀ k, ts.length < k + ss.length → anyTo (runAt ts ss) k = false → runB ts ss = false) := fun k h1 h2 => runB_no h1 hn h2
  have HYS : Hid (∀ k, k + ss.length ≤ ts.length → runAt ts ss k = true → runB ts ss = true) := fun k h1 h2 => runB_yes h1 h2
  clear hr hr2
  go_enter Tryz.func147, Tryz.ntmps147
  go_wp2
  go_loopw [5] (fun i wr => ∃ k : Nat, k ≤ ts.length + 1 ∧ i = .int .i64 k ∧ anyTo (runAt ts ss) k = false ∧ Below w.heap.size w wr) (fun i _ => ts.length + 1 - (intOf i).toNat)
  case atStart => exact ⟨0, Nat.zero_le _, rfl, rfl, Below.refl _ _⟩
  case round =>
    obtain ⟨k, hk, rfl, hno, hbel⟩ := hrel
    have HA : Hid (anyTo (runAt ts ss) k = false) := hno
    clear hno
    by_cases hlt : k + ss.length ≤ ts.length
    · have hki : (k : Int) + (ss.length : Int) ≤ (ts.length : Int) := by omega
      have HRA : Hid (runAt ts ss k = allTo (sameAt ts ss k) ss.length) := runAt_same hlt
      have HY : Hid (runAt ts ss k = true → runB ts ss = true) := fun h => HYS.out k hlt h
      have HN : Hid (runAt ts ss k = false → anyTo (runAt ts ss) (k + 1) = false) := fun h => anyTo_snoc HA.out h
      have HBL : Hid (Below w.heap.size w wr) := hbel
      clear HNO HYS HA hbel
      go_wp2
      go_loopw [6, 7] (fun b i wq => ∃ j : Nat, j ≤ ss.length ∧ b = .bool (allTo (sameAt ts ss k) j) ∧ i = .int .i64 j ∧ Below w.heap.size w wq) (fun _ i _ => ss.length - (intOf i).toNat)
      case atStart => exact ⟨0, Nat.zero_le _, rfl, rfl, HBL.out⟩
      case round =>
        clear HBL
        obtain ⟨j, hj, rfl, rfl, hbq⟩ := hrel
        by_cases hjl : j < ss.length
        · have hji : (j : Int) < (ss.length : Int) := by omega
          have hkj : (k : Int) + (j : Int) < (ts.length : Int) := by omega
          have hkj0 : (0 : Int) ≤ (k : Int) + (j : Int) := by omega
          have hkn : ((k : Int) + (j : Int)).toNat = k + j := by omega
          obtain ⟨g, rfl, hg, hcs⟩ := (HR.out _ hbq) (by omega)
          obtain ⟨g2, rfl, hg2, hcs2⟩ := (HR2.out _ hbq) (by omega)
          have d1 := hcs (k + j) (by omega)
          have d2 := hcs2 j hjl
          have HS : Hid (allTo (sameAt ts ss k) (j + 1) = (allTo (sameAt ts ss k) j && ((ts.getD (k + j) ⟨#[]⟩).toList == (ss.getD j ⟨#[]⟩).toList))) := rfl
          clear hcs hcs2
          generalize ts.getD (k + j) ⟨#[]⟩ = x at *
          generalize ss.getD j ⟨#[]⟩ = y at *
          cases hb : allTo (sameAt ts ss k) j with
          | false =>
            have HB : Hid (allTo (sameAt ts ss k) (j + 1) = false) := by unfold Hid; rw [HS.out, hb]; rfl
            clear HS hb
            go_wp2
            go_quiet (fail)
            go_wp2
            go_roundw
            case rel => exact ⟨j + 1, by omega, by rw [HB.out], by go_num, below_drewN hbq _⟩
            case measure => simp [intOf]; omega
          | true =>
            have HB : Hid (allTo (sameAt ts ss k) (j + 1) = (x.toList == y.toList)) := by unfold Hid; rw [HS.out, hb]; rfl
            clear HS hb
            go_wp2
            go_quiet (fail)
            go_wp2
            go_roundw
            case rel => exact ⟨j + 1, by omega, by rw [HB.out], by go_num, below_drewN hbq _⟩
            case measure => simp [intOf]; omega
        · have hje : j = ss.length := by omega
          subst hje
          rw [← HRA.out]
          clear HRA
          cases hb : runAt ts ss k with
          | true =>
            have HB : Hid (runB ts ss = true) := HY.out hb
            clear HY HN hb
            go_wp2
            go_ret
            exact ⟨ret_bool HB.out.symm, hbq⟩
          | false =>
            have HB : Hid (anyTo (runAt ts ss) (k + 1) = false) := HN.out hb
            clear HY HN hb
            go_wp2
            go_roundw
            case rel => exact ⟨k + 1, by omega, by go_num, HB.out, hbq⟩
            case measure => simp [intOf]; omega
    · have hki : ¬ ((k : Int) + (ss.length : Int) ≤ (ts.length : Int)) := by omega
      have HB : Hid (runB ts ss = false) := HNO.out k (by omega) HA.out
      clear HNO HYS HA
      go_wp2
      go_ret
      exact ⟨ret_bool HB.out.symm, hbel⟩
set_option maxRecDepth 100000 in
set_option maxHeartbeats 1000000 in
theorem l6Begun_any (p : Option Addr) (c : Nat) (ts : List ByteArray) (t : ByteArray) (w : World) (hz : ts.length ≤ 1048576) (ht : 0 < t.size) (hr : StrRow w p ts) :
    Calls Tryz.prog 146 #[.slice p ts.length c, .string t] w fun e w' => e = .returned (.bool (someBeg ts t)) ∧ Below w.heap.size w w' := by
  have HR : Hid (StrRow w p ts) := hr
  have HSB : Hid (someBeg ts t = anyTo (fun i => preB t (ts.getD i ⟨#[]⟩)) ts.length) := rfl
  have HPN : Hid (preB t ⟨#[]⟩ = false) := preB_none ht
  clear hr
  go_enter Tryz.func146, Tryz.ntmps146
  go_wp2
  go_loopw [5] (fun i wr => ∃ j : Nat, j ≤ ts.length ∧ i = .int .i64 j ∧ anyTo (fun i => preB t (ts.getD i ⟨#[]⟩)) j = false ∧ Below w.heap.size w wr) (fun i _ => ts.length - (intOf i).toNat)
  case atStart => exact ⟨0, Nat.zero_le _, rfl, rfl, Below.refl _ _⟩
  case round =>
    obtain ⟨j, hj, rfl, ha, hbel⟩ := hrel
    have HA : Hid (anyTo (fun i => preB t (ts.getD i ⟨#[]⟩)) j = false) := ha
    clear ha
    by_cases hlt : j < ts.length
    · have hji : (j : Int) < (ts.length : Int) := by omega
      obtain ⟨g, rfl, hg, hc⟩ := (HR.out.below hbel) (by omega)
      have c0 := hc j hlt
      have HY : Hid (preB t (ts.getD j ⟨#[]⟩) = true → someBeg ts t = true) := fun h => by rw [HSB.out]; exact anyTo_yes hlt h
      have HN : Hid (preB t (ts.getD j ⟨#[]⟩) = false → anyTo (fun i => preB t (ts.getD i ⟨#[]⟩)) (j + 1) = false) := fun h => anyTo_snoc HA.out h
      clear hc HA
      generalize ts.getD j ⟨#[]⟩ = x at *
      cases he : x.toList.isEmpty with
      | true =>
        have hx : x = ⟨#[]⟩ := by
          have h1 : x.toList = [] := List.isEmpty_iff.1 he
          rw [ByteArray.toList_eq] at h1
          apply ba_ext
          exact h1
        have HB : Hid (anyTo (fun i => preB t (ts.getD i ⟨#[]⟩)) (j + 1) = false) := HN.out (by rw [hx]; exact HPN.out)
        clear HY HN hx HPN
        go_wp2
        go_roundw
        case rel => exact ⟨j + 1, by omega, by go_num, HB.out, hbel⟩
        case measure => simp [intOf]; omega
      | false =>
        cases hp : preB t x with
        | true =>
          have HB : Hid (someBeg ts t = true) := HY.out hp
          clear HY HN
          go_wp2_with fail
          refine (l4Begins_any x t _).mono ?_
          rintro e w2 ⟨rfl, rfl⟩
          rw [hp]
          clear hp
          go_wp2
          go_ret
          exact ⟨ret_bool HB.out.symm, hbel⟩
        | false =>
          have HB : Hid (anyTo (fun i => preB t (ts.getD i ⟨#[]⟩)) (j + 1) = false) := HN.out hp
          clear HY HN
          go_wp2_with fail
          refine (l4Begins_any x t _).mono ?_
          rintro e w2 ⟨rfl, rfl⟩
          rw [hp]
          clear hp
          go_wp2
          go_roundw
          case rel => exact ⟨j + 1, by omega, by go_num, HB.out, hbel⟩
          case measure => simp [intOf]; omega
    · have hjl : j = ts.length := by omega
      subst hjl
      have HB : Hid (someBeg ts t = false) := HSB.out.trans HA.out
      clear HA HSB
      go_wp2
      go_ret
      exact ⟨ret_bool HB.out.symm, hbel⟩
theorem termsC_S (s : ByteArray) (w : World) (hs : s.size ≤ 1048576) :
    Calls Tryz.prog 145 #[.string s] w fun e w' => ∃ p c, e = .returned (.slice p (termsL s).length c) ∧ StrRow w' p (termsL s) ∧ Below w.heap.size w w' := by
  refine (termsS_any s w hs).mono ?_
  rintro e w' ⟨v, rfl, ho, hb⟩
  obtain ⟨p, c, rfl, hr⟩ := owns_strRow ho
  exact ⟨p, c, rfl, hr, hb⟩
set_option maxRecDepth 100000 in
set_option maxHeartbeats 1000000 in
theorem l6Text_any (s : ByteArray) (k : Int) (f t : ByteArray) (lo hi : Int) (n : Nat) (a : Option Addr) (c : Nat) (w : World) (hs : s.size ≤ 1048576) (ht : t.size ≤ 1048576) (ht0 : 0 < t.size) (hT : 0 < (termsL t).length) :
    Calls Tryz.prog 119 #[.string s, .agg #[.int .i64 k, .string f, .string t, .int .i64 lo, .int .i64 hi, .slice a n c]] w fun e w' => e = .returned (.bool (textM k t (termsL s))) ∧ Below w.heap.size w w' := by
  have hb0 : Below w.heap.size w (w.alloc (.cells #[.int .i64 k, .string f, .string t, .int .i64 lo, .int .i64 hi, .slice a n c] 41)) := (Below.refl _ w).alloc (Nat.le_refl _) _
  have B0 : QBox (w.alloc (.cells #[.int .i64 k, .string f, .string t, .int .i64 lo, .int .i64 hi, .slice a n c] 41)) w.heap.size k f t lo hi a n c := Blk.new w _ _
  have hl1 := termsL_le s
  have hl2 := termsL_le t
  have HTS : Hid (Calls Tryz.prog 145 #[.string s] (w.alloc (.cells #[.int .i64 k, .string f, .string t, .int .i64 lo, .int .i64 hi, .slice a n c] 41)) fun e w' => ∃ p' c', e = .returned (.slice p' (termsL s).length c') ∧ StrRow w' p' (termsL s) ∧ Below (w.alloc (.cells #[.int .i64 k, .string f, .string t, .int .i64 lo, .int .i64 hi, .slice a n c] 41)).heap.size (w.alloc (.cells #[.int .i64 k, .string f, .string t, .int .i64 lo, .int .i64 hi, .slice a n c] 41)) w') := termsC_S s _ hs
  have HTT : Hid (∀ wx, Calls Tryz.prog 145 #[.string t] wx fun e w' => ∃ p c, e = .returned (.slice p (termsL t).length c) ∧ StrRow w' p (termsL t) ∧ Below wx.heap.size wx w') := fun wx => termsC_S t wx ht
  have H4 : Hid (k = 4 → textM k t (termsL s) = someBeg (termsL s) t) := fun h => if_pos h
  have HN4 : Hid (k ≠ 4 → textM k t (termsL s) = runB (termsL s) (termsL t)) := fun h => if_neg h
  generalize termsL s = ts at *
  generalize termsL t = ss at *
  go_enter Tryz.func119, Tryz.ntmps119
  go_wp2_with fail
  refine HTS.out.mono ?_
  rintro e w1 ⟨p1, c1, rfl, r1, hb1⟩
  have B1 := B0.below hb1 B0.lt
  have hw1 := below_trans hb0 hb1
  have q0 := B1.cell 0
  have q2 := B1.cell 2
  simp at q0 q2
  clear HTS B0 B1 hb0 hb1
  by_cases h4 : k = 4
  · have hkb : (k == 4) = true := beq_iff_eq.2 h4
    have HB := H4.out h4
    have HBH : Hid (textM k t ts = someBeg ts t) := HB
    clear HB H4 HN4 HTT h4
    go_wp2_with fail
    refine (l6Begun_any p1 c1 ts t _ (by omega) ht0 r1).mono ?_
    rintro e w2 ⟨rfl, hb2⟩
    have hw2 := below_trans hw1 hb2
    clear q0 q2 r1 hb2
    go_wp2
    go_ret
    exact ⟨ret_bool HBH.out.symm, hw2⟩
  · have hkb : (k == 4) = false := beq_eq_false_iff_ne.2 h4
    have HBH : Hid (textM k t ts = runB ts ss) := HN4.out h4
    clear H4 HN4 h4
    go_wp2_with fail
    refine (HTT.out _).mono ?_
    rintro e w2 ⟨p2, c2, rfl, r2, hb2⟩
    have r12 := r1.below hb2
    have hw2 := below_trans hw1 hb2
    clear q0 q2 r1 hb2 HTT
    go_wp2_with fail
    refine (l6Run_any p1 c1 ts p2 c2 ss _ (by omega) hT (by omega) r12 r2).mono ?_
    rintro e w3 ⟨rfl, hb3⟩
    have hw3 := below_trans hw2 hb3
    clear r12 r2 hb3
    go_wp2
    go_ret
    exact ⟨ret_bool HBH.out.symm, hw3⟩
end Go.Proofs.YtjkimadnopeakaaGreatDoor
