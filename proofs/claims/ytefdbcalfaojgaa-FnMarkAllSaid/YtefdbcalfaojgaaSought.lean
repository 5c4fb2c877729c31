/- Which words are looked for: slices.Index, slices.Contains, impl.isSought, spec.l9Looked. -/
import Derived.Test.YtefdbcalfaojgaaStem
import Derived.Test.YtefdbcalfaojgaaStrRow
import Derived.Test.YtefdbcalfaojgaaCommon
namespace Go.Proofs.Ytefdbcalfaojgaa
open Go.RowKit

def tat (ts : List ByteArray) (j : Nat) : ByteArray := ts.getD j ⟨#[]⟩
def noT (ts : List ByteArray) (x : ByteArray) (k : Nat) : Bool := allTo (fun j => !((tat ts j).toList == x.toList)) k
def hasT (ts : List ByteArray) (x : ByteArray) : Bool := !noT ts x ts.length
theorem hasT_yes {ts : List ByteArray} {x : ByteArray} {k : Nat} (h : k < ts.length) (he : ((tat ts k).toList == x.toList) = true) : hasT ts x = true := by
  unfold hasT noT
  rw [allTo_false _ _ k h (by simp only [he]; rfl)]
  rfl
theorem noT_snoc {ts : List ByteArray} {x : ByteArray} {k : Nat} (h : noT ts x k = true) (he : ((tat ts k).toList == x.toList) = false) : noT ts x (k + 1) = true := allTo_snoc _ k h (by simp only [he]; rfl)
/-- A word is looked for. -/
def soughtB (ts : List ByteArray) (t : ByteArray) : Bool := !(stemA t).toList.isEmpty && hasT ts (stemA t)

set_option maxHeartbeats 400000 in
theorem strIndex_any (a : Option Addr) (cap : Nat) (ts : List ByteArray) (x : ByteArray) (w : World) (hl : ts.length ≤ 1099511627776) (hr : StrRow w a ts) :
    Calls Try.prog 51 #[.slice a ts.length cap, .string x] w fun e w' => ∃ k : Int, e = .returned (.int .i64 k) ∧ decide (0 ≤ k) = hasT ts x ∧ w' = w := by
  go_enter Try.func51, Try.ntmps51
  go_wp2
  go_loop [8] (fun i => ∃ k : Nat, k ≤ ts.length ∧ i = .int .i64 k ∧ noT ts x k = true) (fun i => ts.length - (intOf i).toNat)
  case atStart => exact ⟨0, Nat.zero_le _, rfl, rfl⟩
  case round =>
    obtain ⟨k, hk, rfl, hno⟩ := hrel
    have HN : Hid (noT ts x k = true) := hno
    clear hno
    by_cases hlt : k < ts.length
    · obtain ⟨g, rfl, hg, hc⟩ := hr (by omega)
      have c1 := hc k hlt
      have HY : Hid (((tat ts k).toList == x.toList) = true → hasT ts x = true) := fun h => hasT_yes hlt h
      have HS : Hid (((tat ts k).toList == x.toList) = false → noT ts x (k + 1) = true) := fun h => noT_snoc HN.out h
      clear hr hc
      have c2 : w.cell? ⟨g, k, none⟩ = some (.string (tat ts k)) := c1
      clear c1
      generalize tat ts k = t at *
      cases he : (t.toList == x.toList) with
      | true =>
        have hd : (x.toList == t.toList) = true := by rw [beq_iff_eq] at he ⊢; exact he.symm
        have HT : Hid (hasT ts x = true) := HY.out he
        clear he
        go_wp2
        go_ret
        exact ⟨(k : Int), rfl, by rw [HT.out]; simp, rfl⟩
      | false =>
        have hd : (x.toList == t.toList) = false := by
          cases h : (x.toList == t.toList) with
          | false => rfl
          | true => rw [beq_iff_eq] at h; rw [h] at he; simp at he
        have HT : Hid (noT ts x (k + 1) = true) := HS.out he
        clear he
        go_wp2
        go_round
        case rel => exact ⟨k + 1, by omega, by go_num, HT.out⟩
        case measure => simp [intOf]; omega
    · have hkl : k = ts.length := by omega
      subst hkl
      have HF : Hid (hasT ts x = false) := by unfold Hid hasT; rw [HN.out]; rfl
      clear hr
      go_wp2
      go_ret
      exact ⟨-1, rfl, by rw [HF.out]; decide, rfl⟩
theorem strContains_any (a : Option Addr) (cap : Nat) (ts : List ByteArray) (x : ByteArray) (w : World) (hl : ts.length ≤ 1099511627776) (hr : StrRow w a ts) :
    Calls Try.prog 40 #[.slice a ts.length cap, .string x] w fun e w' => e = .returned (.bool (hasT ts x)) ∧ w' = w := by
  go_enter Try.func40, Try.ntmps40
  go_wp2_with fail
  refine (strIndex_any a cap ts x _ hl hr).mono ?_
  rintro e w1 ⟨k, rfl, hk, rfl⟩
  have HK : Hid (decide (0 ≤ k) = hasT ts x) := hk
  clear hr hk
  go_wp2
  go_ret
  exact ⟨ret_bool HK.out, rfl⟩
theorem isSought_any (a : Option Addr) (cap : Nat) (ts : List ByteArray) (t : ByteArray) (x y : Int) (w : World) (hl : ts.length ≤ 1099511627776) (ht : t.size ≤ maxLen) (hr : StrRow w a ts) :
    Calls Try.prog 21 #[.agg #[.string t, .int .i64 x, .int .i64 y], .slice a ts.length cap] w fun e w' => e = .returned (.bool (soughtB ts t)) ∧ Below w.heap.size w w' := by
  go_enter Try.func21, Try.ntmps21
  go_wp2_with fail
  refine (stemI_any t _ ht).mono ?_
  rintro e w1 ⟨rfl, hb1⟩
  have hb0 : Below w.heap.size w w1 := ((Below.refl _ w).alloc (Nat.le_refl _) _).trans (hb1.mono (by simp))
  have r1 := hr.below hb0
  clear hb1 hr
  cases he : (stemA t).toList.isEmpty with
  | true =>
    have HS : Hid (soughtB ts t = false) := by unfold Hid soughtB; rw [he]; rfl
    go_wp2
    go_ret
    exact ⟨ret_bool HS.out.symm, hb0⟩
  | false =>
    have HS : Hid (soughtB ts t = hasT ts (stemA t)) := by unfold Hid soughtB; rw [he]; rfl
    go_wp2_with fail
    refine (strContains_any a cap ts (stemA t) _ hl r1).mono ?_
    rintro e w2 ⟨rfl, rfl⟩
    clear r1
    go_wp2
    go_ret
    exact ⟨ret_bool HS.out.symm, hb0⟩
set_option maxHeartbeats 400000 in
theorem looked_any (a : Option Addr) (cap : Nat) (ts : List ByteArray) (t : ByteArray) (w : World) (hl : ts.length ≤ 1099511627776) (ht : t.size ≤ 1099511627776) (hr : StrRow w a ts) :
    Calls Try.prog 26 #[.string t, .slice a ts.length cap] w fun e w' => e = .returned (.bool (soughtB ts t)) ∧ Below w.heap.size w w' := by
  go_enter Try.func26, Try.ntmps26
  go_wp2_with fail
  refine (stemS_any t _ ht).mono ?_
  rintro e w1 ⟨rfl, hb1⟩
  have r1 := hr.below hb1
  clear hr
  have HSB : Hid (soughtB ts t = (!(stemA t).toList.isEmpty && hasT ts (stemA t))) := rfl
  generalize stemA t = x at *
  go_wp2
  go_loop [6] (fun i => ∃ k : Nat, k ≤ ts.length ∧ i = .int .i64 k ∧ (x.toList.isEmpty = false → noT ts x k = true)) (fun i => ts.length - (intOf i).toNat)
  case atStart => exact ⟨0, Nat.zero_le _, rfl, fun _ => rfl⟩
  case round =>
    obtain ⟨k, hk, rfl, hno⟩ := hrel
    have HN : Hid (x.toList.isEmpty = false → noT ts x k = true) := hno
    clear hno
    by_cases hlt : k < ts.length
    · obtain ⟨g, rfl, hg, hc⟩ := r1 (by omega)
      have c1 : w1.cell? ⟨g, k, none⟩ = some (.string (tat ts k)) := hc k hlt
      have HY : Hid (((tat ts k).toList == x.toList) = true → hasT ts x = true) := fun h => hasT_yes hlt h
      have HS : Hid (((tat ts k).toList == x.toList) = false → x.toList.isEmpty = false → noT ts x (k + 1) = true) := fun h h2 => noT_snoc (HN.out h2) h
      clear r1 hc
      generalize tat ts k = u at *
      cases h0 : x.toList.isEmpty with
      | true =>
        go_wp2
        go_round
        case rel => exact ⟨k + 1, by omega, by go_num, fun h => by cases h⟩
        case measure => simp [intOf]; omega
      | false =>
        cases he : (u.toList == x.toList) with
        | true =>
          have HT : Hid (soughtB ts t = true) := by unfold Hid; rw [HSB.out, HY.out he, h0]; rfl
          go_wp2
          go_ret
          exact ⟨ret_bool HT.out.symm, hb1⟩
        | false =>
          have HT : Hid (noT ts x (k + 1) = true) := HS.out he h0
          go_wp2
          go_round
          case rel => exact ⟨k + 1, by omega, by go_num, fun _ => HT.out⟩
          case measure => simp [intOf]; omega
    · have hkl : k = ts.length := by omega
      subst hkl
      have HF : Hid (soughtB ts t = false) := by
        unfold Hid
        rw [HSB.out]
        cases h0 : x.toList.isEmpty with
        | true => rfl
        | false => unfold hasT; rw [HN.out h0]; rfl
      clear r1
      go_wp2
      go_ret
      exact ⟨ret_bool HF.out.symm, hb1⟩
end Go.Proofs.Ytefdbcalfaojgaa
