/- Contracts of withoutMany, isFiller, impl.Stem, and of spec.l1Stop, spec.Stem. -/
import Derived.Test.YtjkimadnopeakaaGreatDoorFold
import Derived.Deep.DeepCutAuto
namespace Go.Proofs.YtjkimadnopeakaaGreatDoor
open Go.RowKit

def cut12 (s : ByteArray) : ByteArray := if 12 < s.size then s.extract 0 12 else s
def plurB (s : ByteArray) : Bool := decide (3 < s.size) && (byteAt s (s.size - 1) == 115) && (byteAt s (s.size - 2) != 115)
def withoutA (s : ByteArray) : ByteArray := if plurB s then s.extract 0 (s.size - 1) else s
def fillB (s : ByteArray) : Bool := s.toList == [97] || s.toList == [97, 110] || s.toList == [97, 110, 100] || s.toList == [111, 102] || s.toList == [116, 104, 101] || s.toList == [116, 111]
def fillers : List (List UInt8) := [[97], [97, 110], [97, 110, 100], [111, 102], [116, 104, 101], [116, 111]]
theorem fillB_eq (s : ByteArray) : fillB s = fillers.any (· == s.toList) := by
  rw [Bool.eq_iff_iff]
  simp [fillB, fillers, or_assoc]
  constructor <;> (intro h; rcases h with h | h | h | h | h | h <;> simp [h])
theorem fill_hit (s : ByteArray) (f : List UInt8) (hm : f ∈ fillers) (h : (f == s.toList) = true) : fillB s = true := by
  rw [fillB_eq, List.any_eq_true]
  exact ⟨f, hm, h⟩
theorem fill_step (s : ByteArray) (k : Nat) (f : List UInt8) (hf : fillers[k]? = some f) (h : (fillers.take k).any (· == s.toList) = false) (hn : (f == s.toList) = false) : (fillers.take (k + 1)).any (· == s.toList) = false := by
  rw [List.take_add_one, hf, List.any_append, h]
  simp only [Option.toList_some, List.any_cons, List.any_nil, hn, Bool.or_self]
theorem fill_none (s : ByteArray) (h : (fillers.take 6).any (· == s.toList) = false) : fillB s = false := by
  rw [fillB_eq]
  exact h
theorem foldA_size (s : ByteArray) : (foldA s).size = s.size := by
  show (s.data.toList.map lowU).toArray.size = _
  simp
theorem cut12_size (s : ByteArray) : (cut12 s).size ≤ s.size := by
  unfold cut12
  split
  · simp; omega
  · exact Nat.le_refl _
def stemA (s : ByteArray) : ByteArray := if fillB (withoutA (cut12 (foldA s))) then ⟨#[]⟩ else withoutA (cut12 (foldA s))

set_option maxHeartbeats 400000 in
theorem withoutMany_any (s : ByteArray) (w : World) (hs : s.size ≤ maxLen) :
    Calls Tryz.prog 139 #[.string s] w fun e w' => e = .returned (.string (withoutA s)) ∧ w = w' := by
  unfold maxLen at hs
  by_cases h3 : 3 < (s.size : Int)
  · have p1 : s.size - 1 < s.size := by omega
    have p2 : s.size - 2 < s.size := by omega
    have e1 := byteAt_eq s _ p1
    have e2 := byteAt_eq s _ p2
    have E1 : Hid (byteAt s (s.size - 1) = ((s[s.size - 1]'p1).toNat : Int)) := e1
    have E2 : Hid (byteAt s (s.size - 2) = ((s[s.size - 2]'p2).toNat : Int)) := e2
    clear e1 e2
    have q3 : 3 < s.size := by omega
    cases h1 : (((s[s.size - 1]'p1).toNat : Int) == 115) <;> cases h2 : (((s[s.size - 2]'p2).toNat : Int) != 115)
    all_goals
      go_enter Tryz.func139, Tryz.ntmps139
      go_wp2
      go_ret
      exact ⟨ret_string (by simp [withoutA, plurB, E1.out, E2.out, h1, h2, q3]), rfl⟩
  · have q3 : ¬ 3 < s.size := by omega
    go_enter Tryz.func139, Tryz.ntmps139
    go_wp2
    go_ret
    exact ⟨ret_string (by simp [withoutA, plurB, q3]), rfl⟩

theorem isFiller_any (s : ByteArray) (w : World) :
    Calls Tryz.prog 140 #[.string s] w fun e w' => e = .returned (.bool (fillB s)) ∧ w = w' := by
  go_enter Tryz.func140, Tryz.ntmps140
  go_wp2
  all_goals
    go_ret
    exact ⟨ret_bool (by simp_all [fillB]), rfl⟩

theorem l1Stop_any (s : ByteArray) (w : World) :
    Calls Tryz.prog 161 #[.string s] w fun e w' => e = .returned (.bool (fillB s)) ∧ Below w.heap.size w w' := by
  go_enter Tryz.func161, Tryz.ntmps161
  go_wp2
  go_loop [4] (fun i => ∃ k : Nat, k ≤ 6 ∧ i = .int .i64 k ∧ (fillers.take k).any (· == s.toList) = false) (fun i => 6 - (intOf i).toNat)
  case atStart => exact ⟨0, by omega, rfl, rfl⟩
  case round =>
    obtain ⟨k, hk, rfl, ha⟩ := hrel
    have HA : Hid ((fillers.take k).any (· == s.toList) = false) := ha
    clear ha
    rcases (show k = 0 ∨ k = 1 ∨ k = 2 ∨ k = 3 ∨ k = 4 ∨ k = 5 ∨ k = 6 from by omega) with rfl | rfl | rfl | rfl | rfl | rfl | rfl
    · cases hc : (([97] : List UInt8) == s.toList) with
      | true =>
        go_wp2
        go_ret
        exact ⟨ret_bool (fill_hit s _ (by decide) hc).symm, (Below.refl _ w).alloc (Nat.le_refl _) _⟩
      | false =>
        go_wp2
        go_round
        case rel => exact ⟨1, by omega, by go_num, fill_step s 0 _ rfl HA.out hc⟩
        case measure => simp [intOf]
    · cases hc : (([97, 110] : List UInt8) == s.toList) with
      | true =>
        go_wp2
        go_ret
        exact ⟨ret_bool (fill_hit s _ (by decide) hc).symm, (Below.refl _ w).alloc (Nat.le_refl _) _⟩
      | false =>
        go_wp2
        go_round
        case rel => exact ⟨2, by omega, by go_num, fill_step s 1 _ rfl HA.out hc⟩
        case measure => simp [intOf]
    · cases hc : (([97, 110, 100] : List UInt8) == s.toList) with
      | true =>
        go_wp2
        go_ret
        exact ⟨ret_bool (fill_hit s _ (by decide) hc).symm, (Below.refl _ w).alloc (Nat.le_refl _) _⟩
      | false =>
        go_wp2
        go_round
        case rel => exact ⟨3, by omega, by go_num, fill_step s 2 _ rfl HA.out hc⟩
        case measure => simp [intOf]
    · cases hc : (([111, 102] : List UInt8) == s.toList) with
      | true =>
        go_wp2
        go_ret
        exact ⟨ret_bool (fill_hit s _ (by decide) hc).symm, (Below.refl _ w).alloc (Nat.le_refl _) _⟩
      | false =>
        go_wp2
        go_round
        case rel => exact ⟨4, by omega, by go_num, fill_step s 3 _ rfl HA.out hc⟩
        case measure => simp [intOf]
    · cases hc : (([116, 104, 101] : List UInt8) == s.toList) with
      | true =>
        go_wp2
        go_ret
        exact ⟨ret_bool (fill_hit s _ (by decide) hc).symm, (Below.refl _ w).alloc (Nat.le_refl _) _⟩
      | false =>
        go_wp2
        go_round
        case rel => exact ⟨5, by omega, by go_num, fill_step s 4 _ rfl HA.out hc⟩
        case measure => simp [intOf]
    · cases hc : (([116, 111] : List UInt8) == s.toList) with
      | true =>
        go_wp2
        go_ret
        exact ⟨ret_bool (fill_hit s _ (by decide) hc).symm, (Below.refl _ w).alloc (Nat.le_refl _) _⟩
      | false =>
        go_wp2
        go_round
        case rel => exact ⟨6, by omega, by go_num, fill_step s 5 _ rfl HA.out hc⟩
        case measure => simp [intOf]
    · go_wp2
      go_ret
      exact ⟨ret_bool (fill_none s HA.out).symm, (Below.refl _ w).alloc (Nat.le_refl _) _⟩

set_option maxHeartbeats 400000 in
theorem stemI_any (s : ByteArray) (w : World) (hs : s.size ≤ maxLen) :
    Calls Tryz.prog 111 #[.string s] w fun e w' => e = .returned (.string (stemA s)) ∧ Below w.heap.size w w' := by
  have hsz := foldA_size s
  unfold maxLen at hs
  by_cases h12 : 12 < (s.size : Int)
  · have HX : Hid (cut12 (foldA s) = (foldA s).extract 0 12) := by unfold Hid; rw [cut12, if_pos (by omega)]
    go_enter Tryz.func111, Tryz.ntmps111
    go_wp2_with fail
    refine (foldI_any _ _ (by unfold maxLen; omega)).mono ?_
    rintro e w1 ⟨rfl, hb1⟩
    go_wp2_with fail
    rw [← HX.out]
    refine (withoutMany_any _ _ (by unfold maxLen; have := cut12_size (foldA s); omega)).mono ?_
    rintro e _ ⟨rfl, rfl⟩
    go_wp2_with fail
    cases hf : fillB (withoutA (cut12 (foldA s)))
    all_goals
      refine (isFiller_any _ _).mono ?_
      rintro e _ ⟨rfl, rfl⟩
      rw [hf]
      go_wp2
      go_ret
      exact ⟨ret_string (by simp [stemA, hf]), hb1⟩
  · have HX : Hid (cut12 (foldA s) = foldA s) := by unfold Hid; rw [cut12, if_neg (by omega)]
    go_enter Tryz.func111, Tryz.ntmps111
    go_wp2_with fail
    refine (foldI_any _ _ (by unfold maxLen; omega)).mono ?_
    rintro e w1 ⟨rfl, hb1⟩
    go_wp2_with fail
    refine (withoutMany_any _ _ (by unfold maxLen; omega)).mono ?_
    rintro e _ ⟨rfl, rfl⟩
    go_wp2_with fail
    cases hf : fillB (withoutA (foldA s))
    all_goals
      refine (isFiller_any _ _).mono ?_
      rintro e _ ⟨rfl, rfl⟩
      rw [hf]
      go_wp2
      go_ret
      exact ⟨ret_string (by simp [stemA, HX.out, hf]), hb1⟩

set_option maxHeartbeats 400000 in
theorem stemS_any (s : ByteArray) (w : World) (hs : s.size ≤ 1099511627776) :
    Calls Tryz.prog 150 #[.string s] w fun e w' => e = .returned (.string (stemA s)) ∧ Below w.heap.size w w' := by
  have hsz := foldA_size s
  go_enter Tryz.func150, Tryz.ntmps150
  go_wp2_with fail
  refine (foldS_any _ _ hs).mono ?_
  rintro e w1 ⟨rfl, hb1⟩
  go_upto_if 9 with fail
  go_cut [3] (fun x wx => x = .string (cut12 (foldA s)) ∧ wx = w1)
  case first =>
    by_cases h12 : 12 < (s.size : Int)
    · have HX : Hid (cut12 (foldA s) = (foldA s).extract 0 12) := by unfold Hid; rw [cut12, if_pos (by omega)]
      go_wp2
      go_meet
      case rel => exact ⟨by rw [HX.out], rfl⟩
    · have HX : Hid (cut12 (foldA s) = foldA s) := by unfold Hid; rw [cut12, if_neg (by omega)]
      go_wp2
      go_meet
      case rel => exact ⟨by rw [HX.out], rfl⟩
  case rest =>
    obtain ⟨rfl, rfl⟩ := hcut
    have hXs := cut12_size (foldA s)
    have HS : Hid (stemA s = if fillB (withoutA (cut12 (foldA s))) then ⟨#[]⟩ else withoutA (cut12 (foldA s))) := rfl
    generalize cut12 (foldA s) = X at *
    by_cases h3 : 3 < (X.size : Int)
    · have p1 : X.size - 1 < X.size := by omega
      have p2 : X.size - 2 < X.size := by omega
      have E1 : Hid (byteAt X (X.size - 1) = ((X[X.size - 1]'p1).toNat : Int)) := byteAt_eq X _ p1
      have E2 : Hid (byteAt X (X.size - 2) = ((X[X.size - 2]'p2).toNat : Int)) := byteAt_eq X _ p2
      have q3 : 3 < X.size := by omega
      cases h1 : (((X[X.size - 1]'p1).toNat : Int) == 115) <;> cases h2 : (((X[X.size - 2]'p2).toNat : Int) != 115)
      case true.true =>
        have HW : Hid (withoutA X = X.extract 0 (X.size - 1)) := by unfold Hid; simp [withoutA, plurB, E1.out, E2.out, h1, h2, q3]
        go_wp2_with fail
        refine (l1Stop_any _ _).mono ?_
        rintro e w2 ⟨rfl, hb2⟩
        rw [← HW.out]
        cases hf : fillB (withoutA X)
        all_goals
          go_wp2
          go_ret
          exact ⟨ret_string (by rw [HS.out, hf]; simp [HW.out]), hb1.trans (hb2.mono hb1.size)⟩
      all_goals
        have HW : Hid (withoutA X = X) := by unfold Hid; simp [withoutA, plurB, E1.out, E2.out, h1, h2, q3]
        go_wp2_with fail
        refine (l1Stop_any _ _).mono ?_
        rintro e w2 ⟨rfl, hb2⟩
        cases hf : fillB X
        all_goals
          go_wp2
          go_ret
          exact ⟨ret_string (by rw [HS.out, HW.out, hf]; simp), hb1.trans (hb2.mono hb1.size)⟩
    · have q3 : ¬ 3 < X.size := by omega
      have HW : Hid (withoutA X = X) := by unfold Hid; simp [withoutA, plurB, q3]
      go_wp2_with fail
      refine (l1Stop_any _ _).mono ?_
      rintro e w2 ⟨rfl, hb2⟩
      cases hf : fillB X
      all_goals
        go_wp2
        go_ret
        exact ⟨ret_string (by rw [HS.out, HW.out, hf]; simp), hb1.trans (hb2.mono hb1.size)⟩
end Go.Proofs.YtjkimadnopeakaaGreatDoor
