/- Contracts of impl.NameOk and spec.NameOk. -/
import Derived.Test.YtfakoalkbcnejaaDoorIn
import Derived.Test.YtfakoalkbcnejaaDoorLeaf
import Derived.Test.YtfakoalkbcnejaaDoorPlain
namespace Go.Proofs.YtfakoalkbcnejaaDoor
open Go.RowKit

def okB (n : Int) : Bool := smallB n || figureB n
def nameI (s : ByteArray) : Bool := !s.toList.isEmpty && decide ((s.size : Int) ≤ 8) && !figureB (byteAt s 0) && allTo (fun j => okB (byteAt s j)) s.size

theorem toList_size (s : ByteArray) : s.toList.length = s.size := by rw [ByteArray.toList_eq]; simp
theorem isEmpty_size (s : ByteArray) (h : s.toList.isEmpty = false) : 0 < s.size := by
  rw [← toList_size]
  cases hs : s.toList with
  | nil => rw [hs] at h; simp at h
  | cons a b => simp

set_option maxHeartbeats 400000 in
theorem nameI_any (s : ByteArray) (w : World) (hs : s.size ≤ maxLen) :
    Calls Tryd.prog 58 #[.string s] w fun e w' => e = .returned (.bool (nameI s)) ∧ w = w' := by
  unfold maxLen at hs
  cases he : s.toList.isEmpty with
  | true =>
    go_enter Tryd.func58, Tryd.ntmps58
    go_wp2
    go_ret
    exact ⟨by simp [nameI, he], rfl⟩
  | false =>
    have hp := isEmpty_size s he
    by_cases h8 : 8 < (s.size : Int)
    · go_enter Tryd.func58, Tryd.ntmps58
      go_wp2
      go_ret
      exact ⟨ret_bool (by simp [nameI, he]; omega), rfl⟩
    · have h8' : (s.size : Int) ≤ 8 := by omega
      have hb0 := byteAt_eq s 0 hp
      cases hf : figureB ((s[0]'hp).toNat : Int) with
      | true =>
        clear hb0
        go_enter Tryd.func58, Tryd.ntmps58
        go_wp2_with (go_at_call 83; refine (isFigure_any _ _).mono ?_; rintro e w' ⟨rfl, rfl⟩)
        go_ret
        exact ⟨ret_bool (by simp [nameI, byteAt_eq s 0 hp, hf]), rfl⟩
      | false =>
        clear hb0
        go_enter Tryd.func58, Tryd.ntmps58
        go_wp2_with (go_at_call 83; refine (isFigure_any _ _).mono ?_; rintro e w' ⟨rfl, rfl⟩)
        go_loop [18] (fun i => ∃ k : Nat, k ≤ s.size ∧ i = .int .i64 k ∧ allTo (fun j => okB (byteAt s j)) k = true) (fun i => s.size - (intOf i).toNat)
        case atStart => exact ⟨0, Nat.zero_le _, rfl, rfl⟩
        case round =>
          obtain ⟨k, hk, rfl, ha⟩ := hrel
          by_cases hlt : k < s.size
          · cases h1 : smallB ((s[k]'hlt).toNat : Int) <;> cases h2 : figureB ((s[k]'hlt).toNat : Int)
            all_goals
              go_wp2_with (first | (go_at_call 84; refine (isSmall_any _ _).mono ?_; rintro e w' ⟨rfl, rfl⟩) | (go_at_call 83; refine (isFigure_any _ _).mono ?_; rintro e w' ⟨rfl, rfl⟩))
            · go_ret
              exact ⟨ret_bool (by rw [nameI, allTo_false _ _ k hlt (by simp [okB, byteAt_eq s k hlt, h1, h2])]; simp), rfl⟩
            all_goals
              go_round
              case rel => exact ⟨k + 1, by omega, by go_num, allTo_snoc _ _ ha (by simp [okB, byteAt_eq s k hlt, h1, h2])⟩
              case measure => simp [intOf]; omega
          · have hk' : k = s.size := by omega
            subst hk'
            go_wp2
            go_ret
            exact ⟨ret_bool (by simp [nameI, he, h8', byteAt_eq s 0 hp, hf, ha]), rfl⟩

def okS (s : ByteArray) (j : Nat) : Bool := smallB (byteAt s j) || ((j : Int) != 0 && figureB (byteAt s j))
def nameS (s : ByteArray) : Bool := allTo (okS s) s.size && inB s.size 1 8

set_option maxHeartbeats 400000 in
theorem nameS_any (s : ByteArray) (w : World) (hs : s.size ≤ maxLen) :
    Calls Tryd.prog 67 #[.string s] w fun e w' => e = .returned (.bool (nameS s)) ∧ w = w' := by
  unfold maxLen at hs
  go_enter Tryd.func67, Tryd.ntmps67
  go_wp2
  go_loop [3] (fun i => ∃ k : Nat, k ≤ s.size ∧ i = .int .i64 k ∧ allTo (okS s) k = true) (fun i => s.size - (intOf i).toNat)
  case atStart => exact ⟨0, Nat.zero_le _, rfl, rfl⟩
  case round =>
    obtain ⟨k, hk, rfl, ha⟩ := hrel
    by_cases hlt : k < s.size
    · have hb := byteAt_eq s k hlt
      have hbd := byteAt_bd s k
      rw [hb] at hbd
      have HB : Hid (byteAt s k = ((s[k]'hlt).toNat : Int)) := hb
      clear hb
      rcases (show (97 ≤ ((s[k]'hlt).toNat : Int) ∧ ((s[k]'hlt).toNat : Int) ≤ 122) ∨ (((s[k]'hlt).toNat : Int) < 97 ∧ k = 0) ∨ (122 < ((s[k]'hlt).toNat : Int) ∧ k = 0) ∨ (¬ k = 0 ∧ ((s[k]'hlt).toNat : Int) < 48) ∨ (¬ k = 0 ∧ 48 ≤ ((s[k]'hlt).toNat : Int) ∧ ((s[k]'hlt).toNat : Int) ≤ 57) ∨ (¬ k = 0 ∧ 57 < ((s[k]'hlt).toNat : Int) ∧ ((s[k]'hlt).toNat : Int) < 97) ∨ (¬ k = 0 ∧ 122 < ((s[k]'hlt).toNat : Int)) from by omega) with ⟨h1, h2⟩ | ⟨h1, rfl⟩ | ⟨h1, rfl⟩ | ⟨h0, h1⟩ | ⟨h0, h1, h2⟩ | ⟨h0, h1, h2⟩ | ⟨h0, h1⟩
      · go_wp2
        go_round
        case rel => exact ⟨k + 1, by omega, by go_num, allTo_snoc _ _ ha (by simp [okS, HB.out, smallB, h1, h2])⟩
        case measure => simp [intOf]; omega
      · go_wp2
        go_ret
        exact ⟨ret_bool (by rw [nameS, allTo_false _ _ 0 hlt (by simp [okS, HB.out, smallB]; omega)]; simp), rfl⟩
      · have d1 : decide (((s[0]'hlt).toNat : Int) ≤ 122) = false := by simp; omega
        go_wp2
        go_ret
        exact ⟨ret_bool (by rw [nameS, allTo_false _ _ 0 hlt (by simp [okS, HB.out, smallB]; omega)]; simp), rfl⟩
      · have d0 : ((k : Int) == 0) = false := by simp; omega
        go_wp2
        go_ret
        exact ⟨ret_bool (by rw [nameS, allTo_false _ _ k hlt (by simp [okS, HB.out, smallB, figureB]; omega)]; simp), rfl⟩
      · have d0 : ((k : Int) == 0) = false := by simp; omega
        have d2 : decide (((s[k]'hlt).toNat : Int) < 48) = false := by simp; omega
        have d3 : decide (57 < ((s[k]'hlt).toNat : Int)) = false := by simp; omega
        go_wp2
        go_round
        case rel => exact ⟨k + 1, by omega, by go_num, allTo_snoc _ _ ha (by simp [okS, HB.out, figureB, h1, h2, h0])⟩
        case measure => simp [intOf]; omega
      · have d0 : ((k : Int) == 0) = false := by simp; omega
        go_wp2
        go_ret
        exact ⟨ret_bool (by rw [nameS, allTo_false _ _ k hlt (by simp [okS, HB.out, smallB, figureB]; omega)]; simp), rfl⟩
      · have d0 : ((k : Int) == 0) = false := by simp; omega
        have d1 : decide (((s[k]'hlt).toNat : Int) ≤ 122) = false := by simp; omega
        have d3 : decide (57 < ((s[k]'hlt).toNat : Int)) = true := by simp; omega
        go_wp2
        go_ret
        exact ⟨ret_bool (by rw [nameS, allTo_false _ _ k hlt (by simp [okS, HB.out, smallB, figureB]; omega)]; simp), rfl⟩
    · have hk' : k = s.size := by omega
      subst hk'
      go_wp2_with (go_at_call 63; refine (l1In_any _ _ _ _).mono ?_; rintro e w' ⟨rfl, rfl⟩)
      go_ret
      exact ⟨ret_bool (by simp [nameS, ha]), rfl⟩
/-- Both answer the same. -/
theorem name_same (s : ByteArray) : nameI s = nameS s := by
  rw [Bool.eq_iff_iff]
  have hL := toList_size s
  simp only [nameI, nameS, inB, Bool.and_eq_true, allTo_iff, okB, okS, Bool.or_eq_true, decide_eq_true_eq, Bool.not_eq_true']
  constructor
  · rintro ⟨⟨⟨h1, h2⟩, h3⟩, h4⟩
    have := isEmpty_size s h1
    refine ⟨fun j hj => ?_, by omega, by omega⟩
    rcases h4 j hj with h | h
    · exact .inl h
    · by_cases e : j = 0
      · subst e; rw [h3] at h; cases h
      · exact .inr ⟨by simpa using e, h⟩
  · rintro ⟨h1, h2, h3⟩
    have hp : 0 < s.size := by omega
    have h0 := h1 0 hp
    simp only [Int.ofNat_zero, bne_self_eq_false, Bool.false_eq_true, false_and, or_false] at h0
    refine ⟨⟨⟨?_, by omega⟩, ?_⟩, fun j hj => ?_⟩
    · cases hs : s.toList with
      | nil => rw [hs] at hL; simp at hL; omega
      | cons a b => rfl
    · simp only [smallB, figureB, Bool.and_eq_true, decide_eq_true_eq] at h0 ⊢
      simp; omega
    · rcases h1 j hj with h | ⟨_, h⟩
      · exact .inl h
      · exact .inr h
end Go.Proofs.YtfakoalkbcnejaaDoor
