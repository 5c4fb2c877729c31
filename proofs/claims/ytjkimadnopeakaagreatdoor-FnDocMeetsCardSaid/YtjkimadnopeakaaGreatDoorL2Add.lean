/- l2Add, l2Tags, l1Number, l2Cell of the model. -/
import Derived.Test.YtjkimadnopeakaaGreatDoorMg0FnExactMeets
import Derived.Test.YtjkimadnopeakaaGreatDoorAddS
namespace Go.Proofs.YtjkimadnopeakaaGreatDoor
open Go.RowKit
set_option linter.unusedVariables false

theorem l1Number_any (s : ByteArray) (w : World) (hs : s.size ≤ 1048576) :
    Calls Tryz.prog 74 #[.string s] w fun e w' => ∃ v : Int, e = .returned (.tuple #[.int .i64 v, .bool (numS s)]) ∧ (numT s = true → v = numV s) ∧ w' = w := by
  by_cases h1 : 1 < s.size
  · have h1i : (1 : Int) < (s.size : Int) := by omega
    have hbe := byteAt_eq s 0 (by omega)
    by_cases hb : byteAt s 0 = 45
    · have hbb : (((s[0]'(by omega)).toNat : Int) == 45) = true := by rw [← hbe, hb]; rfl
      have HN : Hid (numS s = decide (0 < figR (s.extract 1 s.size))) := by unfold Hid numS; rw [show (decide (1 < s.size) && decide (byteAt s 0 = 45)) = true from by simp [h1, hb]]; rfl
      have hbl : below0 s = true := by unfold below0; simp [hb]; omega
      have HV : Hid (numT s = true → -(figR (s.extract 1 s.size)) = numV s) := fun h => by
        unfold numT at h
        rw [hbl] at h
        simp only [if_true, Bool.and_eq_true] at h
        unfold numV
        rw [hbl, figR_yes h.1]
        rfl
      have hfb : -1 ≤ figR (s.extract 1 s.size) ∧ figR (s.extract 1 s.size) ≤ 999999999 := by
        cases hf : figB (s.extract 1 s.size) with
        | false => rw [figR_no hf]; omega
        | true => rw [figR_yes hf]; have := numB_bd _ hf; omega
      clear hbe
      go_enter Tryz.func74, Tryz.ntmps74
      go_wp2_with fail
      refine (l1Figures_any (s.extract 1 s.size) _ (by rw [ByteArray.size_extract]; omega)).mono ?_
      rintro e w1 ⟨rfl, rfl⟩
      generalize figR (s.extract 1 s.size) = r at *
      go_wp2
      go_ret2
      exact ⟨-r, by rw [HN.out]; rfl, HV.out, rfl⟩
    · have hbb : (((s[0]'(by omega)).toNat : Int) == 45) = false := by rw [← hbe]; simpa using hb
      have HN : Hid (numS s = decide (0 ≤ figR s)) := by unfold Hid numS; rw [show (decide (1 < s.size) && decide (byteAt s 0 = 45)) = false from by simp [hb]]; rfl
      have hbl : below0 s = false := by unfold below0; simp [hb]
      have HV : Hid (numT s = true → figR s = numV s) := fun h => by
        unfold numT at h
        rw [hbl] at h
        simp only [Bool.false_eq_true, if_false] at h
        unfold numV
        rw [hbl, figR_yes h]
        rfl
      clear hbe
      go_enter Tryz.func74, Tryz.ntmps74
      go_wp2_with fail
      refine (l1Figures_any s _ hs).mono ?_
      rintro e w1 ⟨rfl, rfl⟩
      generalize figR s = r at *
      go_wp2
      go_ret2
      exact ⟨r, by rw [HN.out]; rfl, HV.out, rfl⟩
  · have h1i : decide ((1 : Int) < (s.size : Int)) = false := decide_eq_false (by omega)
    have HN : Hid (numS s = decide (0 ≤ figR s)) := by unfold Hid numS; rw [show (decide (1 < s.size) && decide (byteAt s 0 = 45)) = false from by simp; omega]; rfl
    have HV : Hid (numT s = true → figR s = numV s) := fun h => by
      cases hbl : below0 s with
      | false =>
        unfold numT at h
        rw [hbl] at h
        simp only [Bool.false_eq_true, if_false] at h
        unfold numV
        rw [hbl, figR_yes h]
        rfl
      | true =>
        rw [← num_same] at h
        unfold below0 at hbl
        simp only [Bool.and_eq_true, decide_eq_true_eq] at hbl
        unfold numS at h
        rw [show (decide (1 < s.size) && decide (byteAt s 0 = 45)) = false from by simp; omega] at h
        simp only [Bool.false_eq_true, if_false, decide_eq_true_eq] at h
        rw [figR_no (figB_dash hbl.1 hbl.2)] at h
        omega
    go_enter Tryz.func74, Tryz.ntmps74
    go_wp2_with fail
    refine (l1Figures_any s _ hs).mono ?_
    rintro e w1 ⟨rfl, rfl⟩
    generalize figR s = r at *
    go_wp2
    go_ret2
    exact ⟨r, by rw [HN.out]; rfl, HV.out, rfl⟩
end Go.Proofs.YtjkimadnopeakaaGreatDoor
