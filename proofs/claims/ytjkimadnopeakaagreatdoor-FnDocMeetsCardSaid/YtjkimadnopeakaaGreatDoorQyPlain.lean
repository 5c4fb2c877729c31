/- When a question has a form. -/
import Derived.Test.YtjkimadnopeakaaGreatDoorQys
import Derived.Test.YtjkimadnopeakaaGreatDoorHintPlain
import Derived.Test.YtjkimadnopeakaaGreatDoorStem
import Derived.Test.YtjkimadnopeakaaGreatDoorMg0FnExactMeets
namespace Go.Proofs.YtjkimadnopeakaaGreatDoor
open Go.RowKit
set_option linter.unusedVariables false

theorem parts_wtx {s : ByteArray} (h : (hparts s).all isWordB = true) : wtx s = hparts s ∧ jw s (wtx s).length = s := by
  have hj : s = joinB (hparts s) := by apply ba_ext; exact (join_cuts 32 (manyB 32 s) s).symm
  have hp : 0 < (hparts s).length := cuts_pos 32 _ s
  have hw : wtx s = hparts s := by
    conv => lhs; rw [hj]
    exact wtx_join _ hp (fun p hp => List.all_eq_true.1 h p hp)
  refine ⟨hw, ?_⟩
  rw [jw_join s _ (Nat.le_refl _) (by rw [hw]; exact hp), List.take_of_length_le (Nat.le_refl _), hw]
  exact hj.symm
/-- How many words a text has, a blank between and nothing else. -/
theorem l5W_parts (s : ByteArray) : l5W s = if (hparts s).all isWordB = true then (hparts s).length else 0 := by
  cases h : (hparts s).all isWordB with
  | true =>
    obtain ⟨h1, h2⟩ := parts_wtx h
    rw [if_pos rfl]
    unfold l5W
    rw [h2, if_pos (by simp), h1]
  | false =>
    rw [if_neg (by simp)]
    have := mt (parts_same s).2 (by rw [h]; simp)
    omega
theorem l5W_one (s : ByteArray) : l5W s = 1 ↔ isWordB s = true := by
  constructor
  · intro h
    have h0 := (parts_same s).2 (by omega)
    rw [l5W_parts, if_pos h0] at h
    match hp : hparts s, h with
    | [p], _ =>
      have hj : s = joinB (hparts s) := by apply ba_ext; exact (join_cuts 32 (manyB 32 s) s).symm
      have e : joinB [p] = p := by
        unfold joinB
        simp [Lib.join]
      rw [hp, e] at hj
      have := List.all_eq_true.1 h0 p (by rw [hp]; simp)
      rw [hj]
      exact this
  · intro h
    have e : joinB [s] = s := by
      unfold joinB
      simp [Lib.join]
    have hw : wtx s = [s] := by
      conv => lhs; rw [← e]
      exact wtx_join _ (by simp) (fun p hp => by simp at hp; subst hp; exact h)
    unfold l5W
    rw [jw_join s _ (Nat.le_refl _) (by rw [hw]; simp), List.take_of_length_le (Nat.le_refl _), hw, e, if_pos (by simp)]
    rfl
def noB (s : ByteArray) : Bool := s.toList.isEmpty
/-- What may be looked for in texts. -/
def wantB (k : Int) (t : ByteArray) : Bool :=
  decide ((t.size : Int) ≤ 60) && (if k = 2 then isWordB t && !(stemA t).toList.isEmpty else if k = 4 then isWordB t && decide ((t.size : Int) ≤ 12) && foldEq t else (hparts t).all isWordB && decide (2 ≤ (hparts t).length) && decide ((hparts t).length ≤ 4))
def bdB (x : Int) : Bool := decide (-999999999 ≤ x) && decide (x ≤ 999999999)
def zeroB (lo hi : Int) : Bool := (lo == 0) && (hi == 0)
/-- A question without parts. -/
def leafB (k : Int) (f t : ByteArray) (lo hi : Int) : Bool :=
  if k = 1 then noB f && noB t && zeroB lo hi
  else if k = 2 ∨ k = 3 ∨ k = 4 then (noB f || nameI f) && wantB k t && zeroB lo hi
  else if k = 5 then nameI f && noB t && bdB lo && bdB hi
  else if k = 6 then nameI f && nameI t && zeroB lo hi
  else false
/-- A question of parts, but for these. -/
def manyPartsB (k : Int) (f t : ByteArray) (lo hi : Int) (n : Nat) : Bool :=
  (if k = 7 ∨ k = 8 then decide (2 ≤ n) && decide (n ≤ 4) else if k = 9 then n == 1 else false) && noB f && noB t && zeroB lo hi
def qformB : Nat → Qy → Bool
  | 0, _ => false
  | d + 1, q => if q.parts.length = 0 then leafB q.kind q.field q.text q.low q.high else manyPartsB q.kind q.field q.text q.low q.high q.parts.length && allTo (fun i => qformB d (qat q.parts i)) q.parts.length
end Go.Proofs.YtjkimadnopeakaaGreatDoor
