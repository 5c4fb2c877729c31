/- QyPlain, KindB, in one text. -/
import Derived.Test.YtjkimadnopeakaaGreatDoorQys
import Derived.Test.YtjkimadnopeakaaGreatDoorHintPlain
import Derived.Test.YtjkimadnopeakaaGreatDoorStem
import Derived.Test.YtjkimadnopeakaaGreatDoorMg0FnExactMeets
/- When a question has a form. -/
namespace Go.Proofs.YtjkimadnopeakaaGreatDoor
open Go.RowKit
set_option linter.unusedVariables false

theorem parts_wtx {s : ByteArray} (h : (hparts s).all isWordB = true) : wtx s = hparts s ∧ jw s (wtx s).length = s := by
  have hj : s = joinB (hparts s) := by apply ba_ext; exact (join_cuts 32 (manyB 32 s) s).symm
  have hp : 0 < (hparts s).length := cuts_pos 32 _ s
  have hw : wtx s = hparts s := by
    conv => lhs; rw [hj]
    exact wtx_join _ hp (fun p hp => List.all_eq_true.1 h p hp)
  refine ⟨hw, ?_⟩
  rw [jw_join s _ (Nat.le_refl _) (by rw [hw]; exact hp), List.take_of_length_le (Nat.le_refl _), hw]
  exact hj.symm
/-- How many words a text has, a blank between and nothing else. -/
theorem l5W_parts (s : ByteArray) : l5W s = if (hparts s).all isWordB = true then (hparts s).length else 0 := by
  cases h : (hparts s).all isWordB with
  | true =>
    obtain ⟨h1, h2⟩ := parts_wtx h
    rw [if_pos rfl]
    unfold l5W
    rw [h2, if_pos (by simp), h1]
  | false =>
    rw [if_neg (by simp)]
    have := mt (parts_same s).2 (by rw [h]; simp)
    omega
theorem l5W_one (s : ByteArray) : l5W s = 1 ↔ isWordB s = true := by
  constructor
  · intro h
    have h0 := (parts_same s).2 (by omega)
    rw [l5W_parts, if_pos h0] at h
    match hp : hparts s, h with
    | [p], _ =>
      have hj : s = joinB (hparts s) := by apply ba_ext; exact (join_cuts 32 (manyB 32 s) s).symm
      have e : joinB [p] = p := by
        unfold joinB
        simp [Lib.join]
      rw [hp, e] at hj
      have := List.all_eq_true.1 h0 p (by rw [hp]; simp)
      rw [hj]
      exact this
  · intro h
    have e : joinB [s] = s := by
      unfold joinB
      simp [Lib.join]
    have hw : wtx s = [s] := by
      conv => lhs; rw [← e]
      exact wtx_join _ (by simp) (fun p hp => by simp at hp; subst hp; exact h)
    unfold l5W
    rw [jw_join s _ (Nat.le_refl _) (by rw [hw]; simp), List.take_of_length_le (Nat.le_refl _), hw, e, if_pos (by simp)]
    rfl
def noB (s : ByteArray) : Bool := s.toList.isEmpty
/-- What may be looked for in texts. -/
def wantB (k : Int) (t : ByteArray) : Bool :=
  decide ((t.size : Int) ≤ 60) && (if k = 2 then isWordB t && !(stemA t).toList.isEmpty else if k = 4 then isWordB t && decide ((t.size : Int) ≤ 12) && foldEq t else (hparts t).all isWordB && decide (2 ≤ (hparts t).length) && decide ((hparts t).length ≤ 4))
def bdB (x : Int) : Bool := decide (-999999999 ≤ x) && decide (x ≤ 999999999)
def zeroB (lo hi : Int) : Bool := (lo == 0) && (hi == 0)
/-- A question without parts. -/
def leafB (k : Int) (f t : ByteArray) (lo hi : Int) : Bool :=
  if k = 1 then noB f && noB t && zeroB lo hi
  else if k = 2 ∨ k = 3 ∨ k = 4 then (noB f || nameI f) && wantB k t && zeroB lo hi
  else if k = 5 then nameI f && noB t && bdB lo && bdB hi
  else if k = 6 then nameI f && nameI t && zeroB lo hi
  else false
/-- A question of parts, but for these. -/
def manyPartsB (k : Int) (f t : ByteArray) (lo hi : Int) (n : Nat) : Bool :=
  (if k = 7 ∨ k = 8 then decide (2 ≤ n) && decide (n ≤ 4) else if k = 9 then n == 1 else false) && noB f && noB t && zeroB lo hi
def qformB : Nat → Qy → Bool
  | 0, _ => false
  | d + 1, q => if q.parts.length = 0 then leafB q.kind q.field q.text q.low q.high else manyPartsB q.kind q.field q.text q.low q.high q.parts.length && allTo (fun i => qformB d (qat q.parts i)) q.parts.length
end Go.Proofs.YtjkimadnopeakaaGreatDoor

/- Is a field of a kind? -/
namespace Go.Proofs.YtjkimadnopeakaaGreatDoor
open Go.RowKit
set_option linter.unusedVariables false

def kindB (fs : List Fld) (n : ByteArray) (k : Int) : Bool := (fat fs (fidx fs n)).kind == k
set_option maxHeartbeats 1000000 in
theorem l2Kind_any (a : Option Addr) (cap : Nat) (fs : List Fld) (n : ByteArray) (k : Int) (w : World) (hk0 : k ≠ 0) (hz : fs.length ≤ 1048576) (hr : FldRow w a fs) :
    Calls Tryz.prog 73 #[.slice a fs.length cap, .string n, .int .i64 k] w fun e w' => e = .returned (.bool (kindB fs n k)) ∧ w' = w := by
  have HL : Hid (Calls Tryz.prog 51 #[.slice a fs.length cap, .string n] w fun e w' => ∃ p : Int, e = .returned (.int .i64 p) ∧ FPos fs n p ∧ w' = w) := l2Field_any a cap fs n w hz hr
  go_enter Tryz.func73, Tryz.ntmps73
  go_wp2_with fail
  refine HL.out.mono ?_
  rintro e w1 ⟨q, rfl, hq, rfl⟩
  clear HL
  rcases fpos_idx hq with ⟨j, rfl, hj, hi⟩ | ⟨rfl, hi⟩
  · have HB : Hid (kindB fs n k = ((fat fs j).kind == k)) := by unfold Hid kindB; rw [hi]
    obtain ⟨g, off, rfl, hg, hc⟩ := hr (by omega)
    obtain ⟨c0, c1, c2⟩ := hc j hj
    have h0 : (0 : Int) ≤ (j : Int) := by omega
    have h1 : (j : Int) < (fs.length : Int) := by omega
    clear hq hi hr hc
    generalize fat fs j = f at *
    go_wp2
    go_ret
    exact ⟨by rw [HB.out]; rfl, rfl⟩
  · have HB : Hid (kindB fs n k = false) := by
      unfold Hid kindB
      rw [hi]
      simp [fat]
      exact fun e => hk0 e.symm
    clear hq hi hr
    go_wp2
    go_ret
    exact ⟨by rw [HB.out]; rfl, rfl⟩
end Go.Proofs.YtjkimadnopeakaaGreatDoor
