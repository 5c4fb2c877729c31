/- Does a document meet a question? -/
import Derived.Test.YtjkimadnopeakaaGreatDoorDocTags
import Derived.Test.YtjkimadnopeakaaGreatDoorDocNum
import Derived.Test.YtjkimadnopeakaaGreatDoorQyFitsOk
import Derived.Test.YtjkimadnopeakaaGreatDoorTermsS
import Derived.Test.YtjkimadnopeakaaGreatDoorBegins
namespace Go.Proofs.YtjkimadnopeakaaGreatDoor
open Go.RowKit
set_option linter.unusedVariables false

def anyTo (f : Nat → Bool) : Nat → Bool
  | 0 => false
  | k + 1 => anyTo f k || f k
theorem anyTo_iff (f : Nat → Bool) : ∀ k, anyTo f k = true ↔ ∃ j, j < k ∧ f j = true
  | 0 => by simp [anyTo]
  | k + 1 => by
    simp only [anyTo, Bool.or_eq_true, anyTo_iff f k]
    constructor
    · rintro (⟨j, hj, h⟩ | h)
      · exact ⟨j, by omega, h⟩
      · exact ⟨k, by omega, h⟩
    · rintro ⟨j, hj, h⟩
      by_cases e : j = k
      · subst e; exact .inr h
      · exact .inl ⟨j, by omega, h⟩
theorem anyTo_yes {f : Nat → Bool} {n k : Nat} (hk : k < n) (h : f k = true) : anyTo f n = true := (anyTo_iff f n).2 ⟨k, hk, h⟩
theorem anyTo_snoc {f : Nat → Bool} {k : Nat} (h : anyTo f k = false) (hf : f k = false) : anyTo f (k + 1) = false := by simp [anyTo, h, hf]
theorem anyTo_not (f : Nat → Bool) : ∀ k, anyTo (fun i => !f i) k = !allTo f k
  | 0 => rfl
  | k + 1 => by simp only [anyTo, allTo, anyTo_not f k, Bool.not_and]
/-- Words stand from place i on. -/
def runAt (ts ss : List ByteArray) (i : Nat) : Bool := decide ((ts.drop i).take ss.length = ss)
/-- Words stand side by side among others. -/
def runB (ts ss : List ByteArray) : Bool := anyTo (runAt ts ss) (ts.length + 1 - ss.length)
def someBeg (ts : List ByteArray) (b : ByteArray) : Bool := anyTo (fun i => preB b (ts.getD i ⟨#[]⟩)) ts.length
def textM (k : Int) (t : ByteArray) (ts : List ByteArray) : Bool := if k = 4 then someBeg ts t else runB ts (termsL t)
def cellM (fs : List Fld) (cs : List Cel) (f : ByteArray) (P : List ByteArray → Bool) (i : Nat) : Bool := kindB fs (cat cs i).name 1 && (noB f || f.toList == (cat cs i).name.toList) && P (termsL (cat cs i).text)
def leafM (fs : List Fld) (key : ByteArray) (cs : List Cel) (k : Int) (f t : ByteArray) (lo hi : Int) : Bool :=
  if k = 1 then true
  else if k = 5 then dhas fs key cs f && (decide (lo ≤ dnum fs key cs f) && decide (dnum fs key cs f ≤ hi))
  else if k = 6 then Lib.containsS (dtags fs key cs f) t
  else anyTo (cellM fs cs f (textM k t)) cs.length
/-- A document meets a question whose parts are at most D deep. -/
def meetsQ (fs : List Fld) (key : ByteArray) (cs : List Cel) : Nat → Qy → Bool
  | 0, q => leafM fs key cs q.kind q.field q.text q.low q.high
  | d + 1, q => if q.kind = 7 then allTo (fun i => meetsQ fs key cs d (qat q.parts i)) q.parts.length
    else if q.kind = 8 then anyTo (fun i => meetsQ fs key cs d (qat q.parts i)) q.parts.length
    else if q.kind = 9 then !meetsQ fs key cs d (qat q.parts 0)
    else leafM fs key cs q.kind q.field q.text q.low q.high
theorem meets_leaf (fs : List Fld) (key : ByteArray) (cs : List Cel) (D : Nat) (k : Int) (f t : ByteArray) (lo hi : Int) (ps : List Qy) (h7 : k ≠ 7) (h8 : k ≠ 8) (h9 : k ≠ 9) : meetsQ fs key cs D (.mk k f t lo hi ps) = leafM fs key cs k f t lo hi := by
  cases D with
  | zero => rfl
  | succ d =>
    show (if k = 7 then _ else if k = 8 then _ else if k = 9 then _ else _) = _
    rw [if_neg h7, if_neg h8, if_neg h9]
    rfl
theorem meets_7 (fs : List Fld) (key : ByteArray) (cs : List Cel) (d : Nat) (f t : ByteArray) (lo hi : Int) (ps : List Qy) : meetsQ fs key cs (d + 1) (.mk 7 f t lo hi ps) = allTo (fun i => meetsQ fs key cs d (qat ps i)) ps.length := rfl
theorem meets_8 (fs : List Fld) (key : ByteArray) (cs : List Cel) (d : Nat) (f t : ByteArray) (lo hi : Int) (ps : List Qy) : meetsQ fs key cs (d + 1) (.mk 8 f t lo hi ps) = anyTo (fun i => meetsQ fs key cs d (qat ps i)) ps.length := rfl
theorem meets_9 (fs : List Fld) (key : ByteArray) (cs : List Cel) (d : Nat) (f t : ByteArray) (lo hi : Int) (ps : List Qy) : meetsQ fs key cs (d + 1) (.mk 9 f t lo hi ps) = !meetsQ fs key cs d (qat ps 0) := rfl
/-- A question without parts that has a form is of one of these kinds. -/
theorem form_zero {d : Nat} {k : Int} {f t : ByteArray} {lo hi : Int} (h : qformB d (.mk k f t lo hi []) = true) : k ≠ 7 ∧ k ≠ 8 ∧ k ≠ 9 := by
  cases d with
  | zero => cases h
  | succ d =>
    rw [show qformB (d + 1) (.mk k f t lo hi []) = leafB k f t lo hi from if_pos rfl] at h
    unfold leafB at h
    refine ⟨?_, ?_, ?_⟩ <;> (rintro rfl; simp at h)
theorem form_some {d : Nat} {k : Int} {f t : ByteArray} {lo hi : Int} {ps : List Qy} (h : qformB d (.mk k f t lo hi ps) = true) (hk : k = 7 ∨ k = 8 ∨ k = 9) : 0 < ps.length := by
  cases ps with
  | nil => have := form_zero h; omega
  | cons a l => simp
theorem form_leafM {d : Nat} {k : Int} {f t : ByteArray} {lo hi : Int} {ps : List Qy} (h : qformB d (.mk k f t lo hi ps) = true) (h7 : k ≠ 7) (h8 : k ≠ 8) (h9 : k ≠ 9) : ps.length = 0 ∧ leafB k f t lo hi = true := by
  cases d with
  | zero => cases h
  | succ d =>
    rw [show qformB (d + 1) (.mk k f t lo hi ps) = if ps.length = 0 then leafB k f t lo hi else manyPartsB k f t lo hi ps.length && allTo (fun i => qformB d (qat ps i)) ps.length from rfl] at h
    split at h
    · exact ⟨‹_›, h⟩
    · unfold manyPartsB at h
      rw [if_neg (by omega), if_neg h9] at h
      simp at h
theorem form_kindM {d : Nat} {k : Int} {f t : ByteArray} {lo hi : Int} {ps : List Qy} (h : qformB d (.mk k f t lo hi ps) = true) (h7 : k ≠ 7) (h8 : k ≠ 8) (h9 : k ≠ 9) : k = 1 ∨ ((k = 2 ∨ k = 3 ∨ k = 4) ∧ t.size ≤ 60 ∧ 0 < l5W t) ∨ k = 5 ∨ k = 6 := by
  have hl := (form_leafM h h7 h8 h9).2
  unfold leafB at hl
  by_cases h1 : k = 1
  · exact .inl h1
  rw [if_neg h1] at hl
  by_cases h2 : k = 2 ∨ k = 3 ∨ k = 4
  · rw [if_pos h2] at hl
    simp only [Bool.and_eq_true] at hl
    have hw := hl.1.2
    refine .inr (.inl ⟨h2, ?_, ?_⟩)
    · unfold wantB at hw
      simp only [Bool.and_eq_true, decide_eq_true_iff] at hw
      omega
    · rcases h2 with rfl | rfl | rfl
      · rw [want_2] at hw
        simp only [Bool.and_eq_true, decide_eq_true_iff] at hw
        omega
      · unfold wantB at hw
        rw [if_neg (by decide), if_neg (by decide)] at hw
        simp only [Bool.and_eq_true, decide_eq_true_iff] at hw
        exact (parts_same t).1 hw.2.1.1
      · rw [want_4] at hw
        simp only [Bool.and_eq_true, decide_eq_true_iff] at hw
        omega
  rw [if_neg h2] at hl
  by_cases h5 : k = 5
  · exact .inr (.inr (.inl h5))
  rw [if_neg h5] at hl
  by_cases h6 : k = 6
  · exact .inr (.inr (.inr h6))
  rw [if_neg h6] at hl
  cases hl
theorem terms_some {t : ByteArray} (h : 0 < l5W t) : 0 < (termsL t).length ∧ 0 < t.size := by
  have hw : 0 < (wtx t).length := by
    unfold l5W at h
    split at h
    · exact h
    · omega
  have hl : (wtx t).length = (wordsOn t 0).length := by unfold wtx; rw [List.length_map]
  have hn := wordsOn_len t t.size 0 (by omega)
  exact ⟨by rw [termsL_len]; omega, by omega⟩
end Go.Proofs.YtjkimadnopeakaaGreatDoor
