/- Fields as they are written: plain mathematics. -/
import Derived.Test.YtelkaieknliflaaDoorFldsOk2
import Derived.Test.YtelkaieknliflaaDoorDec
import Derived.Test.YtelkaieknliflaaDoorJoinPlain
namespace Go.Proofs.YtelkaieknliflaaDoor
open Go.RowKit

def bText : ByteArray := ⟨#[58, 116, 101, 120, 116, 58]⟩
def bNum : ByteArray := ⟨#[58, 110, 117, 109]⟩
def bTag : ByteArray := ⟨#[58, 116, 97, 103]⟩
/-- A field that is ok, as it is written. -/
def fldS (f : Fld) : ByteArray := if f.kind == 1 then f.name ++ bText ++ decS f.weight.toNat else if f.kind == 2 then f.name ++ bNum else f.name ++ bTag
def fldsS (fs : List Fld) (k : Nat) : List ByteArray := (List.range k).map fun i => fldS (fat fs i)
theorem fldsS_succ (fs : List Fld) (k : Nat) : fldsS fs (k + 1) = fldsS fs k ++ [fldS (fat fs k)] := by simp [fldsS, List.range_succ]
theorem fldsS_len (fs : List Fld) (k : Nat) : (fldsS fs k).length = k := by simp [fldsS]
def putTo (fs : List Fld) (k : Nat) : ByteArray := ⟨(Lib.join ((fldsS fs k).map (·.data.toList)) [32]).toArray⟩
def putB (fs : List Fld) : ByteArray := if fieldsB fs then putTo fs fs.length else ⟨#[]⟩
theorem putTo_zero (fs : List Fld) : putTo fs 0 = ⟨#[]⟩ := rfl
theorem putTo_one (fs : List Fld) : putTo fs 1 = fldS (fat fs 0) := by
  apply ByteArray.ext
  simp [putTo, fldsS, Lib.join, List.intercalate]
theorem putTo_succ (fs : List Fld) (k : Nat) (h : k ≠ 0) : putTo fs (k + 1) = putTo fs k ++ ⟨#[32]⟩ ++ fldS (fat fs k) := by
  unfold putTo
  rw [fldsS_succ, List.map_append]
  obtain ⟨y, ys, hy⟩ : ∃ y ys, (fldsS fs k).map (·.data.toList) = y :: ys := by
    cases hg : (fldsS fs k).map (·.data.toList) with
    | nil => have := congrArg List.length hg; simp [fldsS] at this; exact absurd this h
    | cons y ys => exact ⟨y, ys, rfl⟩
  rw [hy, List.map_cons, List.map_nil, join_snoc]
  apply ByteArray.ext
  simp
theorem fld_of (fs : List Fld) (h : fieldsB fs = true) (k : Nat) (hk : k < fs.length) : fs.length ≤ 4 ∧ (fat fs k).name.size ≤ 8 ∧ ((fat fs k).kind = 1 ∧ 1 ≤ (fat fs k).weight ∧ (fat fs k).weight ≤ 9 ∨ (fat fs k).kind = 2 ∨ (fat fs k).kind = 3) := by
  simp only [fieldsB, Bool.and_eq_true, decide_eq_true_eq, allTo_iff] at h
  have h2 := h.2 k hk
  simp only [fldOk, Bool.and_eq_true] at h2
  refine ⟨h.1.2, ?_, ?_⟩
  · have h3 := h2.1.2
    simp only [nameI, Bool.and_eq_true, decide_eq_true_eq] at h3
    omega
  · have h3 := h2.2
    unfold wOk at h3
    by_cases e1 : (fat fs k).kind = 1
    · rw [if_pos (by simpa using e1)] at h3
      simp only [Bool.and_eq_true, decide_eq_true_eq] at h3
      exact .inl ⟨e1, h3⟩
    · rw [if_neg (by simpa using e1)] at h3
      by_cases e2 : (fat fs k).kind = 2
      · exact .inr (.inl e2)
      · rw [if_neg (by simpa using e2)] at h3
        by_cases e3 : (fat fs k).kind = 3
        · exact .inr (.inr e3)
        · rw [if_neg (by simpa using e3)] at h3
          cases h3
theorem fldS_text (f : Fld) (h : f.kind = 1) : fldS f = f.name ++ bText ++ decS f.weight.toNat := by unfold fldS; rw [if_pos (by simpa using h)]
theorem fldS_num (f : Fld) (h : f.kind = 2) : fldS f = f.name ++ bNum := by unfold fldS; rw [if_neg (by simp [h]), if_pos (by simpa using h)]
theorem fldS_tag (f : Fld) (h : f.kind = 3) : fldS f = f.name ++ bTag := by unfold fldS; rw [if_neg (by simp [h]), if_neg (by simp [h])]
theorem fldS_size (fs : List Fld) (h : fieldsB fs = true) (k : Nat) (hk : k < fs.length) : (fldS (fat fs k)).size ≤ 40 := by
  obtain ⟨_, h1, h2⟩ := fld_of fs h k hk
  rcases h2 with ⟨e, h3, h4⟩ | e | e
  · rw [fldS_text _ e, ByteArray.size_append, ByteArray.size_append]
    have := decS_size (fat fs k).weight.toNat (by omega)
    have : bText.size = 6 := rfl
    omega
  · rw [fldS_num _ e, ByteArray.size_append]
    have : bNum.size = 4 := rfl
    omega
  · rw [fldS_tag _ e, ByteArray.size_append]
    have : bTag.size = 4 := rfl
    omega
theorem putTo_size (fs : List Fld) (h : fieldsB fs = true) : ∀ k, k ≤ fs.length → (putTo fs k).size ≤ 41 * k
  | 0, _ => by simp [putTo_zero, ByteArray.size]
  | k + 1, hk => by
    have h1 := putTo_size fs h k (by omega)
    have h2 := fldS_size fs h k (by omega)
    by_cases e : k = 0
    · subst e
      rw [putTo_one]
      omega
    · rw [putTo_succ fs k e, ByteArray.size_append, ByteArray.size_append]
      have : (⟨#[32]⟩ : ByteArray).size = 1 := rfl
      omega
end Go.Proofs.YtelkaieknliflaaDoor
