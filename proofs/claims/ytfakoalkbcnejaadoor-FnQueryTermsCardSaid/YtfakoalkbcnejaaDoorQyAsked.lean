/- impl.termsAsked: the words that a question looks for, in its order. -/
import Derived.Test.YtfakoalkbcnejaaDoorQyFits
import Derived.Test.YtfakoalkbcnejaaDoorTermsS
import Derived.Test.YtfakoalkbcnejaaDoorQyFitsS
import Derived.Laws.AppendOwnNone
namespace Go.Proofs.YtfakoalkbcnejaaDoor
open Go.RowKit
set_option linter.unusedVariables false

def nonE (l : List ByteArray) : List ByteArray := l.filter fun x => !x.toList.isEmpty
def asked : Nat → Qy → List ByteArray
  | 0, q => if q.kind = 2 ∨ q.kind = 3 then nonE (termsL q.text) else []
  | d + 1, q => if q.kind = 2 ∨ q.kind = 3 then nonE (termsL q.text) else if q.kind = 7 ∨ q.kind = 8 then (List.range q.parts.length).flatMap fun i => asked d (qat q.parts i) else []
/-- What the first j parts look for. -/
def askedT (D : Nat) (ps : List Qy) (j : Nat) : List ByteArray := match D with
  | 0 => []
  | d + 1 => (List.range j).flatMap fun i => asked d (qat ps i)
theorem asked_23 (D : Nat) (k : Int) (f t : ByteArray) (lo hi : Int) (ps : List Qy) (h : k = 2 ∨ k = 3) : asked D (.mk k f t lo hi ps) = nonE (termsL t) := by cases D <;> exact if_pos h
theorem asked_78 (D : Nat) (k : Int) (f t : ByteArray) (lo hi : Int) (ps : List Qy) (h : k = 7 ∨ k = 8) : asked D (.mk k f t lo hi ps) = askedT D ps ps.length := by
  cases D with
  | zero => exact if_neg (by show ¬ (k = 2 ∨ k = 3); omega)
  | succ d =>
    show (if k = 2 ∨ k = 3 then _ else if k = 7 ∨ k = 8 then _ else _) = _
    rw [if_neg (by omega), if_pos h]
    rfl
theorem asked_no (D : Nat) (k : Int) (f t : ByteArray) (lo hi : Int) (ps : List Qy) (h2 : ¬ (k = 2 ∨ k = 3)) (h : ¬ (k = 7 ∨ k = 8)) : asked D (.mk k f t lo hi ps) = [] := by
  cases D with
  | zero => exact if_neg h2
  | succ d =>
    show (if k = 2 ∨ k = 3 then _ else if k = 7 ∨ k = 8 then _ else _) = _
    rw [if_neg h2, if_neg h]
theorem askedT_succ (d : Nat) (ps : List Qy) (j : Nat) : askedT (d + 1) ps (j + 1) = askedT (d + 1) ps j ++ asked d (qat ps j) := by
  show (List.range (j + 1)).flatMap _ = _
  rw [List.range_succ, List.flatMap_append]
  simp [askedT]
theorem nonE_len (l : List ByteArray) : (nonE l).length ≤ l.length := List.length_filter_le _ _
theorem form_many {d : Nat} {k : Int} {f t : ByteArray} {lo hi : Int} {ps : List Qy} (h : qformB (d + 1) (.mk k f t lo hi ps) = true) (hk : k = 7 ∨ k = 8) : ps.length ≤ 4 := by
  rw [show qformB (d + 1) (.mk k f t lo hi ps) = if ps.length = 0 then leafB k f t lo hi else manyPartsB k f t lo hi ps.length && allTo (fun i => qformB d (qat ps i)) ps.length from rfl] at h
  split at h
  · omega
  · unfold manyPartsB at h
    rw [if_pos hk] at h
    simp only [Bool.and_eq_true, decide_eq_true_iff] at h
    exact h.1.1.1.1.2
theorem form_leaf {d : Nat} {k : Int} {f t : ByteArray} {lo hi : Int} {ps : List Qy} (h : qformB d (.mk k f t lo hi ps) = true) (h7 : k ≠ 7) (h8 : k ≠ 8) (h9 : k ≠ 9) : ps.length = 0 ∧ leafB k f t lo hi = true := by
  cases d with
  | zero => cases h
  | succ d =>
    rw [show qformB (d + 1) (.mk k f t lo hi ps) = if ps.length = 0 then leafB k f t lo hi else manyPartsB k f t lo hi ps.length && allTo (fun i => qformB d (qat ps i)) ps.length from rfl] at h
    split at h
    · exact ⟨‹_›, h⟩
    · unfold manyPartsB at h
      rw [if_neg (by omega), if_neg h9] at h
      simp at h
theorem leaf_text {k : Int} {f t : ByteArray} {lo hi : Int} (h : leafB k f t lo hi = true) (hk : k = 2 ∨ k = 3) : t.size ≤ 60 := by
  unfold leafB at h
  rw [if_neg (by omega), if_pos (by omega)] at h
  unfold wantB at h
  simp only [Bool.and_eq_true, decide_eq_true_iff] at h
  have := h.1.2.1
  omega
theorem asked_len : ∀ (D d : Nat) (q : Qy), qformB d q = true → (asked D q).length ≤ 60 * 4 ^ d := by
  intro D
  induction D with
  | zero =>
    intro d q h
    obtain ⟨k, f, t, lo, hi, ps⟩ := q
    by_cases h2 : k = 2 ∨ k = 3
    · rw [asked_23 _ _ _ _ _ _ _ h2]
      have h1 := leaf_text (form_leaf h (by omega) (by omega) (by omega)).2 h2
      have h3 := nonE_len (termsL t)
      have h4 := termsL_le t
      have h5 : 1 ≤ 4 ^ d := Nat.pow_pos (by decide)
      omega
    · rw [show asked 0 (.mk k f t lo hi ps) = [] from if_neg h2]
      exact Nat.zero_le _
  | succ D ih =>
    intro d q h
    obtain ⟨k, f, t, lo, hi, ps⟩ := q
    by_cases h2 : k = 2 ∨ k = 3
    · rw [asked_23 _ _ _ _ _ _ _ h2]
      have h1 := leaf_text (form_leaf h (by omega) (by omega) (by omega)).2 h2
      have h3 := nonE_len (termsL t)
      have h4 := termsL_le t
      have h5 : 1 ≤ 4 ^ d := Nat.pow_pos (by decide)
      omega
    by_cases h7 : k = 7 ∨ k = 8
    · rw [asked_78 _ _ _ _ _ _ _ h7]
      cases d with
      | zero => cases h
      | succ d =>
        have h4 := form_many h h7
        have hj : ∀ j, j ≤ ps.length → (askedT (D + 1) ps j).length ≤ j * (60 * 4 ^ d) := by
          intro j
          induction j with
          | zero => intro _; simp [askedT]
          | succ j ihj =>
            intro hj
            obtain ⟨d', hd', h'⟩ := form_part h (i := j) (by show j < ps.length; omega)
            obtain rfl : d = d' := by omega
            have := ih d _ h'
            have := ihj (by omega)
            rw [askedT_succ, List.length_append, Nat.add_mul]
            show _ + (asked D (qat ps j)).length ≤ _
            have e : (asked D (qat (Qy.mk k f t lo hi ps).parts j)).length = (asked D (qat ps j)).length := rfl
            omega
        have := hj ps.length (Nat.le_refl _)
        have h5 : ps.length * (60 * 4 ^ d) ≤ 4 * (60 * 4 ^ d) := Nat.mul_le_mul_right _ h4
        rw [Nat.pow_succ]
        omega
    · rw [asked_no _ _ _ _ _ _ _ h2 h7]
      exact Nat.zero_le _
theorem nonE_snoc (l : List ByteArray) (j : Nat) (h : j < l.length) : nonE (l.take (j + 1)) = nonE (l.take j) ++ (if l[j].toList.isEmpty = true then [] else [l[j]]) := by
  unfold nonE
  rw [List.take_add_one, List.getElem?_eq_getElem h, List.filter_append]
  congr 1
  cases hb : l[j].toList.isEmpty <;> simp [hb]
theorem str_oneQ (a : ByteArray) : ∀ u ∈ [Value.string a], u.oneCell' = true := by
  intro u hu
  simp at hu
  subst hu
  rfl
theorem strs_oneQ (ss : List ByteArray) : ∀ u ∈ ss.map Value.string, u.oneCell' = true := by
  intro u hu
  obtain ⟨a, _, rfl⟩ := List.mem_map.1 hu
  rfl
end Go.Proofs.YtfakoalkbcnejaaDoor
