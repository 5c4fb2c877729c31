/- How far two lists are: plain mathematics, nothing of the program. -/
import Derived.Test.YtlpclfeppddlfaaPlain
namespace Go.Proofs.Ytlpclfeppddlfaa
open Go.RowKit

def neqN (x y : Int) : Nat := if x = y then 0 else 1
def lev : List Int → List Int → Nat
  | [], ys => ys.length
  | _ :: xs, [] => xs.length + 1
  | x :: xs, y :: ys => min (lev xs (y :: ys) + 1) (min (lev (x :: xs) ys + 1) (lev xs ys + neqN x y))
inductive Al : List Int → List Int → Nat → Prop
  | nil : Al [] [] 0
  | del {x xs ys n} : Al xs ys n → Al (x :: xs) ys (n + 1)
  | ins {y xs ys n} : Al xs ys n → Al xs (y :: ys) (n + 1)
  | sub {x y xs ys n} : Al xs ys n → Al (x :: xs) (y :: ys) (n + neqN x y)

theorem lev_nil_right (xs : List Int) : lev xs [] = xs.length := by cases xs <;> simp [lev]
theorem lev_del (x : Int) (xs ys : List Int) : lev (x :: xs) ys ≤ lev xs ys + 1 := by
  cases ys with
  | nil => simp [lev_nil_right]
  | cons y ys => rw [lev]; omega
theorem lev_ins (y : Int) (xs ys : List Int) : lev xs (y :: ys) ≤ lev xs ys + 1 := by
  cases xs with
  | nil => simp [lev]
  | cons x xs => rw [lev]; omega
theorem lev_sub (x y : Int) (xs ys : List Int) : lev (x :: xs) (y :: ys) ≤ lev xs ys + neqN x y := by rw [lev]; omega
theorem lev_le {xs ys : List Int} {n : Nat} (h : Al xs ys n) : lev xs ys ≤ n := by
  induction h with
  | nil => simp [lev]
  | del _ ih => exact Nat.le_trans (lev_del _ _ _) (by omega)
  | ins _ ih => exact Nat.le_trans (lev_ins _ _ _) (by omega)
  | sub _ ih => exact Nat.le_trans (lev_sub _ _ _ _) (by omega)
theorem al_ins_all (ys : List Int) : Al [] ys ys.length := by
  induction ys with
  | nil => exact .nil
  | cons y ys ih => exact .ins ih
theorem al_del_all (xs : List Int) : Al xs [] xs.length := by
  induction xs with
  | nil => exact .nil
  | cons y ys ih => exact .del ih
theorem al_lev (xs ys : List Int) : Al xs ys (lev xs ys) := by
  match xs, ys with
  | [], ys => simp only [lev]; exact al_ins_all ys
  | x :: xs, [] => rw [lev]; exact al_del_all (x :: xs)
  | x :: xs, y :: ys =>
    rw [lev]
    have h1 := al_lev xs (y :: ys)
    have h2 := al_lev (x :: xs) ys
    have h3 := al_lev xs ys
    by_cases c1 : lev xs (y :: ys) + 1 ≤ min (lev (x :: xs) ys + 1) (lev xs ys + neqN x y)
    · rw [Nat.min_eq_left c1]; exact .del h1
    · rw [Nat.min_eq_right (by omega)]
      by_cases c2 : lev (x :: xs) ys + 1 ≤ lev xs ys + neqN x y
      · rw [Nat.min_eq_left c2]; exact .ins h2
      · rw [Nat.min_eq_right (by omega)]; exact .sub h3
termination_by xs.length + ys.length
theorem neqN_comm (x y : Int) : neqN x y = neqN y x := by
  unfold neqN
  by_cases h : x = y
  · simp [h]
  · rw [if_neg h, if_neg (fun e => h e.symm)]
theorem Al.symm {xs ys : List Int} {n : Nat} (h : Al xs ys n) : Al ys xs n := by
  induction h with
  | nil => exact .nil
  | del _ ih => exact .ins ih
  | ins _ ih => exact .del ih
  | sub _ ih => rw [neqN_comm]; exact .sub ih
theorem lev_symm (xs ys : List Int) : lev xs ys = lev ys xs := Nat.le_antisymm (lev_le (al_lev ys xs).symm) (lev_le (al_lev xs ys).symm)
theorem al_refl (xs : List Int) : Al xs xs 0 := by
  induction xs with
  | nil => exact .nil
  | cons x xs ih =>
    have h := Al.sub (x := x) (y := x) ih
    simpa [neqN] using h
theorem al_zero {xs ys : List Int} {n : Nat} (h : Al xs ys n) (h0 : n = 0) : xs = ys := by
  induction h with
  | nil => rfl
  | del _ ih => omega
  | ins _ ih => omega
  | @sub x y _ _ _ _ ih =>
    have e1 : x = y := by
      by_cases e : x = y
      · exact e
      · simp [neqN, e] at h0
    rw [e1, ih (by omega)]
theorem lev_zero (xs ys : List Int) : lev xs ys = 0 ↔ xs = ys := by
  constructor
  · intro h; exact al_zero (al_lev xs ys) h
  · intro h
    subst h
    have := lev_le (al_refl xs)
    omega
theorem lev_max (xs ys : List Int) : lev xs ys ≤ max xs.length ys.length := by
  match xs, ys with
  | [], ys => simp [lev]
  | x :: xs, [] => simp [lev]
  | x :: xs, y :: ys =>
    have h := lev_max xs ys
    have h2 := lev_sub x y xs ys
    have : neqN x y ≤ 1 := by unfold neqN; split <;> omega
    simp only [List.length_cons]
    omega
theorem al_len {xs ys : List Int} {n : Nat} (h : Al xs ys n) : xs.length ≤ ys.length + n ∧ ys.length ≤ xs.length + n := by
  induction h with
  | nil => simp
  | del _ ih => simp only [List.length_cons]; omega
  | ins _ ih => simp only [List.length_cons]; omega
  | sub _ ih => simp only [List.length_cons]; omega
theorem neqN_tri (x y z : Int) : neqN x z ≤ neqN x y + neqN y z := by
  unfold neqN
  by_cases h1 : x = y
  · subst h1; simp
  · rw [if_neg h1]; split <;> omega
theorem al_comp (L : Nat) : ∀ (xs ys zs : List Int) (n m : Nat), xs.length + ys.length + zs.length ≤ L → Al xs ys n → Al ys zs m → ∃ k, k ≤ n + m ∧ Al xs zs k := by
  induction L with
  | zero =>
    intro xs ys zs n m hL h1 h2
    have e1 : xs = [] := List.length_eq_zero_iff.1 (by omega)
    have e3 : zs = [] := List.length_eq_zero_iff.1 (by omega)
    subst e1; subst e3
    exact ⟨0, by omega, .nil⟩
  | succ L ih =>
    intro xs ys zs n m hL h1 h2
    cases h2 with
    | nil => exact ⟨n, by omega, h1⟩
    | @ins z _ zs' m' h2' =>
      obtain ⟨k, hk, h⟩ := ih xs ys zs' n m' (by simp only [List.length_cons] at hL; omega) h1 h2'
      exact ⟨k + 1, by omega, .ins h⟩
    | @del y ys' _ m' h2' =>
      cases h1 with
      | @del x xs' _ n' h1' =>
        obtain ⟨k, hk, h⟩ := ih xs' (y :: ys') zs n' (m' + 1) (by simp only [List.length_cons] at hL ⊢; omega) h1' (.del h2')
        exact ⟨k + 1, by omega, .del h⟩
      | @ins _ _ _ n' h1' =>
        obtain ⟨k, hk, h⟩ := ih xs ys' zs n' m' (by simp only [List.length_cons] at hL; omega) h1' h2'
        exact ⟨k, by omega, h⟩
      | @sub x _ xs' _ n' h1' =>
        obtain ⟨k, hk, h⟩ := ih xs' ys' zs n' m' (by simp only [List.length_cons] at hL; omega) h1' h2'
        exact ⟨k + 1, by omega, .del h⟩
    | @sub y z ys' zs' m' h2' =>
      cases h1 with
      | @del x xs' _ n' h1' =>
        obtain ⟨k, hk, h⟩ := ih xs' (y :: ys') (z :: zs') n' (m' + neqN y z) (by simp only [List.length_cons] at hL ⊢; omega) h1' (.sub h2')
        exact ⟨k + 1, by omega, .del h⟩
      | @ins _ _ _ n' h1' =>
        obtain ⟨k, hk, h⟩ := ih xs ys' zs' n' m' (by simp only [List.length_cons] at hL; omega) h1' h2'
        exact ⟨k + 1, by omega, .ins h⟩
      | @sub x _ xs' _ n' h1' =>
        obtain ⟨k, hk, h⟩ := ih xs' ys' zs' n' m' (by simp only [List.length_cons] at hL; omega) h1' h2'
        have := neqN_tri x y z
        exact ⟨k + neqN x z, by omega, .sub h⟩
theorem lev_tri (xs ys zs : List Int) : lev xs zs ≤ lev xs ys + lev ys zs := by
  obtain ⟨k, hk, h⟩ := al_comp _ xs ys zs _ _ (Nat.le_refl _) (al_lev xs ys) (al_lev ys zs)
  exact Nat.le_trans (lev_le h) hk
theorem lev_one (q : Int) (xs : List Int) : lev (q :: xs) xs ≤ 1 := lev_le (.del (al_refl xs))
theorem lev_one' (q : Int) (xs : List Int) : lev xs (q :: xs) = 1 := by
  have h := lev_one q xs
  rw [lev_symm] at h
  have h0 : lev xs (q :: xs) ≠ 0 := by
    intro e
    have := congrArg List.length ((lev_zero _ _).1 e)
    simp at this
  omega
theorem lev_cons (q : Int) (xs ys : List Int) : lev (q :: xs) (q :: ys) = lev xs ys := by
  apply Nat.le_antisymm
  · have := lev_sub q q xs ys
    simpa [neqN] using this
  · have h := al_lev (q :: xs) (q :: ys)
    generalize lev (q :: xs) (q :: ys) = n at h
    cases h with
    | @del _ _ _ n' h' => have := lev_tri xs (q :: ys) ys; have := lev_le h'; have := lev_one q ys; omega
    | @ins _ _ _ n' h' => have := lev_tri xs (q :: xs) ys; have := lev_le h'; have := lev_one' q xs; omega
    | @sub _ _ _ _ n' h' => have := lev_le h'; omega
theorem Al.app {xs ys us vs : List Int} {n m : Nat} (h : Al xs ys n) (k : Al us vs m) : Al (xs ++ us) (ys ++ vs) (n + m) := by
  induction h with
  | nil => simpa using k
  | del _ ih => rw [show ∀ a b : Nat, a + 1 + b = a + b + 1 from fun a b => by omega]; exact .del ih
  | ins _ ih => rw [show ∀ a b : Nat, a + 1 + b = a + b + 1 from fun a b => by omega]; exact .ins ih
  | @sub x y _ _ n _ ih => rw [show n + neqN x y + m = n + m + neqN x y from by omega]; exact .sub ih
theorem Al.rev {xs ys : List Int} {n : Nat} (h : Al xs ys n) : Al xs.reverse ys.reverse n := by
  induction h with
  | nil => exact .nil
  | @del x xs ys n _ ih =>
    have := ih.app (us := [x]) (vs := []) (.del .nil)
    simpa using this
  | @ins x xs ys n _ ih =>
    have := ih.app (us := []) (vs := [x]) (.ins .nil)
    simpa using this
  | @sub x y xs ys n _ ih =>
    have := ih.app (us := [x]) (vs := [y]) (.sub .nil)
    simpa using this
theorem lev_rev (xs ys : List Int) : lev xs.reverse ys.reverse = lev xs ys := by
  apply Nat.le_antisymm
  · exact lev_le (al_lev xs ys).rev
  · have := (al_lev xs.reverse ys.reverse).rev
    rw [List.reverse_reverse, List.reverse_reverse] at this
    exact lev_le this
theorem lev_snoc (q : Int) (xs ys : List Int) : lev (xs ++ [q]) (ys ++ [q]) = lev xs ys := by
  rw [← lev_rev, List.reverse_append, List.reverse_append]
  show lev (q :: xs.reverse) (q :: ys.reverse) = _
  rw [lev_cons, lev_rev]

/-- The first i bytes of a text, the last of them first. -/
def rpre (s : ByteArray) : Nat → List Int
  | 0 => []
  | i + 1 => byteAt s i :: rpre s i
theorem rpre_len (s : ByteArray) (i : Nat) : (rpre s i).length = i := by
  induction i with
  | zero => rfl
  | succ i ih => simp [rpre, ih]
/-- How far the first i bytes of a are from the first j of b. -/
def far (a b : ByteArray) (i j : Nat) : Nat := lev (rpre a i) (rpre b j)
theorem far_zero (a b : ByteArray) (j : Nat) : far a b 0 j = j := by simp [far, rpre, lev, rpre_len]
theorem far_left (a b : ByteArray) (i : Nat) : far a b i 0 = i := by simp [far, rpre, lev_nil_right, rpre_len]
theorem far_step (a b : ByteArray) (i j : Nat) : far a b (i + 1) (j + 1) = min (far a b i (j + 1) + 1) (min (far a b (i + 1) j + 1) (far a b i j + neqN (byteAt a i) (byteAt b j))) := by
  simp only [far, rpre]
  rw [lev]
theorem far_le (a b : ByteArray) (i j : Nat) : far a b i j ≤ i + j := by
  have := lev_max (rpre a i) (rpre b j)
  rw [rpre_len, rpre_len] at this
  unfold far
  omega
end Go.Proofs.Ytlpclfeppddlfaa
