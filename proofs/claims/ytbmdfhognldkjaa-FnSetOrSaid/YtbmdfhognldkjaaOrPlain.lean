/- Two lists merged: what spec.l3Or makes is what is told of both. Plain mathematics. -/
import Derived.Test.YtbmdfhognldkjaaOwned
namespace Go.Proofs.Ytbmdfhognldkjaa
open Go.RowKit

def mgl (zs ys : List Int) : List Int := (mg zs ys).map (·.1)
theorem mgl_nil (ys : List Int) : mgl [] ys = ys := by simp [mgl, mg_right, Function.comp_def]
theorem mgl_none (z : Int) (zs : List Int) : mgl (z :: zs) [] = z :: mgl zs [] := by simp [mgl, mg]
theorem mgl_lt (z y : Int) (zs ys : List Int) (h : y < z) : mgl (z :: zs) (y :: ys) = y :: mgl (z :: zs) ys := by
  unfold mgl
  rw [mg, if_neg (by omega), if_pos h]
  rfl
theorem mgl_eq (z : Int) (zs ys : List Int) : mgl (z :: zs) (z :: ys) = z :: mgl zs ys := by
  unfold mgl
  rw [mg, if_neg (by omega), if_neg (by omega)]
  rfl
theorem mgl_gt (z y : Int) (zs ys : List Int) (h : z < y) : mgl (z :: zs) (y :: ys) = z :: mgl zs (y :: ys) := by
  unfold mgl
  rw [mg, if_pos h]
  rfl
theorem drop_nth (zs : List Int) (i : Nat) (h : i < zs.length) : zs.drop i = nth zs i :: zs.drop (i + 1) := by rw [List.drop_eq_getElem_cons h, nth_get _ _ h]
theorem drop_all (zs : List Int) (i : Nat) (h : ¬ i < zs.length) : zs.drop i = [] := List.drop_of_length_le (by omega)

theorem mgl_len (zs ys : List Int) : (mgl zs ys).length ≤ zs.length + ys.length := by
  unfold mgl
  rw [List.length_map]
  exact mg_len _ zs ys (Nat.le_refl _)
theorem mg_owned : ∀ (n : Nat) (zs ys : List Int), zs.length + ys.length ≤ n → ∀ x ∈ mg zs ys, (x.2.1 || x.2.2) = true
  | 0, zs, ys, h, x, hx => by
    obtain rfl : zs = [] := List.eq_nil_of_length_eq_zero (by omega)
    obtain rfl : ys = [] := List.eq_nil_of_length_eq_zero (by omega)
    simp [mg] at hx
  | n + 1, [], ys, _, x, hx => by
    rw [mg_right] at hx
    obtain ⟨y, _, rfl⟩ := List.mem_map.1 hx
    rfl
  | n + 1, z :: zs, [], _, x, hx => by
    rw [mg_left] at hx
    obtain ⟨y, _, rfl⟩ := List.mem_map.1 hx
    rfl
  | n + 1, z :: zs, y :: ys, h, x, hx => by
    simp only [List.length_cons] at h
    rw [mg] at hx
    by_cases h1 : z < y
    · rw [if_pos h1] at hx
      rcases List.mem_cons.1 hx with rfl | hx
      · rfl
      · exact mg_owned n zs (y :: ys) (by simp; omega) x hx
    · rw [if_neg h1] at hx
      by_cases h2 : y < z
      · rw [if_pos h2] at hx
        rcases List.mem_cons.1 hx with rfl | hx
        · rfl
        · exact mg_owned n (z :: zs) ys (by simp; omega) x hx
      · rw [if_neg h2] at hx
        rcases List.mem_cons.1 hx with rfl | hx
        · rfl
        · exact mg_owned n zs ys (by omega) x hx
theorem toldOr (zs ys : List Int) : toldL (fun p q => p || q) (mg zs ys) = mgl zs ys := by
  unfold toldL mgl
  rw [List.filter_eq_self.2]
  exact mg_owned _ zs ys (Nat.le_refl _)

/-- The model's loop: what is made so far, and what is to come, are the whole. -/
def OrAt (zs ys vs : List Int) (i k : Nat) : Prop := vs ++ mgl (zs.drop i) (ys.drop k) = mgl zs ys
theorem OrAt.start (zs ys : List Int) : OrAt zs ys [] 0 0 := rfl
theorem OrAt.len {zs ys vs : List Int} {i k : Nat} (h : OrAt zs ys vs i k) : vs.length ≤ zs.length + ys.length := by
  have h1 := congrArg List.length h
  have h2 := mgl_len zs ys
  rw [List.length_append] at h1
  omega
theorem OrAt.lower {zs ys vs : List Int} {i k : Nat} (h : OrAt zs ys vs i k) (hi : i < zs.length) (hk : k < ys.length) (hlt : nth ys k < nth zs i) : OrAt zs ys (vs ++ [nth ys k]) i (k + 1) := by
  unfold OrAt at h ⊢
  rw [drop_nth zs i hi, drop_nth ys k hk, mgl_lt _ _ _ _ hlt] at h
  rw [← h, drop_nth zs i hi]
  simp
theorem OrAt.same {zs ys vs : List Int} {i k : Nat} (h : OrAt zs ys vs i k) (hi : i < zs.length) (hk : k < ys.length) (he : nth ys k = nth zs i) : OrAt zs ys (vs ++ [nth zs i]) (i + 1) (k + 1) := by
  unfold OrAt at h ⊢
  rw [drop_nth zs i hi, drop_nth ys k hk, he, mgl_eq] at h
  rw [← h]
  simp
theorem OrAt.upper {zs ys vs : List Int} {i k : Nat} (h : OrAt zs ys vs i k) (hi : i < zs.length) (hn : k < ys.length → nth zs i < nth ys k) : OrAt zs ys (vs ++ [nth zs i]) (i + 1) k := by
  unfold OrAt at h ⊢
  by_cases hk : k < ys.length
  · rw [drop_nth zs i hi, drop_nth ys k hk, mgl_gt _ _ _ _ (hn hk)] at h
    rw [← h, drop_nth ys k hk]
    simp
  · rw [drop_nth zs i hi, drop_all ys k hk, mgl_none] at h
    rw [← h, drop_all ys k hk]
    simp
theorem OrAt.done {zs ys vs : List Int} {i k : Nat} (h : OrAt zs ys vs i k) (hi : ¬ i < zs.length) : vs ++ ys.drop k = mgl zs ys := by
  unfold OrAt at h
  rw [drop_all zs i hi, mgl_nil] at h
  exact h
/-- What the model answers. -/
def orB (zs ys : List Int) : List Int := if setB zs && setB ys then mgl zs ys else []
theorem orB_len (zs ys : List Int) : (orB zs ys).length ≤ zs.length + ys.length := by
  unfold orB
  split
  · exact mgl_len _ _
  · exact Nat.zero_le _
end Go.Proofs.Ytbmdfhognldkjaa
