/- Two ascending lists side by side: plain mathematics. -/
import Derived.Test.YtbmdfhognldkjaaSetSpec
namespace Go.Proofs.Ytbmdfhognldkjaa
open Go.RowKit

/-- Each number of two lists, ascending, with its owners. -/
def mg : List Int → List Int → List (Int × Bool × Bool)
  | [], [] => []
  | z :: zs, [] => (z, true, false) :: mg zs []
  | [], y :: ys => (y, false, true) :: mg [] ys
  | z :: zs, y :: ys => if z < y then (z, true, false) :: mg zs (y :: ys) else if y < z then (y, false, true) :: mg (z :: zs) ys else (z, true, true) :: mg zs ys
termination_by a b => a.length + b.length

/-- What is told of two lists to who asks. -/
def told (f : Bool → Bool → Bool) (zs ys : List Int) : List Int := ((mg zs ys).filter fun x => f x.2.1 x.2.2).map (·.1)

def Asc (zs : List Int) : Prop := zs.Pairwise (· < ·)

theorem mg_left : ∀ zs, mg zs [] = zs.map fun z => (z, true, false)
  | [] => by simp [mg]
  | z :: zs => by simp [mg, mg_left zs]
theorem mg_right : ∀ ys, mg [] ys = ys.map fun y => (y, false, true)
  | [] => by simp [mg]
  | y :: ys => by simp [mg, mg_right ys]

theorem told_and (both : Bool) : ∀ (n : Nat) (zs ys : List Int), zs.length + ys.length ≤ n → Asc zs → Asc ys → told (fun a b => a && (b == both)) zs ys = zs.filter (fun z => decide (z ∈ ys) == both)
  | 0, zs, ys, h, _, _ => by
    obtain rfl : zs = [] := List.eq_nil_of_length_eq_zero (by omega)
    obtain rfl : ys = [] := List.eq_nil_of_length_eq_zero (by omega)
    simp [told, mg]
  | n + 1, [], ys, _, _, _ => by simp [told, mg_right]
  | n + 1, z :: zs, [], _, _, _ => by
    unfold told
    rw [mg_left, List.filter_map, List.map_map]
    cases both <;> simp [Function.comp_def]
  | n + 1, z :: zs, y :: ys, h, hz, hy => by
    have hz1 := List.pairwise_cons.1 hz
    have hy1 := List.pairwise_cons.1 hy
    simp only [List.length_cons] at h
    by_cases h1 : z < y
    · have ih := told_and both n zs (y :: ys) (by simp; omega) hz1.2 hy
      have hno : decide (z ∈ y :: ys) = false := by
        simp only [decide_eq_false_iff_not, List.mem_cons, not_or]
        exact ⟨by omega, fun hm => by have := hy1.1 z hm; omega⟩
      have e : told (fun a b => a && (b == both)) (z :: zs) (y :: ys) = (if (false == both) = true then [z] else []) ++ told (fun a b => a && (b == both)) zs (y :: ys) := by
        unfold told
        rw [mg, if_pos h1, List.filter_cons]
        cases both <;> simp
      rw [e, ih, List.filter_cons, hno]
      cases both <;> simp
    · by_cases h2 : y < z
      · have ih := told_and both n (z :: zs) ys (by simp; omega) hz hy1.2
        have e : told (fun a b => a && (b == both)) (z :: zs) (y :: ys) = told (fun a b => a && (b == both)) (z :: zs) ys := by
          unfold told
          rw [mg, if_neg h1, if_pos h2, List.filter_cons]
          simp
        rw [e, ih]
        refine List.filter_congr fun x hx => ?_
        have hyx : x ≠ y := by
          rcases List.mem_cons.1 hx with rfl | hx
          · omega
          · have := hz1.1 x hx; omega
        simp [hyx]
      · have hzy : z = y := by omega
        subst hzy
        have ih := told_and both n zs ys (by omega) hz1.2 hy1.2
        have e : told (fun a b => a && (b == both)) (z :: zs) (z :: ys) = (if (true == both) = true then [z] else []) ++ told (fun a b => a && (b == both)) zs ys := by
          unfold told
          rw [mg, if_neg h1, if_neg h2, List.filter_cons]
          cases both <;> simp
        rw [e, ih, List.filter_cons]
        have e2 : zs.filter (fun x => decide (x ∈ z :: ys) == both) = zs.filter (fun x => decide (x ∈ ys) == both) := by
          refine List.filter_congr fun x hx => ?_
          have : x ≠ z := by have := hz1.1 x hx; omega
          simp [this]
        rw [e2]
        cases both <;> simp

theorem nth_get (zs : List Int) (k : Nat) (h : k < zs.length) : nth zs k = zs[k] := by unfold nth; rw [List.getD_eq_getElem?_getD, List.getElem?_eq_getElem h]; rfl
theorem hasB_mem (ys : List Int) (z : Int) : hasB ys z = decide (z ∈ ys) := by
  unfold hasB hasTo
  rw [Bool.eq_iff_iff]
  simp only [Bool.not_eq_true', decide_eq_true_eq]
  constructor
  · intro h
    refine Classical.byContradiction fun hn => ?_
    rw [(allTo_iff _ _).2 (fun j hj => ?_)] at h
    · cases h
    · rw [nth_get ys j hj]
      have : ys[j] ≠ z := fun e => hn (e ▸ List.getElem_mem hj)
      simpa using this
  · intro h
    obtain ⟨j, hj, e⟩ := List.getElem_of_mem h
    exact allTo_false _ _ j hj (by rw [nth_get ys j hj]; simp [e])
theorem asc_of_set (zs : List Int) (h : setB zs = true) : Asc zs := by
  simp only [setB, ascB, Bool.and_eq_true, allTo_iff] at h
  have hs : ∀ i, i + 1 < zs.length → nth zs i < nth zs (i + 1) := fun i hi => by
    have := h.2 (i + 1) hi
    simp only [okAt, Bool.and_eq_true, Bool.or_eq_true, decide_eq_true_eq] at this
    rcases this.2 with h | h
    · omega
    · simpa using h
  have hall : ∀ d i, i + d + 1 < zs.length → nth zs i < nth zs (i + d + 1) := fun d => by
    induction d with
    | zero => exact hs
    | succ d ih => exact fun i hi => Int.lt_trans (ih i (by omega)) (hs (i + d + 1) hi)
  unfold Asc
  rw [List.pairwise_iff_getElem]
  intro i j hi hj hij
  have := hall (j - i - 1) i (by omega)
  rw [show i + (j - i - 1) + 1 = j from by omega, nth_get _ _ hi, nth_get _ _ hj] at this
  exact this
/-- Of two sets: what is told is what the model takes. -/
theorem told_andB (both : Bool) (zs ys : List Int) (hz : setB zs = true) (hy : setB ys = true) : told (fun a b => a && (b == both)) zs ys = andB zs ys both := by
  rw [told_and both _ zs ys (Nat.le_refl _) (asc_of_set zs hz) (asc_of_set ys hy)]
  unfold andB andTo
  rw [hz, hy]
  simp [hasB_mem]
end Go.Proofs.Ytbmdfhognldkjaa
