/- ownedBy: those numbers of two sets whose owners are asked for. -/
import Derived.Test.YtbmdfhognldkjaaCommon
import Derived.Test.YtbmdfhognldkjaaNextAny
import Derived.Test.YtbmdfhognldkjaaIterLaw
namespace Go.Proofs.Ytbmdfhognldkjaa
open Go.RowKit Go.Shelf
attribute [local go_sem] Oper.semAt_some

theorem Kz.trans {n₀ S : Nat} {X Y Z : World} (h : Kz n₀ S X Y) (k : Kz n₀ S Y Z) : Kz n₀ S X Z :=
  ⟨h.below.trans k.below, fun i h1 h2 => (k.mine i h1 h2).trans (h.mine i h1 h2), fun i c h1 h2 => (k.own i c h1 ((h.own i c h1 h2).trans h2)).trans (h.own i c h1 h2)⟩
theorem Kz.refl (n₀ S : Nat) (X : World) : Kz n₀ S X X := ⟨Below.refl _ _, fun _ _ _ => rfl, fun _ _ _ _ => rfl⟩
theorem Kz.of_below {n₀ S : Nat} {X Y : World} (h : Below X.heap.size X Y) (hn : n₀ ≤ X.heap.size) (hS : S + 4 ≤ X.heap.size) : Kz n₀ S X Y :=
  ⟨h.mono hn, fun i _ h2 => h.block i (by omega), fun i _ _ h2 => h.block i (Array.getElem?_eq_some_iff.1 h2).1⟩

def toldL (f : Bool → Bool → Bool) (l : List (Int × Bool × Bool)) : List Int := (l.filter fun x => f x.2.1 x.2.2).map (·.1)
theorem toldL_yes (f : Bool → Bool → Bool) (l : List (Int × Bool × Bool)) (x : Int × Bool × Bool) (h : f x.2.1 x.2.2 = true) : toldL f (l ++ [x]) = toldL f l ++ [x.1] := by simp [toldL, List.filter_append, h]
theorem toldL_no (f : Bool → Bool → Bool) (l : List (Int × Bool × Bool)) (x : Int × Bool × Bool) (h : f x.2.1 x.2.2 = false) : toldL f (l ++ [x]) = toldL f l := by simp [toldL, List.filter_append, h]
theorem toldL_len (f : Bool → Bool → Bool) (l : List (Int × Bool × Bool)) : (toldL f l).length ≤ l.length := by unfold toldL; rw [List.length_map]; exact List.length_filter_le _ _
theorem mg_len : ∀ (n : Nat) (zs ys : List Int), zs.length + ys.length ≤ n → (mg zs ys).length ≤ n
  | 0, zs, ys, h => by
    obtain rfl : zs = [] := List.eq_nil_of_length_eq_zero (by omega)
    obtain rfl : ys = [] := List.eq_nil_of_length_eq_zero (by omega)
    simp [mg]
  | n + 1, zs, [], h => by rw [mg_left]; simpa using h
  | n + 1, [], y :: ys, h => by rw [mg_right]; simpa using h
  | n + 1, z :: zs, y :: ys, h => by
    simp only [List.length_cons] at h
    rw [mg]
    split
    · have := mg_len n zs (y :: ys) (by simp; omega); simp; omega
    · split
      · have := mg_len n (z :: zs) ys (by simp; omega); simp; omega
      · have := mg_len n zs ys (by omega); simp; omega

/-- What holds between two rounds. -/
def OI (N : Nat) (F : Value) (f : Bool → Bool → Bool) (w : World) (pre : List (Int × Bool × Bool)) (V : World) : Prop :=
  ((∃ v, Boxed V (N + 1) 23 v ∧ V.ownsRow (N + 10) 3 1 v (toldL f pre).length ((toldL f pre).map (Value.int .i64)) ∧ True) ∧ Boxed V N 43 F) ∧ Below N w V
theorem OI.step {N : Nat} {F : Value} {f : Bool → Bool → Bool} {w : World} {pre : List (Int × Bool × Bool)} {X Y : World} {k : Nat} (h : OI N F f w pre X) (hk : N + 6 ≤ k) (hk2 : k < N + 10) (hs : Stepped k X Y) : OI N F f w pre Y := by
  obtain ⟨⟨⟨v, hv, hr, _⟩, hF⟩, hb⟩ := h
  refine ⟨⟨⟨v, (hs.block (by omega)).trans hv, ?_, trivial⟩, (hs.block (by omega)).trans hF⟩, hb.trans (hs.below (by omega))⟩
  rcases hs with rfl | ⟨u, rfl⟩
  · exact hr
  · exact hr.kept (grownBy_setCell' X k u) (.inr fun e => by have := (hr.lt k e).1; omega)
end Go.Proofs.Ytbmdfhognldkjaa
