/- Rows of ints that a call owns: small facts. -/
import Derived.Test.YtlpclfeppddlfaaBase
import Derived.Laws.AppendOwnNone
namespace Go.Proofs.Ytlpclfeppddlfaa
open Go.RowKit

theorem nth_get (zs : List Int) (k : Nat) (h : k < zs.length) : nth zs k = zs[k] := by unfold nth; rw [List.getD_eq_getElem?_getD, List.getElem?_eq_getElem h]; rfl
theorem int_one (z : Int) : ∀ u ∈ [Value.int .i64 z], u.oneCell' = true := by
  intro u hu
  simp at hu
  subst hu
  rfl
theorem owns_intRowC {w : World} {base : Nat} {e : TypeId} {v : Value} {zs : List Int} (h : w.ownsRow base e 1 v zs.length (zs.map (Value.int .i64))) :
    ∃ a cap, v = .slice a zs.length cap ∧ zs.length ≤ cap ∧ (a = none → cap = 0) ∧ IntRow w a zs := by
  rcases h.2 with ⟨rfl, h0⟩ | ⟨g, cap, cur, rfl, hb, hg, hc, _⟩
  · exact ⟨none, 0, by rw [h0], by omega, fun _ => rfl, fun hp => by omega⟩
  · obtain ⟨a', c', e', hr⟩ := owns_intRow h
    cases e'
    exact ⟨_, _, rfl, hc, (fun h => by cases h), hr⟩
theorem row_cap {w : World} {base : Nat} {e : TypeId} {a : Option Addr} {n cap m : Nat} {xs : List Value} (h : w.ownsRow base e 1 (.slice a n cap) m xs) : n ≤ cap ∧ (a = none → cap = 0) := by
  rcases h.2 with ⟨e', h0⟩ | ⟨g, cap', cur, e', hb, hg, hc, _⟩
  · cases e'
    exact ⟨Nat.le_refl _, fun _ => rfl⟩
  · cases e'
    exact ⟨hc, fun h => by cases h⟩
theorem ints_one (zs : List Int) : ∀ u ∈ zs.map (Value.int .i64), u.oneCell' = true := by
  intro u hu
  obtain ⟨z, _, rfl⟩ := List.mem_map.1 hu
  rfl

theorem ownsRow_drewN {w : World} {base : Nat} {e : TypeId} {size : Nat} {v : Value} {n : Nat} {xs : List Value} (h : w.ownsRow base e size v n xs) (k : Nat) : (w.drewN k).ownsRow base e size v n xs := h
theorem snoc_row {w : World} {base : Nat} {v : Value} {vs : List Int} {z : Int} (h : w.ownsRow base 3 1 v (vs.length + 1) (vs.map (Value.int .i64) ++ [.int .i64 z])) : w.ownsRow base 3 1 v (vs ++ [z]).length ((vs ++ [z]).map (Value.int .i64)) := by
  rw [List.length_append, List.map_append]
  exact h
end Go.Proofs.Ytlpclfeppddlfaa
