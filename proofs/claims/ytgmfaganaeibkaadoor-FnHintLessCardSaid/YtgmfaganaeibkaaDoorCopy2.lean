/- copy between slices whose elements have two cells. -/
import Derived.Test.YtgmfaganaeibkaaDoorHintCopy
import Derived.Laws.IdiomCopy
namespace Go.Proofs.YtgmfaganaeibkaaDoor
open Go.RowKit
set_option linter.unusedVariables false

/-- What is copied is read ahead of all that is written. -/
theorem copy_two {P : Program} (w : World) (dT sT ty elem : TypeId) (b o dLen dCap : Nat) (a : Addr) (sLen sCap : Nat) (cs : List Value)
    (hu : P.underlying dT = some (.slice elem)) (hs : (P.info? elem).map (·.size) = some 2) (hn : cs.length = Nat.min sLen dLen * 2)
    (hsrc : ∀ j v, cs[j]? = some v → w.cell? (a.add j) = some v) (hc : ∀ j, j < cs.length → (w.cell? ⟨b, o + j, none⟩).isSome = true) (hf : ∀ j, j < cs.length → w.frozen? ⟨b, o + j, none⟩ = false) (h1 : ∀ v ∈ cs, v.oneCell' = true) :
    (Builtin.copy_ #[dT, sT] ty #[.slice (some ⟨b, o, none⟩) dLen dCap, .slice (some a) sLen sCap]).run P w = .ok (goInt (Nat.min sLen dLen)) (w.setCells b o cs) := by
  have hl := run_loadCells_list (P := P) w a cs hsrc
  have hst := run_storeCells_cells (P := P) b o cs 0 w (by simpa using hc) (by simpa using hf) h1
  cases hq : P.info? elem with
  | none => simp [hq] at hs
  | some i =>
    have hi : i.size = 2 := by simpa [hq] using hs
    simp [Builtin.copy_, run_underlying hu, Builtin.lenOf, Builtin.firstCells, sizeOf, typeInfo, hq, hi, ← hn, hl, hst]
/-- Cells written one behind the other into a row of one's own. -/
theorem own_setCells {base g : Nat} {e : TypeId} {size n c : Nat} : ∀ (ys : List Value) (o : Nat) (w : World) (xs : List Value), w.ownsRow base e size (.slice (some ⟨g, 0, none⟩) n c) n xs → o + ys.length ≤ xs.length →
    (w.setCells g o ys).ownsRow base e size (.slice (some ⟨g, 0, none⟩) n c) n (xs.take o ++ ys ++ xs.drop (o + ys.length)) ∧ w.grownBy (w.setCells g o ys) (some g)
  | [], o, w, xs, h, hl => by
    simp only [World.setCells, List.append_nil, List.length_nil, Nat.add_zero, List.take_append_drop]
    exact ⟨h, World.grownBy.refl _ _⟩
  | y :: ys, o, w, xs, h, hl => by
    rw [List.length_cons] at hl
    obtain ⟨h1, _⟩ := h.stored o y
    obtain ⟨h2, h3⟩ := own_setCells ys (o + 1) (w.setCell ⟨g, o, none⟩ y) (xs.set o y) h1 (by rw [List.length_set]; omega)
    refine ⟨?_, grown_then (grown_cell _ _ _ _) h3⟩
    have e1 : (xs.set o y).take (o + 1) = xs.take o ++ [y] := by
      rw [List.take_add_one, List.take_set_of_le (Nat.le_refl _), List.getElem?_set_self (by omega)]
      rfl
    have e2 : (xs.set o y).drop (o + 1 + ys.length) = xs.drop (o + 1 + ys.length) := by rw [List.drop_set_of_lt (by omega)]
    rw [e1, e2] at h2
    rw [World.setCells, List.length_cons, show o + (ys.length + 1) = o + 1 + ys.length by omega]
    simpa using h2
end Go.Proofs.YtgmfaganaeibkaaDoor
