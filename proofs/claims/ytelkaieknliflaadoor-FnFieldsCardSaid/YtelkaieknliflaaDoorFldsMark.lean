/- markFieldS lays marks into a row of fields that the call owns; heldFieldS finds them. -/
import Derived.Test.YtelkaieknliflaaDoorFldsOk3
import Derived.Test.YtelkaieknliflaaDoorMark
import Derived.Deep.RegionWith
namespace Go.Proofs.YtelkaieknliflaaDoor
open Go.RowKit

def mark3F (k : Nat) : List Value := [.string (markT k), .int .i64 ((k + 1 : Nat) : Int), .int .i64 ((k + 2 : Nat) : Int)]
def marksF (k : Nat) : Nat → List Value
  | 0 => []
  | n + 1 => marksF k n ++ mark3F (k + 3 * n)
theorem marksF_len (k n : Nat) : (marksF k n).length = n * 3 := by
  induction n with
  | zero => rfl
  | succ n ih => simp [marksF, mark3F, ih]; omega
theorem marksF_at (k : Nat) : ∀ (n i : Nat), i < n → (marksF k n)[i * 3]? = some (.string (markT (k + 3 * i))) ∧ (marksF k n)[i * 3 + 1]? = some (.int .i64 ((k + 3 * i + 1 : Nat) : Int)) ∧ (marksF k n)[i * 3 + 2]? = some (.int .i64 ((k + 3 * i + 2 : Nat) : Int))
  | 0, i, h => by omega
  | n + 1, i, h => by
    by_cases e : i = n
    · subst e
      simp only [marksF]
      rw [List.getElem?_append_right (by rw [marksF_len]; omega), List.getElem?_append_right (by rw [marksF_len]; omega), List.getElem?_append_right (by rw [marksF_len]; omega), marksF_len]
      simp [mark3F, Nat.add_sub_cancel_left]
    · have ih := marksF_at k n i (by omega)
      simp only [marksF]
      rw [List.getElem?_append_left (by rw [marksF_len]; omega), List.getElem?_append_left (by rw [marksF_len]; omega), List.getElem?_append_left (by rw [marksF_len]; omega)]
      exact ih
def mixF3 (k j : Nat) (xs : List Value) : List Value := marksF k j ++ xs.drop (j * 3)
theorem mixF3_len (k j n : Nat) (xs : List Value) (hx : xs.length = n * 3) (hj : j ≤ n) : (mixF3 k j xs).length = n * 3 := by
  simp [mixF3, marksF_len, hx]; omega
theorem mixF3_step (k j n : Nat) (xs : List Value) (hx : xs.length = n * 3) (hj : j < n) :
    (((mixF3 k j xs).set (j * 3) (.string (markT (k + 3 * j)))).set (j * 3 + 1) (.int .i64 ((k + 3 * j + 1 : Nat) : Int))).set (j * 3 + 2) (.int .i64 ((k + 3 * j + 2 : Nat) : Int)) = mixF3 k (j + 1) xs := by
  have h0 : j * 3 < xs.length := by omega
  have h1 : j * 3 + 1 < xs.length := by omega
  have h2 : j * 3 + 2 < xs.length := by omega
  unfold mixF3
  rw [List.drop_eq_getElem_cons h0, List.drop_eq_getElem_cons h1, List.drop_eq_getElem_cons h2]
  rw [List.set_append_right _ _ (by rw [marksF_len]; omega), List.set_append_right _ _ (by rw [marksF_len]; omega), List.set_append_right _ _ (by rw [marksF_len]; omega), marksF_len]
  rw [show j * 3 - j * 3 = 0 from by omega, show j * 3 + 1 - j * 3 = 1 from by omega, show j * 3 + 2 - j * 3 = 2 from by omega, show (j + 1) * 3 = j * 3 + 2 + 1 from by omega]
  simp only [List.set_cons_zero, List.set_cons_succ, marksF, mark3F, List.append_assoc, List.cons_append, List.nil_append]

/-- A slice of marked words, as it is read. -/
def MarkF (w : World) (a : Option Addr) (k n : Nat) : Prop := 0 < n → ∃ g, a = some ⟨g, 0, none⟩ ∧ g < w.heap.size ∧ ∀ i, i < n → w.cell? ⟨g, i * 3, none⟩ = some (.string (markT (k + 3 * i))) ∧ w.cell? ⟨g, i * 3 + 1, none⟩ = some (.int .i64 ((k + 3 * i + 1 : Nat) : Int)) ∧ w.cell? ⟨g, i * 3 + 2, none⟩ = some (.int .i64 ((k + 3 * i + 2 : Nat) : Int))
theorem MarkF.below {w w' : World} {a : Option Addr} {k n : Nat} (h : MarkF w a k n) (hb : Below w.heap.size w w') : MarkF w' a k n := fun hp => by
  obtain ⟨g, e, hg, hc⟩ := h hp
  exact ⟨g, e, by have := hb.size; omega, fun i hi => by rw [hb.cell (p := ⟨g, i * 3, none⟩) hg, hb.cell (p := ⟨g, i * 3 + 1, none⟩) hg, hb.cell (p := ⟨g, i * 3 + 2, none⟩) hg]; exact hc i hi⟩
theorem owns_markF {w : World} {base : Nat} {e : TypeId} {a : Option Addr} {cap k n : Nat} (h : w.ownsRow base e 3 (.slice a n cap) n (marksF k n)) : MarkF w a k n := fun hp => by
  rcases h.2 with ⟨h1, h0⟩ | ⟨g, cap', cur, h1, hb, hg, r⟩
  · omega
  · simp only [Value.slice.injEq] at h1
    obtain ⟨rfl, _, rfl⟩ := h1
    refine ⟨g, rfl, lt_of_block hg, fun i hi => ?_⟩
    have := marksF_at k n i hi
    rw [h.cellAt (i * 3) (by omega), h.cellAt (i * 3 + 1) (by omega), h.cellAt (i * 3 + 2) (by omega)]
    exact this

end Go.Proofs.YtelkaieknliflaaDoor
