/- What is read of a document's text: plain mathematics. -/
import Derived.Test.YtinniomeblkmeaaDoorCutPat
import Derived.Test.YtinniomeblkmeaaDoorDocPut
namespace Go.Proofs.YtinniomeblkmeaaDoor
open Go.RowKit
set_option linter.unusedVariables false

def celOf (p : ByteArray) : Cel := ⟨pat (cuts 61 1 p) 0, pat (cuts 61 1 p) 1⟩
/-- The cells of the first k lines behind the first. -/
def cels (ps : List ByteArray) (k : Nat) : List Cel := (List.range k).map fun i => celOf (pat ps (i + 1))
theorem cels_len (ps : List ByteArray) (k : Nat) : (cels ps k).length = k := by simp [cels]
theorem cels_succ (ps : List ByteArray) (k : Nat) : cels ps (k + 1) = cels ps k ++ [celOf (pat ps (k + 1))] := by simp [cels, List.range_succ]
theorem cels_at (ps : List ByteArray) (k i : Nat) (h : i < k) : cat (cels ps k) i = celOf (pat ps (i + 1)) := by
  rw [cat_get _ _ (by rw [cels_len]; exact h)]
  simp [cels]
def linesTo (ps : List ByteArray) (k : Nat) : Bool := allTo (fun i => two 61 (pat ps (i + 1))) k
def docOkP (ps : List ByteArray) : Bool := linesTo ps (ps.length - 1) && formB (pat ps 0) (cels ps (ps.length - 1))
def dparts (s : ByteArray) : List ByteArray := cuts 10 (manyB 10 s) s
def getB (s : ByteArray) : Bool := docOkP (dparts s)
def getK (s : ByteArray) : ByteArray := if getB s then pat (dparts s) 0 else ⟨#[]⟩
def getC (s : ByteArray) : List Cel := if getB s then cels (dparts s) ((dparts s).length - 1) else []
theorem get_no {s : ByteArray} (h : docOkP (dparts s) = false) : getB s = false ∧ getK s = ⟨#[]⟩ ∧ getC s = [] := by simp [getB, getK, getC, h]
theorem get_yes {s : ByteArray} (h : docOkP (dparts s) = true) : getB s = true ∧ getK s = pat (dparts s) 0 ∧ getC s = cels (dparts s) ((dparts s).length - 1) := by simp [getB, getK, getC, h]
theorem docOkP_no_line {ps : List ByteArray} {k : Nat} (hk : k < ps.length - 1) (h : two 61 (pat ps (k + 1)) = false) : docOkP ps = false := by
  have : linesTo ps (ps.length - 1) = false := allTo_false _ _ k hk h
  simp [docOkP, this]
theorem docOkP_form {ps : List ByteArray} (h : linesTo ps (ps.length - 1) = true) : docOkP ps = formB (pat ps 0) (cels ps (ps.length - 1)) := by simp [docOkP, h]
theorem docOkP_no_long {ps : List ByteArray} (h : 5 < ps.length) : docOkP ps = false := by
  have : formB (pat ps 0) (cels ps (ps.length - 1)) = false := by simp [formB, cels_len]; omega
  simp [docOkP, this]
theorem dparts5 (s : ByteArray) : docOkP (cuts 10 5 s) = docOkP (dparts s) ∧ (docOkP (dparts s) = true → cuts 10 5 s = dparts s) := by
  unfold dparts
  by_cases h : manyB 10 s ≤ 5
  · rw [cuts_enough 10 5 s h]
    exact ⟨rfl, fun _ => rfl⟩
  · have h1 := cuts_len_few 10 5 s (by omega)
    have h2 := cuts_full_len 10 s
    have e1 := docOkP_no_long (ps := cuts 10 5 s) (by omega)
    have e2 := docOkP_no_long (ps := cuts 10 (manyB 10 s) s) (by omega)
    rw [e1, e2]
    exact ⟨rfl, fun h => by cases h⟩
theorem cellS_line {p : ByteArray} (h : two 61 p = true) : cellS (celOf p) = ⟨#[10]⟩ ++ p := by
  have e := two_join h
  conv => rhs; rw [e]
  apply ByteArray.ext
  simp [cellS, celOf]
theorem take_snocB (ps : List ByteArray) (k : Nat) (h : k < ps.length) : ps.take (k + 1) = ps.take k ++ [pat ps k] := by
  rw [List.take_add_one, List.getElem?_eq_getElem h, pat_get _ _ h]
  rfl
theorem put_lines (ps : List ByteArray) (n : Nat) (hn : n + 1 = ps.length) (h : linesTo ps n = true) : ∀ k, k ≤ n → (docPutTo (pat ps 0) (cels ps n) k).data.toList = Lib.join ((ps.take (k + 1)).map (·.data.toList)) [10]
  | 0, _ => by
    rw [take_snocB ps 0 (by omega)]
    exact (Lib.join_one _ _).symm
  | k + 1, hk => by
    have ih := put_lines ps n hn h k (by omega)
    have hl := (allTo_iff _ _).1 h k (by omega)
    rw [take_snocB ps (k + 1) (by omega), docPutTo, cels_at _ _ _ (by omega), cellS_line hl, ByteArray.data_append, Array.toList_append, ih]
    obtain ⟨y, ys, hy⟩ : ∃ y ys, (ps.take (k + 1)).map (·.data.toList) = y :: ys := by
      cases hg : (ps.take (k + 1)).map (·.data.toList) with
      | nil => have := congrArg List.length hg; rw [List.length_map, List.length_take, List.length_nil] at this; omega
      | cons y ys => exact ⟨y, ys, rfl⟩
    rw [List.map_append, hy, List.map_cons, List.map_nil, join_snoc, ByteArray.data_append, Array.toList_append]
    simp
/-- What is read is written just so. -/
theorem put_back (b : Nat) (s : ByteArray) (h : linesTo (cuts 10 b s) ((cuts 10 b s).length - 1) = true) : docPutTo (pat (cuts 10 b s) 0) (cels (cuts 10 b s) ((cuts 10 b s).length - 1)) ((cuts 10 b s).length - 1) = s := by
  have hp := cuts_pos 10 b s
  apply ba_ext
  rw [put_lines _ _ (by omega) h _ (Nat.le_refl _), show (cuts 10 b s).length - 1 + 1 = (cuts 10 b s).length from by omega, List.take_length, join_cuts]
theorem celOf_small {p : ByteArray} (h : p.size ≤ 1048576) : (celOf p).name.size ≤ 1048576 ∧ (celOf p).text.size ≤ 1048576 := by
  have hx : ∀ i, (pat (cuts 61 1 p) i).size ≤ p.size := fun i => by
    by_cases hi : i < (cuts 61 1 p).length
    · exact pat_size 61 1 p i hi
    · unfold pat
      rw [List.getD_eq_getElem?_getD, List.getElem?_eq_none (by omega)]
      exact Nat.zero_le _
  exact ⟨Nat.le_trans (hx 0) h, Nat.le_trans (hx 1) h⟩
end Go.Proofs.YtinniomeblkmeaaDoor
