/- What the program asks of rows is what the model asks. -/
import Derived.Test.YtbifagdcnpnpjaaGreatRowsW
import Derived.Test.YtbifagdcnpnpjaaGreatIdxOkS
import Derived.Test.YtbifagdcnpnpjaaGreatSetOk
namespace Go.Proofs.YtbifagdcnpnpjaaGreat
open Go Go.RowKit
set_option linter.unusedVariables false

def idsOf (rs : List Rw) : List Int := rs.map fun r => r.id
/-- What the program asks of the k-th row. -/
def rowA (fs : List Fld) (rs : List Rw) (k : Nat) : Bool := docOkB fs (rat rs k).key (rat rs k).cells && !decide ((rowsW (rs.take k) (rat rs k).key).length < k)
def rowsOkB (x : Idx) : Bool := decide (x.rows.length ≤ 8) && allTo (rowA x.fields x.rows) x.rows.length && ascB 0 (IntKind.i64.wrap (x.next - 1)) (idsOf x.rows)
theorem key_bne (a b : ByteArray) : (a.toList != b.toList) = decide (a ≠ b) := by
  by_cases h : a = b
  · subst h; simp
  · have h2 : a.toList ≠ b.toList := fun e => h (by
      have e1 := ByteArray.toList_eq a
      have e2 := ByteArray.toList_eq b
      rw [e1, e2] at e
      exact ByteArray.ext (Array.toList_inj.1 e))
    rw [decide_eq_true h]
    exact bne_iff_ne.2 h2
theorem keyPos_rows {rs : List Rw} {k : Nat} (hk : k < rs.length) : (keyPos rs (rat rs k).key == (k : Int)) = !decide ((rowsW (rs.take k) (rat rs k).key).length < k) := by
  have hr : rs[k]? = some (rat rs k) := by rw [rat_get rs k hk]; exact List.getElem?_eq_getElem hk
  have htl : (rs.take k).length = k := by rw [List.length_take]; omega
  obtain ⟨key, hkey⟩ : ∃ key, (rat rs k).key = key := ⟨_, rfl⟩
  rw [hkey]
  by_cases hno : ∀ j r, j < k → rs[j]? = some r → r.key ≠ key
  · rw [keyPos_at hr hkey hno]
    have e : rowsW (rs.take k) key = rs.take k := by
      unfold rowsW
      rw [List.filter_eq_self]
      intro a ha
      obtain ⟨j, hj, e⟩ := List.getElem_of_mem ha
      rw [key_bne]
      refine decide_eq_true (hno j a (by omega) ?_)
      rw [List.getElem_take] at e
      rw [List.getElem?_eq_getElem (by omega), e]
    rw [e, htl]
    simp
  · have h1 : ∃ j r, j < k ∧ rs[j]? = some r ∧ r.key = key := Classical.byContradiction fun h => hno fun j r hj hr e => h ⟨j, r, hj, hr, e⟩
    obtain ⟨j, r, hj, hrj, e⟩ := h1
    have h2 : (rowsW (rs.take k) key).length < k := by
      have h3 : (rowsW (rs.take k) key).length < (rs.take k).length := by
        unfold rowsW
        refine List.length_filter_lt_length_iff_exists.2 ⟨r, ?_, ?_⟩
        · rw [List.mem_iff_getElem?]
          exact ⟨j, by rw [List.getElem?_take, if_pos hj]; exact hrj⟩
        · rw [key_bne, e]
          simp
      omega
    rw [decide_eq_true h2]
    refine beq_false_of_ne fun h5 => ?_
    unfold keyPos at h5
    split at h5
    · have hjl := (List.getElem?_eq_some_iff.1 hrj).1
      have h7 := List.not_of_lt_findIdx (xs := rs) (p := sameKey' key) (i := j) (by omega)
      have h8 := (List.getElem?_eq_some_iff.1 hrj).2
      rw [h8] at h7
      unfold sameKey' at h7
      rw [decide_eq_true e] at h7
      cases h7
    · omega
theorem nth_ids {rs : List Rw} {k : Nat} (hk : k < rs.length) : nth (idsOf rs) k = (rat rs k).id := by
  unfold nth idsOf
  rw [rat_get rs k hk, List.getD_eq_getElem?_getD, List.getElem?_map, List.getElem?_eq_getElem hk]
  rfl
theorem rowOk_split {x : Idx} {up : Int} {k : Nat} (hk : k < x.rows.length) : rowOkB x up k = (rowA x.fields x.rows k && okAt 0 up (idsOf x.rows) k) := by
  unfold rowOkB rowA okAt inB
  rw [keyPos_rows hk, nth_ids hk]
  have e : (!(decide (0 < k) && decide ((rat x.rows k).id ≤ (rat x.rows (k - 1)).id))) = (decide (k = 0) || decide (nth (idsOf x.rows) (k - 1) < (rat x.rows k).id)) := by
    by_cases h0 : k = 0
    · subst h0; simp
    · rw [nth_ids (by omega), decide_eq_true (by omega : 0 < k), decide_eq_false h0, Bool.true_and, Bool.false_or]
      by_cases h1 : (rat x.rows k).id ≤ (rat x.rows (k - 1)).id
      · rw [decide_eq_true h1, decide_eq_false (by omega)]; rfl
      · rw [decide_eq_false h1, decide_eq_true (by omega)]; rfl
  rw [e]
  simp only [Bool.and_assoc]
theorem allTo_and {f g h : Nat → Bool} : ∀ n, (∀ k, k < n → f k = (g k && h k)) → allTo f n = (allTo g n && allTo h n)
  | 0, _ => rfl
  | n + 1, hk => by
    show (allTo f n && f n) = ((allTo g n && g n) && (allTo h n && h n))
    rw [allTo_and n (fun k h => hk k (by omega)), hk n (by omega)]
    cases allTo g n <;> cases allTo h n <;> cases g n <;> cases h n <;> rfl
theorem idxTo_all (x : Idx) (up : Int) : ∀ n, idxTo x up n = allTo (rowOkB x up) n
  | 0 => rfl
  | n + 1 => by
    show (idxTo x up n && rowOkB x up n) = (allTo (rowOkB x up) n && rowOkB x up n)
    rw [idxTo_all x up n]
/-- Both ask the same of rows. -/
theorem rows_same (x : Idx) : (idxTo x (IntKind.i64.wrap (x.next - 1)) x.rows.length && decide (x.rows.length ≤ 8)) = rowsOkB x := by
  unfold rowsOkB ascB
  have hl : (idsOf x.rows).length = x.rows.length := by unfold idsOf; rw [List.length_map]
  rw [idxTo_all, allTo_and x.rows.length (fun k hk => rowOk_split hk), hl]
  cases allTo (rowA x.fields x.rows) x.rows.length <;> cases decide (x.rows.length ≤ 8) <;> cases allTo (okAt 0 (IntKind.i64.wrap (x.next - 1)) (idsOf x.rows)) x.rows.length <;> rfl
end Go.Proofs.YtbifagdcnpnpjaaGreat
