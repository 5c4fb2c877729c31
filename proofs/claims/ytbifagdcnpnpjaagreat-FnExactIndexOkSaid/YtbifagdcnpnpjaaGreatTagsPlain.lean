/- Lists of texts in order: insertion, sort and compaction. -/
import Derived.Test.YtbifagdcnpnpjaaGreatMg5FnExactIndexOk
import Derived.Lib.SlicesCompact
namespace Go.Proofs.YtbifagdcnpnpjaaGreat
open Go.RowKit
abbrev L := List UInt8
theorem lt_tr {a b c : L} (h1 : a < b) (h2 : b < c) : a < c := List.lt_trans h1 h2
theorem lt_ir (a : L) : ¬ a < a := List.lt_irrefl a
theorem lt_of_le_ne {a b : L} (h1 : a ≤ b) (h2 : a ≠ b) : a < b := by
  rcases Classical.em (a < b) with h | h
  · exact h
  · exact absurd (List.le_antisymm h1 (List.not_lt.1 h)) h2
theorem le_lt {a b c : L} (h1 : a ≤ b) (h2 : b < c) : a < c := by
  rcases Classical.em (a = b) with h | h
  · rw [h]; exact h2
  · exact lt_tr (lt_of_le_ne h1 h) h2
/-- Two ascending lists with the same members are one. -/
theorem asc_ext : ∀ {xs ys : List L}, xs.Pairwise (· < ·) → ys.Pairwise (· < ·) → (∀ a, a ∈ xs ↔ a ∈ ys) → xs = ys
  | [], [], _, _, _ => rfl
  | [], y :: ys, _, _, h => absurd ((h y).2 (by simp)) (by simp)
  | x :: xs, [], _, _, h => absurd ((h x).1 (by simp)) (by simp)
  | x :: xs, y :: ys, h1, h2, h => by
    rw [List.pairwise_cons] at h1 h2
    have hxy : x = y := by
      rcases List.mem_cons.1 ((h x).1 (by simp)) with e | e
      · exact e
      · rcases List.mem_cons.1 ((h y).2 (by simp)) with e2 | e2
        · exact e2.symm
        · exact absurd (lt_tr (h1.1 y e2) (h2.1 x e)) (lt_ir _)
    subst hxy
    congr 1
    refine asc_ext h1.2 h2.2 fun a => ⟨fun ha => ?_, fun ha => ?_⟩
    · rcases List.mem_cons.1 ((h a).1 (by simp [ha])) with e | e
      · exact absurd (e ▸ h1.1 a ha) (lt_ir _)
      · exact e
    · rcases List.mem_cons.1 ((h a).2 (by simp [ha])) with e | e
      · exact absurd (e ▸ h2.1 a ha) (lt_ir _)
      · exact e
theorem compact_asc (d : Array L) (hs : ∀ i j, i ≤ j → j < d.size → d[i]! ≤ d[j]!) : ∀ m, m ≤ d.size → (Lib.compactUpTo d m).Pairwise (· < ·) ∧ ∀ x, x ∈ Lib.compactUpTo d m ↔ ∃ j, j < m ∧ d[j]! = x
  | 0, _ => ⟨by simp [Lib.compactUpTo], fun x => by simp [Lib.compactUpTo]⟩
  | m + 1, hm => by
    obtain ⟨h1, h2⟩ := compact_asc d hs m (by omega)
    rw [Lib.compactUpTo_succ]
    cases hk : Lib.keeps d m with
    | true =>
      have hlt : ∀ x ∈ Lib.compactUpTo d m, x < d[m]! := fun x hx => by
        obtain ⟨j, hj, rfl⟩ := (h2 x).1 hx
        have hne : d[m]! ≠ d[m - 1]! := by
          have := hk
          unfold Lib.keeps at this
          rcases of_decide_eq_true this with e | e
          · omega
          · exact e
        exact le_lt (hs j (m - 1) (by omega) (by omega)) (lt_of_le_ne (hs (m - 1) m (by omega) (by omega)) (Ne.symm hne))
      refine ⟨?_, fun x => ?_⟩
      · rw [if_pos rfl, List.pairwise_append]
        exact ⟨h1, by simp, fun a ha b hb => by simp at hb; subst hb; exact hlt a ha⟩
      · rw [if_pos rfl, List.mem_append, h2]
        constructor
        · rintro (⟨j, hj, e⟩ | h)
          · exact ⟨j, by omega, e⟩
          · simp at h; exact ⟨m, by omega, h.symm⟩
        · rintro ⟨j, hj, e⟩
          by_cases hjm : j < m
          · exact .inl ⟨j, hjm, e⟩
          · obtain rfl : j = m := by omega
            exact .inr (by simp [e])
    | false =>
      rw [if_neg (by simp), List.append_nil]
      refine ⟨h1, fun x => ?_⟩
      rw [h2]
      constructor
      · rintro ⟨j, hj, e⟩
        exact ⟨j, by omega, e⟩
      · rintro ⟨j, hj, e⟩
        by_cases hjm : j < m
        · exact ⟨j, hjm, e⟩
        · obtain rfl : j = m := by omega
          unfold Lib.keeps at hk
          have := of_decide_eq_false hk
          have h0 : ¬ (j = 0) := fun h => this (.inl h)
          have he : d[j]! = d[j - 1]! := Classical.byContradiction fun h => this (.inr h)
          exact ⟨j - 1, by omega, by rw [← he, e]⟩
theorem merge_le (xs : List L) : ∀ i j, i ≤ j → j < (xs.mergeSort fun x y => decide (x ≤ y)).toArray.size → (xs.mergeSort fun x y => decide (x ≤ y)).toArray[i]! ≤ (xs.mergeSort fun x y => decide (x ≤ y)).toArray[j]! := by
  intro i j hij hj
  have hp : (xs.mergeSort fun x y => decide (x ≤ y)).Pairwise fun a b => (decide (a ≤ b)) = true := List.pairwise_mergeSort (le := fun x y => decide (x ≤ y)) (fun a b c h1 h2 => decide_eq_true (List.le_trans (of_decide_eq_true h1) (of_decide_eq_true h2))) (fun a b => by have := List.le_total a b; simpa using this) xs
  generalize xs.mergeSort (fun x y => decide (x ≤ y)) = ys at *
  simp at hj
  by_cases e : i = j
  · subst e
    exact List.le_refl _
  · have := List.pairwise_iff_getElem.1 hp i j (by omega) hj (by omega)
    rw [getElem!_pos ys.toArray i (by simp; omega), getElem!_pos ys.toArray j (by simpa using hj)]
    simpa using this
/-- Sorted and compact: ascending, with the members of the list. -/
theorem sorted_asc (xs : List L) : (Lib.compact (xs.mergeSort fun x y => decide (x ≤ y))).Pairwise (· < ·) ∧ ∀ x, x ∈ Lib.compact (xs.mergeSort fun x y => decide (x ≤ y)) ↔ x ∈ xs := by
  obtain ⟨h1, h2⟩ := compact_asc _ (merge_le xs) (xs.mergeSort fun x y => decide (x ≤ y)).length (by simp)
  refine ⟨h1, fun x => ?_⟩
  unfold Lib.compact
  rw [h2, ← List.mem_mergeSort (le := fun x y => decide (x ≤ y)), List.mem_iff_getElem]
  constructor
  · rintro ⟨j, hj, e⟩
    exact ⟨j, hj, by rw [← e, getElem!_pos _ j (by simpa using hj)]; simp⟩
  · rintro ⟨j, hj, e⟩
    exact ⟨j, hj, by rw [← e, getElem!_pos _ j (by simpa using hj)]; simp⟩

def toL (s : ByteArray) : L := s.data.toList
/-- A text put into an ascending list, each once. -/
def addL : List ByteArray → ByteArray → List ByteArray
  | [], t => [t]
  | x :: xs, t => if Op.bytesLess x.toList t.toList = true then x :: addL xs t else if (x.toList == t.toList) = true then x :: xs else t :: x :: xs
theorem bytesLess_lt : ∀ (x y : L), Op.bytesLess x y = decide (x < y)
  | [], [] => by simp [Op.bytesLess]
  | _ :: _, [] => by simp [Op.bytesLess]
  | [], _ :: _ => by simp [Op.bytesLess]
  | a :: x, b :: y => by
    rw [Op.bytesLess, bytesLess_lt x y]
    simp only [List.cons_lt_cons_iff]
    by_cases h1 : a < b <;> by_cases h2 : a = b <;> by_cases h3 : x < y <;> simp [h1, h2, h3]
theorem toL_inj {a b : ByteArray} (h : toL a = toL b) : a = b := by
  cases a; cases b
  unfold toL at h
  simpa using h
theorem less_toL (x t : ByteArray) : Op.bytesLess x.toList t.toList = decide (toL x < toL t) := by
  rw [ByteArray.toList_eq, ByteArray.toList_eq, bytesLess_lt]; rfl
theorem eq_toL (x t : ByteArray) : (x.toList == t.toList) = decide (x = t) := by
  rw [ByteArray.toList_eq, ByteArray.toList_eq]
  by_cases h : x = t
  · subst h; simp
  · have : ¬ toL x = toL t := fun e => h (toL_inj e)
    unfold toL at this
    rw [decide_eq_false h]
    exact beq_eq_false_iff_ne.2 this
def AscB (ss : List ByteArray) : Prop := ss.Pairwise fun a b => toL a < toL b
theorem addL_mem (t : ByteArray) : ∀ (ss : List ByteArray) (a : ByteArray), a ∈ addL ss t ↔ a ∈ ss ∨ a = t
  | [], a => by simp [addL]
  | x :: xs, a => by
    unfold addL
    split
    · rw [List.mem_cons, addL_mem t xs a, List.mem_cons, or_assoc]
    · split
      · rename_i h
        rw [eq_toL] at h
        have := of_decide_eq_true h
        subst this
        simp
        exact fun h => .inl h
      · rw [List.mem_cons, or_comm]
theorem addL_asc (t : ByteArray) : ∀ (ss : List ByteArray), AscB ss → AscB (addL ss t)
  | [], _ => by simp [addL, AscB]
  | x :: xs, h => by
    unfold AscB at h
    rw [List.pairwise_cons] at h
    unfold addL
    split
    · rename_i hl
      rw [less_toL] at hl
      refine List.pairwise_cons.2 ⟨fun a ha => ?_, addL_asc t xs h.2⟩
      rcases (addL_mem t xs a).1 ha with e | e
      · exact h.1 a e
      · rw [e]; exact of_decide_eq_true hl
    · rename_i hl
      split
      · exact List.pairwise_cons.2 h
      · rename_i he
        rw [less_toL] at hl
        rw [eq_toL] at he
        have h1 : ¬ toL x < toL t := by simpa using hl
        have h2 : ¬ x = t := by simpa using he
        have h3 : toL t < toL x := lt_of_le_ne (List.not_lt.1 h1) (fun e => h2 (toL_inj e.symm))
        refine List.pairwise_cons.2 ⟨fun a ha => ?_, List.pairwise_cons.2 h⟩
        rcases List.mem_cons.1 ha with e | e
        · rw [e]; exact h3
        · exact lt_tr h3 (h.1 a e)
def insAll (ps : List ByteArray) : List ByteArray := ps.foldl addL []
theorem fold_add : ∀ (ps ss : List ByteArray), AscB ss → AscB (ps.foldl addL ss) ∧ ∀ a, a ∈ ps.foldl addL ss ↔ a ∈ ss ∨ a ∈ ps
  | [], ss, h => ⟨h, fun a => by simp⟩
  | p :: ps, ss, h => by
    obtain ⟨h1, h2⟩ := fold_add ps (addL ss p) (addL_asc p ss h)
    refine ⟨h1, fun a => ?_⟩
    rw [List.foldl_cons, h2, addL_mem, List.mem_cons, or_assoc]
def ofL (l : List UInt8) : ByteArray := ⟨l.toArray⟩
theorem map_ofL (ss : List ByteArray) : (ss.map toL).map ofL = ss := by
  rw [List.map_map]
  exact List.map_id'' (fun a => rfl) ss
/-- The model's insertion is the program's sort and compaction. -/
theorem ins_names (ps : List ByteArray) : insAll ps = (Lib.compact ((ps.map toL).mergeSort fun x y => decide (x ≤ y))).map ofL := by
  obtain ⟨h1, h2⟩ := fold_add ps [] List.Pairwise.nil
  obtain ⟨h3, h4⟩ := sorted_asc (ps.map toL)
  rw [← asc_ext (xs := (insAll ps).map toL) (List.pairwise_map.2 h1) h3 fun a => ?_, map_ofL]
  rw [h4, List.mem_map, List.mem_map]
  constructor
  · rintro ⟨b, hb, e⟩
    exact ⟨b, by simpa using (h2 b).1 hb, e⟩
  · rintro ⟨b, hb, e⟩
    exact ⟨b, (h2 b).2 (.inr hb), e⟩
/-- All before place k are less than t. -/
def LtTo (ss : List ByteArray) (t : ByteArray) (k : Nat) : Prop := ∀ (j : Nat) (h : j < ss.length), j < k → Op.bytesLess ss[j].toList t.toList = true
theorem addL_take (t : ByteArray) : ∀ (ss : List ByteArray) (k : Nat), LtTo ss t k → addL ss t = ss.take k ++ addL (ss.drop k) t
  | ss, 0, _ => by simp
  | [], k + 1, _ => by simp
  | x :: xs, k + 1, h => by
    have h0 : Op.bytesLess x.toList t.toList = true := h 0 (by simp) (by omega)
    have := addL_take t xs k fun j hj hk => h (j + 1) (by simpa using hj) (by omega)
    rw [addL, if_pos h0, this]
    rfl
theorem addL_eq {t : ByteArray} {ss : List ByteArray} {k : Nat} (h : LtTo ss t k) (hk : k < ss.length) (h1 : Op.bytesLess ss[k].toList t.toList = false) (h2 : (ss[k].toList == t.toList) = true) : addL ss t = ss := by
  rw [addL_take t ss k h, List.drop_eq_getElem_cons hk, addL, if_neg (by rw [h1]; decide), if_pos h2, ← List.drop_eq_getElem_cons hk, List.take_append_drop]
theorem addL_in {t : ByteArray} {ss : List ByteArray} {k : Nat} (h : LtTo ss t k) (hk : k < ss.length) (h1 : Op.bytesLess ss[k].toList t.toList = false) (h2 : (ss[k].toList == t.toList) = false) : addL ss t = ss.take k ++ [t] ++ ss.drop k := by
  rw [addL_take t ss k h, List.drop_eq_getElem_cons hk, addL, if_neg (by rw [h1]; decide), if_neg (by rw [h2]; decide), List.append_assoc]
  rfl
theorem addL_end {t : ByteArray} {ss : List ByteArray} {k : Nat} (h : LtTo ss t k) (hk : ss.length ≤ k) : addL ss t = ss.take k ++ [t] := by
  rw [addL_take t ss k h, List.drop_of_length_le hk]
  rfl
theorem LtTo.step {ss : List ByteArray} {t : ByteArray} {k : Nat} (h : LtTo ss t k) (hk : k < ss.length) (h1 : Op.bytesLess ss[k].toList t.toList = true) : LtTo ss t (k + 1) := by
  intro j hj hjk
  by_cases e : j = k
  · subst e; exact h1
  · exact h j hj (by omega)
theorem LtTo.zero (ss : List ByteArray) (t : ByteArray) : LtTo ss t 0 := fun _ _ h => absurd h (Nat.not_lt_zero _)
end Go.Proofs.YtbifagdcnpnpjaaGreat
