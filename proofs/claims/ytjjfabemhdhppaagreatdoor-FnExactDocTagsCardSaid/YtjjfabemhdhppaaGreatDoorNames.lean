/- The tags of a text in order, each once: Split, Sort and Compact of the program. -/
import Derived.Test.YtjjfabemhdhppaaGreatDoorSplitAny
import Derived.Test.YtjjfabemhdhppaaGreatDoorShelf2
import Derived.Test.YtjjfabemhdhppaaGreatDoorDocOkPlain
import Derived.Test.YtjjfabemhdhppaaGreatDoorTagsPlain
import Derived.Sort.Grow
import Derived.Lib.RowBridge
namespace Go.Proofs.YtjjfabemhdhppaaGreatDoor
open Go.RowKit Go.Sort
set_option linter.unusedVariables false

theorem ofL_toL (s : ByteArray) : ofL (toL s) = s := rfl
/-- The tags of a text, in order, each once. -/
def sortedL (s : ByteArray) : List (List UInt8) := ((tparts s).map toL).mergeSort fun x y => decide (x ≤ y)
def namesL (s : ByteArray) : List ByteArray := (Lib.compact (sortedL s)).map ofL
theorem sortedL_len (s : ByteArray) : (sortedL s).length = (tparts s).length := by unfold sortedL; rw [List.length_mergeSort, List.length_map]
theorem heap_putRow {α : Type} [Inhabited α] (enc : α → Value) (w : World) (blk off : Nat) (d : Array α) (k : Nat) (h : k ≠ blk) : (putRow enc w blk off d).heap[k]? = w.heap[k]? := by
  unfold putRow mapBlock
  simp [Array.getElem?_modify, Ne.symm h]
theorem below_put (w w' : World) (blk : Nat) (d : Array (List UInt8)) (n : Nat) (hb : Below w.heap.size w w') (h : w.heap.size ≤ blk) : Below w.heap.size w (putRow encStr (Sort.ahead w' n) blk 0 d) :=
  ⟨hb.os, hb.tape, hb.output, by rw [size_putRow]; exact hb.size, fun k hk => (heap_putRow _ _ _ _ _ _ (by omega)).trans (hb.block k hk)⟩
theorem below_grow (w w' : World) (os : Array Obj) (hb : Below w.heap.size w w') : Below w.heap.size w (grow w' os) :=
  ⟨hb.os, hb.tape, hb.output, by rw [size_grow]; have := hb.size; omega, fun k hk => (heap_grow_old _ _ (by have := hb.size; omega)).trans (hb.block k hk)⟩
/-- A block of n cells of texts. -/
def CellsAt (w : World) (g n : Nat) : Prop := ∃ cur, w.heap[g]? = some (.cells cur 9 (0, 0)) ∧ cur.size = n
theorem CellsAt.put {w : World} {g n : Nat} (h : CellsAt w g n) (q : Nat) (d : Array (List UInt8)) : CellsAt (putRow encStr (Sort.ahead w q) g 0 d) g n := by
  obtain ⟨cur, h1, h2⟩ := h
  refine ⟨putCells encStr 0 d cur, ?_, by unfold putCells; rw [Array.size_mapIdx]; exact h2⟩
  unfold putRow mapBlock
  simp only [Array.getElem?_modify, if_true]
  show (w.heap[g]?).map (onCells (putCells encStr 0 d)) = _
  rw [h1]
  rfl
theorem CellsAt.grow {w : World} {g n : Nat} (h : CellsAt w g n) (os : Array Obj) : CellsAt (Sort.grow w os) g n := by
  obtain ⟨cur, h1, h2⟩ := h
  have hg : g < w.heap.size := by
    rcases Nat.lt_or_ge g w.heap.size with h | h
    · exact h
    · rw [Array.getElem?_eq_none h] at h1
      cases h1
  exact ⟨cur, (heap_grow_old _ _ hg).trans h1, h2⟩
/-- A row of texts at the head of a block of its own. -/
def OwnRow (w : World) (g c : Nat) (ss : List ByteArray) : Prop := w.ownsRow g 9 1 (.slice (some ⟨g, 0, none⟩) ss.length c) ss.length (ss.map Value.string)
theorem OwnRow.of {w : World} {g n : Nat} {ss : List ByteArray} (h : CellsAt w g n) (hr : StrRow w (some ⟨g, 0, none⟩) ss) (hn : ss.length ≤ n) (hm : n ≤ maxLen) : OwnRow w g n ss := by
  obtain ⟨cur, h1, h2⟩ := h
  refine ⟨by simp, .inr ⟨g, n, cur, rfl, Nat.le_refl _, h1, hn, hm, by omega, ?_⟩⟩
  apply List.ext_getElem?
  intro i
  by_cases hi : i < ss.length
  · obtain ⟨g', e, _, hc⟩ := hr (by omega)
    cases e
    have hci := hc i hi
    rw [List.getElem?_take, if_pos (by omega), List.getElem?_map, List.getElem?_eq_getElem hi]
    rw [List.getD_eq_getElem?_getD, List.getElem?_eq_getElem hi] at hci
    simp [World.cell?, h1] at hci
    simpa using hci
  · rw [List.getElem?_eq_none (by simp; omega), List.getElem?_eq_none (by simp; omega)]
theorem OwnRow.row {w : World} {g c : Nat} {ss : List ByteArray} (h : OwnRow w g c ss) : StrRow w (some ⟨g, 0, none⟩) ss := by
  obtain ⟨p, c', e, hr⟩ := owns_strRow h
  cases e
  exact hr
theorem OwnRow.le {w : World} {g c : Nat} {ss : List ByteArray} (h : OwnRow w g c ss) : ss.length ≤ c := by
  rcases h.2 with ⟨e, _⟩ | ⟨g', c', cur, e, _, _, h, _⟩
  · cases e
  · cases e; exact h
theorem OwnRow.heap {w w' : World} {g c : Nat} {ss : List ByteArray} (h : OwnRow w g c ss) (he : w'.heap[g]? = w.heap[g]?) : OwnRow w' g c ss := by
  refine ⟨h.1, ?_⟩
  rcases h.2 with h2 | ⟨g', c', cur, e, h3, h4, h5⟩
  · exact .inl h2
  · cases e
    exact .inr ⟨g, c, cur, rfl, h3, he.trans h4, h5⟩
theorem OwnRow.lt {w : World} {g c : Nat} {ss : List ByteArray} (h : OwnRow w g c ss) : g < w.heap.size := by
  rcases h.2 with ⟨e, _⟩ | ⟨g', c', cur, e, _, h4, _⟩
  · cases e
  · cases e
    rcases Nat.lt_or_ge g w.heap.size with h | h
    · exact h
    · rw [Array.getElem?_eq_none h] at h4
      cases h4
theorem OwnRow.below {w w' : World} {g c : Nat} {ss : List ByteArray} (h : OwnRow w g c ss) (hb : Below w.heap.size w w') : OwnRow w' g c ss := h.heap (hb.block g h.lt)
theorem OwnRow.set {w : World} {g c : Nat} {ss : List ByteArray} (h : OwnRow w g c ss) {p : Addr} (hne : g ≠ p.block) (v : Value) : OwnRow (w.setCell p v) g c ss := h.heap (Below.heap_setCell _ _ _ _ hne)
theorem alloc_at (w : World) (o : Obj) : (w.alloc o).heap[w.heap.size]? = some o := Array.getElem?_push_size
theorem split_new (s : ByteArray) (b : UInt8) (w : World) (hs : s.size ≤ 1048576) (hm : MaxL w) :
    Calls Tryz.prog 60 #[.string s, .string ⟨#[b]⟩] w fun e w' => e = .returned (.slice (some ⟨w.heap.size, 0, none⟩) (manyB b s + 1) (manyB b s + 1)) ∧ Holds encStr w' w.heap.size 0 ((cuts b (manyB b s) s).map toL).toArray ∧ w.heap.size < w'.heap.size ∧ CellsAt w' w.heap.size (manyB b s + 1) ∧ Below w.heap.size w w' := by
  obtain ⟨m, hm⟩ := hm
  refine (Tryz.strings_Split s ⟨#[b]⟩ m w (by omega) hm (Nat.le_refl 1)).mono ?_
  rintro e w' ⟨rfl, rfl⟩
  refine ⟨rfl, fun j hj => ?_, by simp, ⟨((cuts b (manyB b s) s).map Value.string).toArray, alloc_at w _, by have := cuts_full_len b s; simpa using this⟩, (Below.refl _ w).alloc (Nat.le_refl _) _⟩
  simp only [List.size_toArray, List.length_map] at hj
  rw [Nat.zero_add]
  constructor
  · rw [World.cell?_alloc_new]
    show (((cuts b (manyB b s) s).map Value.string).toArray)[j]? = _
    rw [List.getElem?_toArray, List.getElem?_map, List.getElem?_eq_getElem hj, getElem!_pos _ j (by simpa using hj)]
    simp [encStr, toL]
  · exact World.frozen?_alloc_new _ _ _ _

set_option maxHeartbeats 1000000 in
theorem names_any (s : ByteArray) (w : World) (hs : s.size ≤ 1048576) (hm : MaxL w) :
    Calls Tryz.prog 52 #[.string s] w fun e w' => ∃ c, e = .returned (.slice (some ⟨w.heap.size, 0, none⟩) (namesL s).length c) ∧ OwnRow w' w.heap.size c (namesL s) ∧ Below w.heap.size w w' := by
  have hlen : (tparts s).length = manyB 44 s + 1 := cuts_full_len 44 s
  have hmn := manyB_le 44 s
  obtain ⟨n, hn⟩ : ∃ n, n = manyB 44 s + 1 := ⟨_, rfl⟩
  have HSP : Hid (∀ w, MaxL w → Calls Tryz.prog 60 #[.string s, .string ⟨#[44]⟩] w fun e w' => e = .returned (.slice (some ⟨w.heap.size, 0, none⟩) n n) ∧ Holds encStr w' w.heap.size 0 ((tparts s).map toL).toArray ∧ w.heap.size < w'.heap.size ∧ CellsAt w' w.heap.size n ∧ Below w.heap.size w w') := fun w hm => by rw [hn]; exact split_new s 44 w hs hm
  have HSO : Hid (∀ g wx, Holds encStr wx g 0 ((tparts s).map toL).toArray → g < wx.heap.size → Calls Tryz.prog 61 #[.slice (some ⟨g, 0, none⟩) n n] wx fun e w' => e = .returned (.tuple #[]) ∧ ∃ q os, w' = grow (putRow encStr (Sort.ahead wx q) g 0 (sortedL s).toArray) os) := fun g wx h1 h2 => by
    have h := Tryz.slices_Sort_string g 0 n ((tparts s).map toL) wx h1 h2 (by rw [List.length_map]; omega)
    rw [List.length_map, hlen, ← hn] at h
    exact h
  have HCO : Hid (∀ g wx, Holds encStr wx g 0 (sortedL s).toArray → Calls Tryz.prog 62 #[.slice (some ⟨g, 0, none⟩) n n] wx fun e w' => e = .returned (.slice (some ⟨g, 0, none⟩) (namesL s).length n) ∧ ∃ q, w' = putRow encStr (Sort.ahead wx q) g 0 (Lib.compact (sortedL s) ++ List.replicate (n - (Lib.compact (sortedL s)).length) []).toArray) := fun g wx h1 => by
    have h := Tryz.slices_Compact_string g 0 n (sortedL s) wx h1 (by rw [sortedL_len]; omega) (by rw [sortedL_len]; omega)
    rw [sortedL_len, hlen, ← hn] at h
    rw [show (namesL s).length = (Lib.compact (sortedL s)).length from List.length_map _]
    exact h
  have HCL : Hid ((Lib.compact (sortedL s)).length ≤ n) := by
    have := Lib.compact_length_le (sortedL s)
    rw [sortedL_len] at this
    unfold Hid
    omega
  have HSL : Hid ((sortedL s).length = n) := by unfold Hid; rw [sortedL_len, hlen, hn]
  have HTL : Hid ((tparts s).length = n) := by unfold Hid; rw [hlen, hn]
  have hnm : n ≤ 2000000 := by omega
  clear hn hlen hmn
  go_enter Tryz.func52, Tryz.ntmps52
  go_wp2_with fail
  refine (HSP.out _ hm).mono ?_
  rintro e w1 ⟨rfl, hh1, hz1, hC1, hb1⟩
  clear HSP hm
  go_wp2_with fail
  refine (HSO.out _ _ hh1 hz1).mono ?_
  rintro e w2 ⟨rfl, q, os, rfl⟩
  have hh2 : Holds encStr (grow (putRow encStr (Sort.ahead w1 q) w.heap.size 0 (sortedL s).toArray) os) w.heap.size 0 (sortedL s).toArray := holds_grow _ _ _ _ _ _ (by rw [size_putRow]; exact hz1) (holds_putRow _ _ _ _ _ _ (holds_ahead _ _ _ _ _ _ hh1) (by simp [HSL.out, HTL.out]))
  have hb2 := below_grow w _ os (below_put w w1 w.heap.size (sortedL s).toArray q hb1 (Nat.le_refl _))
  have hC2 := (hC1.put q (sortedL s).toArray).grow os
  clear hh1 hz1 hb1 HSO hC1
  generalize grow (putRow encStr (Sort.ahead w1 q) w.heap.size 0 (sortedL s).toArray) os = w2 at *
  go_wp2_with fail
  refine (HCO.out _ _ hh2).mono ?_
  rintro e w3 ⟨rfl, q3, rfl⟩
  have hb3 := below_put w w2 w.heap.size (Lib.compact (sortedL s) ++ List.replicate (n - (Lib.compact (sortedL s)).length) []).toArray q3 hb2 (Nat.le_refl _)
  have hrow : StrRow (putRow encStr (Sort.ahead w2 q3) w.heap.size 0 (Lib.compact (sortedL s) ++ List.replicate (n - (Lib.compact (sortedL s)).length) []).toArray) (some ⟨w.heap.size, 0, none⟩) (namesL s) := fun hp => by
    have hsz : (Lib.compact (sortedL s) ++ List.replicate (n - (Lib.compact (sortedL s)).length) ([] : List UInt8)).toArray.size = (sortedL s).toArray.size := by
      have := HCL.out
      have := HSL.out
      simp
      omega
    refine ⟨_, rfl, ?_, fun i hi => ?_⟩
    · rw [size_putRow]
      exact cell_lt (hh2 0 (by have := HCL.out; have := HSL.out; unfold namesL at hp; simp at hp ⊢; omega)).1
    · have hi2 : i < (Lib.compact (sortedL s)).length := by unfold namesL at hi; simpa using hi
      have h := cell?_putRow encStr (Sort.ahead w2 q3) w.heap.size 0 (sortedL s).toArray _ (holds_ahead _ _ _ _ _ _ hh2) hsz i (by rw [List.size_toArray, List.length_append]; omega)
      rw [Nat.zero_add] at h
      rw [h, getElem!_pos _ i (by rw [List.size_toArray, List.length_append]; omega)]
      unfold namesL ofL
      rw [List.getD_eq_getElem?_getD, List.getElem?_map, List.getElem?_eq_getElem hi2]
      simp [List.getElem_append_left hi2]
  have hle : (namesL s).length ≤ n := by unfold namesL; rw [List.length_map]; exact HCL.out
  have hown := OwnRow.of (hC2.put q3 _) hrow hle (by unfold maxLen; omega)
  clear HCO hh2 HCL HSL HTL hrow hle hC2
  go_wp2
  go_ret
  exact ⟨n, rfl, hown, hb3⟩
end Go.Proofs.YtjjfabemhdhppaaGreatDoor
