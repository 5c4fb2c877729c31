/- Names, AssertC, Told, DocTold, DocNum, DocNumS, DocTags, DocLaw: in one text. -/
import Derived.Test.YtjjfabemhdhppaaDoorSplitAny
import Derived.Test.YtjjfabemhdhppaaDoorShelf2
import Derived.Test.YtjjfabemhdhppaaDoorDocOkPlain
import Derived.Test.YtjjfabemhdhppaaDoorTagsPlain
import Derived.Sort.Grow
import Derived.Lib.RowBridge
import Derived.Test.YtjjfabemhdhppaaDoorNumTag
import Derived.Stop.Asserts
import Derived.Test.YtjjfabemhdhppaaDoorDocText
import Derived.Test.YtjjfabemhdhppaaDoorDocOkI
import Derived.Test.YtjjfabemhdhppaaDoorDocOkS
import Derived.Test.YtjjfabemhdhppaaDoorL2Add
import Derived.Test.YtjjfabemhdhppaaDoorL2Tags
/- The tags of a text in order, each once: Split, Sort and Compact of the program. -/
namespace Go.Proofs.YtjjfabemhdhppaaDoor
open Go.RowKit Go.Sort
set_option linter.unusedVariables false

theorem ofL_toL (s : ByteArray) : ofL (toL s) = s := rfl
/-- The tags of a text, in order, each once. -/
def sortedL (s : ByteArray) : List (List UInt8) := ((tparts s).map toL).mergeSort fun x y => decide (x ≤ y)
def namesL (s : ByteArray) : List ByteArray := (Lib.compact (sortedL s)).map ofL
theorem sortedL_len (s : ByteArray) : (sortedL s).length = (tparts s).length := by unfold sortedL; rw [List.length_mergeSort, List.length_map]
theorem heap_putRow {α : Type} [Inhabited α] (enc : α → Value) (w : World) (blk off : Nat) (d : Array α) (k : Nat) (h : k ≠ blk) : (putRow enc w blk off d).heap[k]? = w.heap[k]? := by
  unfold putRow mapBlock
  simp [Array.getElem?_modify, Ne.symm h]
theorem below_put (w w' : World) (blk : Nat) (d : Array (List UInt8)) (n : Nat) (hb : Below w.heap.size w w') (h : w.heap.size ≤ blk) : Below w.heap.size w (putRow encStr (Sort.ahead w' n) blk 0 d) :=
  ⟨hb.os, hb.tape, hb.output, by rw [size_putRow]; exact hb.size, fun k hk => (heap_putRow _ _ _ _ _ _ (by omega)).trans (hb.block k hk)⟩
theorem below_grow (w w' : World) (os : Array Obj) (hb : Below w.heap.size w w') : Below w.heap.size w (grow w' os) :=
  ⟨hb.os, hb.tape, hb.output, by rw [size_grow]; have := hb.size; omega, fun k hk => (heap_grow_old _ _ (by have := hb.size; omega)).trans (hb.block k hk)⟩
/-- A block of n cells of texts. -/
def CellsAt (w : World) (g n : Nat) : Prop := ∃ cur, w.heap[g]? = some (.cells cur 9 (0, 0)) ∧ cur.size = n
theorem CellsAt.put {w : World} {g n : Nat} (h : CellsAt w g n) (q : Nat) (d : Array (List UInt8)) : CellsAt (putRow encStr (Sort.ahead w q) g 0 d) g n := by
  obtain ⟨cur, h1, h2⟩ := h
  refine ⟨putCells encStr 0 d cur, ?_, by unfold putCells; rw [Array.size_mapIdx]; exact h2⟩
  unfold putRow mapBlock
  simp only [Array.getElem?_modify, if_true]
  show (w.heap[g]?).map (onCells (putCells encStr 0 d)) = _
  rw [h1]
  rfl
theorem CellsAt.grow {w : World} {g n : Nat} (h : CellsAt w g n) (os : Array Obj) : CellsAt (Sort.grow w os) g n := by
  obtain ⟨cur, h1, h2⟩ := h
  have hg : g < w.heap.size := by
    rcases Nat.lt_or_ge g w.heap.size with h | h
    · exact h
    · rw [Array.getElem?_eq_none h] at h1
      cases h1
  exact ⟨cur, (heap_grow_old _ _ hg).trans h1, h2⟩
/-- A row of texts at the head of a block of its own. -/
def OwnRow (w : World) (g c : Nat) (ss : List ByteArray) : Prop := w.ownsRow g 9 1 (.slice (some ⟨g, 0, none⟩) ss.length c) ss.length (ss.map Value.string)
theorem OwnRow.of {w : World} {g n : Nat} {ss : List ByteArray} (h : CellsAt w g n) (hr : StrRow w (some ⟨g, 0, none⟩) ss) (hn : ss.length ≤ n) (hm : n ≤ maxLen) : OwnRow w g n ss := by
  obtain ⟨cur, h1, h2⟩ := h
  refine ⟨by simp, .inr ⟨g, n, cur, rfl, Nat.le_refl _, h1, hn, hm, by omega, ?_⟩⟩
  apply List.ext_getElem?
  intro i
  by_cases hi : i < ss.length
  · obtain ⟨g', e, _, hc⟩ := hr (by omega)
    cases e
    have hci := hc i hi
    rw [List.getElem?_take, if_pos (by omega), List.getElem?_map, List.getElem?_eq_getElem hi]
    rw [List.getD_eq_getElem?_getD, List.getElem?_eq_getElem hi] at hci
    simp [World.cell?, h1] at hci
    simpa using hci
  · rw [List.getElem?_eq_none (by simp; omega), List.getElem?_eq_none (by simp; omega)]
theorem OwnRow.row {w : World} {g c : Nat} {ss : List ByteArray} (h : OwnRow w g c ss) : StrRow w (some ⟨g, 0, none⟩) ss := by
  obtain ⟨p, c', e, hr⟩ := owns_strRow h
  cases e
  exact hr
theorem OwnRow.le {w : World} {g c : Nat} {ss : List ByteArray} (h : OwnRow w g c ss) : ss.length ≤ c := by
  rcases h.2 with ⟨e, _⟩ | ⟨g', c', cur, e, _, _, h, _⟩
  · cases e
  · cases e; exact h
theorem OwnRow.heap {w w' : World} {g c : Nat} {ss : List ByteArray} (h : OwnRow w g c ss) (he : w'.heap[g]? = w.heap[g]?) : OwnRow w' g c ss := by
  refine ⟨h.1, ?_⟩
  rcases h.2 with h2 | ⟨g', c', cur, e, h3, h4, h5⟩
  · exact .inl h2
  · cases e
    exact .inr ⟨g, c, cur, rfl, h3, he.trans h4, h5⟩
theorem OwnRow.lt {w : World} {g c : Nat} {ss : List ByteArray} (h : OwnRow w g c ss) : g < w.heap.size := by
  rcases h.2 with ⟨e, _⟩ | ⟨g', c', cur, e, _, h4, _⟩
  · cases e
  · cases e
    rcases Nat.lt_or_ge g w.heap.size with h | h
    · exact h
    · rw [Array.getElem?_eq_none h] at h4
      cases h4
theorem OwnRow.below {w w' : World} {g c : Nat} {ss : List ByteArray} (h : OwnRow w g c ss) (hb : Below w.heap.size w w') : OwnRow w' g c ss := h.heap (hb.block g h.lt)
theorem OwnRow.set {w : World} {g c : Nat} {ss : List ByteArray} (h : OwnRow w g c ss) {p : Addr} (hne : g ≠ p.block) (v : Value) : OwnRow (w.setCell p v) g c ss := h.heap (Below.heap_setCell _ _ _ _ hne)
theorem alloc_at (w : World) (o : Obj) : (w.alloc o).heap[w.heap.size]? = some o := Array.getElem?_push_size
theorem split_new (s : ByteArray) (b : UInt8) (w : World) (hs : s.size ≤ 1048576) (hm : MaxL w) :
    Calls Tryd.prog 61 #[.string s, .string ⟨#[b]⟩] w fun e w' => e = .returned (.slice (some ⟨w.heap.size, 0, none⟩) (manyB b s + 1) (manyB b s + 1)) ∧ Holds encStr w' w.heap.size 0 ((cuts b (manyB b s) s).map toL).toArray ∧ w.heap.size < w'.heap.size ∧ CellsAt w' w.heap.size (manyB b s + 1) ∧ Below w.heap.size w w' := by
  obtain ⟨m, hm⟩ := hm
  refine (Tryd.strings_Split s ⟨#[b]⟩ m w (by omega) hm (Nat.le_refl 1)).mono ?_
  rintro e w' ⟨rfl, rfl⟩
  refine ⟨rfl, fun j hj => ?_, by simp, ⟨((cuts b (manyB b s) s).map Value.string).toArray, alloc_at w _, by have := cuts_full_len b s; simpa using this⟩, (Below.refl _ w).alloc (Nat.le_refl _) _⟩
  simp only [List.size_toArray, List.length_map] at hj
  rw [Nat.zero_add]
  constructor
  · rw [World.cell?_alloc_new]
    show (((cuts b (manyB b s) s).map Value.string).toArray)[j]? = _
    rw [List.getElem?_toArray, List.getElem?_map, List.getElem?_eq_getElem hj, getElem!_pos _ j (by simpa using hj)]
    simp [encStr, toL]
  · exact World.frozen?_alloc_new _ _ _ _

set_option maxHeartbeats 1000000 in
theorem names_any (s : ByteArray) (w : World) (hs : s.size ≤ 1048576) (hm : MaxL w) :
    Calls Tryd.prog 54 #[.string s] w fun e w' => ∃ c, e = .returned (.slice (some ⟨w.heap.size, 0, none⟩) (namesL s).length c) ∧ OwnRow w' w.heap.size c (namesL s) ∧ Below w.heap.size w w' := by
  have hlen : (tparts s).length = manyB 44 s + 1 := cuts_full_len 44 s
  have hmn := manyB_le 44 s
  obtain ⟨n, hn⟩ : ∃ n, n = manyB 44 s + 1 := ⟨_, rfl⟩
  have HSP : Hid (∀ w, MaxL w → Calls Tryd.prog 61 #[.string s, .string ⟨#[44]⟩] w fun e w' => e = .returned (.slice (some ⟨w.heap.size, 0, none⟩) n n) ∧ Holds encStr w' w.heap.size 0 ((tparts s).map toL).toArray ∧ w.heap.size < w'.heap.size ∧ CellsAt w' w.heap.size n ∧ Below w.heap.size w w') := fun w hm => by rw [hn]; exact split_new s 44 w hs hm
  have HSO : Hid (∀ g wx, Holds encStr wx g 0 ((tparts s).map toL).toArray → g < wx.heap.size → Calls Tryd.prog 62 #[.slice (some ⟨g, 0, none⟩) n n] wx fun e w' => e = .returned (.tuple #[]) ∧ ∃ q os, w' = grow (putRow encStr (Sort.ahead wx q) g 0 (sortedL s).toArray) os) := fun g wx h1 h2 => by
    have h := Tryd.slices_Sort_string g 0 n ((tparts s).map toL) wx h1 h2 (by rw [List.length_map]; omega)
    rw [List.length_map, hlen, ← hn] at h
    exact h
  have HCO : Hid (∀ g wx, Holds encStr wx g 0 (sortedL s).toArray → Calls Tryd.prog 63 #[.slice (some ⟨g, 0, none⟩) n n] wx fun e w' => e = .returned (.slice (some ⟨g, 0, none⟩) (namesL s).length n) ∧ ∃ q, w' = putRow encStr (Sort.ahead wx q) g 0 (Lib.compact (sortedL s) ++ List.replicate (n - (Lib.compact (sortedL s)).length) []).toArray) := fun g wx h1 => by
    have h := Tryd.slices_Compact_string g 0 n (sortedL s) wx h1 (by rw [sortedL_len]; omega) (by rw [sortedL_len]; omega)
    rw [sortedL_len, hlen, ← hn] at h
    rw [show (namesL s).length = (Lib.compact (sortedL s)).length from List.length_map _]
    exact h
  have HCL : Hid ((Lib.compact (sortedL s)).length ≤ n) := by
    have := Lib.compact_length_le (sortedL s)
    rw [sortedL_len] at this
    unfold Hid
    omega
  have HSL : Hid ((sortedL s).length = n) := by unfold Hid; rw [sortedL_len, hlen, hn]
  have HTL : Hid ((tparts s).length = n) := by unfold Hid; rw [hlen, hn]
  have hnm : n ≤ 2000000 := by omega
  clear hn hlen hmn
  go_enter Tryd.func54, Tryd.ntmps54
  go_wp2_with fail
  refine (HSP.out _ hm).mono ?_
  rintro e w1 ⟨rfl, hh1, hz1, hC1, hb1⟩
  clear HSP hm
  go_wp2_with fail
  refine (HSO.out _ _ hh1 hz1).mono ?_
  rintro e w2 ⟨rfl, q, os, rfl⟩
  have hh2 : Holds encStr (grow (putRow encStr (Sort.ahead w1 q) w.heap.size 0 (sortedL s).toArray) os) w.heap.size 0 (sortedL s).toArray := holds_grow _ _ _ _ _ _ (by rw [size_putRow]; exact hz1) (holds_putRow _ _ _ _ _ _ (holds_ahead _ _ _ _ _ _ hh1) (by simp [HSL.out, HTL.out]))
  have hb2 := below_grow w _ os (below_put w w1 w.heap.size (sortedL s).toArray q hb1 (Nat.le_refl _))
  have hC2 := (hC1.put q (sortedL s).toArray).grow os
  clear hh1 hz1 hb1 HSO hC1
  generalize grow (putRow encStr (Sort.ahead w1 q) w.heap.size 0 (sortedL s).toArray) os = w2 at *
  go_wp2_with fail
  refine (HCO.out _ _ hh2).mono ?_
  rintro e w3 ⟨rfl, q3, rfl⟩
  have hb3 := below_put w w2 w.heap.size (Lib.compact (sortedL s) ++ List.replicate (n - (Lib.compact (sortedL s)).length) []).toArray q3 hb2 (Nat.le_refl _)
  have hrow : StrRow (putRow encStr (Sort.ahead w2 q3) w.heap.size 0 (Lib.compact (sortedL s) ++ List.replicate (n - (Lib.compact (sortedL s)).length) []).toArray) (some ⟨w.heap.size, 0, none⟩) (namesL s) := fun hp => by
    have hsz : (Lib.compact (sortedL s) ++ List.replicate (n - (Lib.compact (sortedL s)).length) ([] : List UInt8)).toArray.size = (sortedL s).toArray.size := by
      have := HCL.out
      have := HSL.out
      simp
      omega
    refine ⟨_, rfl, ?_, fun i hi => ?_⟩
    · rw [size_putRow]
      exact cell_lt (hh2 0 (by have := HCL.out; have := HSL.out; unfold namesL at hp; simp at hp ⊢; omega)).1
    · have hi2 : i < (Lib.compact (sortedL s)).length := by unfold namesL at hi; simpa using hi
      have h := cell?_putRow encStr (Sort.ahead w2 q3) w.heap.size 0 (sortedL s).toArray _ (holds_ahead _ _ _ _ _ _ hh2) hsz i (by rw [List.size_toArray, List.length_append]; omega)
      rw [Nat.zero_add] at h
      rw [h, getElem!_pos _ i (by rw [List.size_toArray, List.length_append]; omega)]
      unfold namesL ofL
      rw [List.getD_eq_getElem?_getD, List.getElem?_map, List.getElem?_eq_getElem hi2]
      simp [List.getElem_append_left hi2]
  have hle : (namesL s).length ≤ n := by unfold namesL; rw [List.length_map]; exact HCL.out
  have hown := OwnRow.of (hC2.put q3 _) hrow hle (by unfold maxLen; omega)
  clear HCO hh2 HCL HSL HTL hrow hle hC2
  go_wp2
  go_ret
  exact ⟨n, rfl, hown, hb3⟩
end Go.Proofs.YtjjfabemhdhppaaDoor

/- What the program's type switch on a content answers. -/
namespace Go.Proofs.YtjjfabemhdhppaaDoor
open Go.RowKit
variable (s : ByteArray) (w : World)
theorem asNumNum : (Instr.typeAssert (.iface 77 (.string s)) 61 77 true).run Tryd.prog w = .ok (.tuple #[.string s, .bool true]) w := by
  simp [Instr.typeAssert, run_underlying Tryd.underlying77, typeInfo]
theorem asNumTag : (Instr.typeAssert (.iface 78 (.string s)) 61 77 true).run Tryd.prog w = .ok (.tuple #[.string ⟨#[]⟩, .bool false]) w := by
  simp [Instr.typeAssert, run_underlying Tryd.underlying77, typeInfo, Tryd.zeroValue77]
theorem asNumText : (Instr.typeAssert (.iface 79 (.string s)) 61 77 true).run Tryd.prog w = .ok (.tuple #[.string ⟨#[]⟩, .bool false]) w := by
  simp [Instr.typeAssert, run_underlying Tryd.underlying77, typeInfo, Tryd.zeroValue77]
theorem asTagTag : (Instr.typeAssert (.iface 78 (.string s)) 61 78 true).run Tryd.prog w = .ok (.tuple #[.string s, .bool true]) w := by
  simp [Instr.typeAssert, run_underlying Tryd.underlying78, typeInfo]
theorem asTagText : (Instr.typeAssert (.iface 79 (.string s)) 61 78 true).run Tryd.prog w = .ok (.tuple #[.string ⟨#[]⟩, .bool false]) w := by
  simp [Instr.typeAssert, run_underlying Tryd.underlying78, typeInfo, Tryd.zeroValue78]
end Go.Proofs.YtjjfabemhdhppaaDoor

/- What a cell says of a kind. -/
namespace Go.Proofs.YtjjfabemhdhppaaDoor
open Go.RowKit
set_option linter.unusedVariables false

def cnum (k : Int) (s : ByteArray) : Int := if k = 2 then numW s else 0
def cisn (k : Int) (s : ByteArray) : Bool := if k = 2 then numT s else false
theorem cnum_two (s : ByteArray) : cnum 2 s = numW s := rfl
theorem cisn_two (s : ByteArray) : cisn 2 s = numT s := rfl
theorem cnum_not {k : Int} (h : k ≠ 2) (s : ByteArray) : cnum k s = 0 := if_neg h
theorem cisn_not {k : Int} (h : k ≠ 2) (s : ByteArray) : cisn k s = false := if_neg h
/-- The tags that a cell says: a row of the call's own, or none. -/
def TagsV (b0 : Nat) (w : World) (k : Int) (s : ByteArray) (v : Value) : Prop :=
  (k = 3 ∧ ∃ g c, v = .slice (some ⟨g, 0, none⟩) (namesL s).length c ∧ (namesL s).length ≤ c ∧ b0 ≤ g ∧ OwnRow w g c (namesL s)) ∨ (k ≠ 3 ∧ v = .slice none 0 0)
theorem TagsV.below {b0 : Nat} {w w' : World} {k : Int} {s : ByteArray} {v : Value} (h : TagsV b0 w k s v) (hb : Below w.heap.size w w') : TagsV b0 w' k s v := by
  rcases h with ⟨h1, g, c, e, h2, h3, h4⟩ | h
  · exact .inl ⟨h1, g, c, e, h2, h3, h4.below hb⟩
  · exact .inr h

attribute [local go_sem] asNumNum asNumTag asNumText asTagTag asTagText
set_option maxHeartbeats 1000000 in
set_option maxRecDepth 100000 in
theorem contentTold_any (k : Int) (s : ByteArray) (w : World) (hs : s.size ≤ 1048576) (hm : MaxL w) :
    Calls Tryd.prog 38 #[.iface (ctype k) (.string s)] w fun e w' => ∃ v, e = .returned (.agg #[.int .i64 (cnum k s), .bool (cisn k s), v]) ∧ TagsV w.heap.size w' k s v ∧ Below w.heap.size w w' := by
  by_cases h2 : k = 2
  · subst h2
    rw [cnum_two, cisn_two, show ctype 2 = 77 from rfl]
    have HT : Hid (∀ w', TagsV w.heap.size w' 2 s (.slice none 0 0)) := fun w' => .inr ⟨by decide, rfl⟩
    have HN : Hid (∀ wx, Calls Tryd.prog 53 #[.string s] wx fun e w' => e = .returned (.tuple #[.int .i64 (numW s), .bool (numT s)]) ∧ w' = wx) := fun wx => numGet_any s wx hs
    clear hm
    generalize numW s = n at *
    generalize numT s = b at *
    go_enter Tryd.func38, Tryd.ntmps38
    go_wp2_with fail
    refine (HN.out _).mono ?_
    rintro e w1 ⟨rfl, rfl⟩
    go_wp2
    exact bodyPost_ret (v := .agg #[.int .i64 n, .bool b, .slice none 0 0]) (by simp [results, Tryd.results38, go_sem]) rfl ⟨_, rfl, HT.out _, (Below.refl _ _).alloc (Nat.le_refl _) _⟩
  · rw [cnum_not h2, cisn_not h2]
    by_cases h3 : k = 3
    · subst h3
      rw [show ctype 3 = 78 from rfl]
      have HN : Hid (∀ wx, MaxL wx → Calls Tryd.prog 54 #[.string s] wx fun e w' => ∃ c, e = .returned (.slice (some ⟨wx.heap.size, 0, none⟩) (namesL s).length c) ∧ OwnRow w' wx.heap.size c (namesL s) ∧ Below wx.heap.size wx w') := fun wx h => names_any s wx hs h
      have HT : Hid (∀ w' g c, (namesL s).length ≤ c → w.heap.size ≤ g → OwnRow w' g c (namesL s) → TagsV w.heap.size w' 3 s (.slice (some ⟨g, 0, none⟩) (namesL s).length c)) := fun w' g c h1 h2 h3 => .inl ⟨rfl, g, c, rfl, h1, h2, h3⟩
      obtain ⟨L, hL⟩ : ∃ L, L = namesL s := ⟨_, rfl⟩
      rw [← hL] at HN HT
      clear hL
      have B0 := Blk.new w #[.int .i64 0, .bool false, .slice none 0 0] 46
      have hb0 : Below w.heap.size w (w.alloc (.cells #[.int .i64 0, .bool false, .slice none 0 0] 46)) := (Below.refl _ w).alloc (Nat.le_refl _) _
      go_enter Tryd.func38, Tryd.ntmps38
      go_wp2_with fail
      refine (HN.out _ (hm.below hb0)).mono ?_
      rintro e w1 ⟨c, rfl, hr, hb⟩
      have hc := hr.le
      have HC : Hid (L.length ≤ c) := hc
      have B1 := B0.below hb B0.lt
      have k0 := B1.cell 0
      have k1 := B1.cell 1
      have k2 := B1.cell 2
      have y0 := B1.frozen 0
      have y1 := B1.frozen 1
      have y2 := B1.frozen 2
      have hz1 := B1.lt
      simp at k0 k1 k2
      have hbw := below_trans hb0 hb
      have HR : Hid (OwnRow w1 (w.heap.size + 1) c L) := by
        rw [show (w.alloc (.cells #[.int .i64 0, .bool false, .slice none 0 0] 46)).heap.size = w.heap.size + 1 from by simp] at hr
        exact hr
      clear HN hc hr hb B0 B1 hb0 hm
      go_wp2
      refine bodyPost_ret (v := .agg #[.int .i64 0, .bool false, .slice (some ⟨w.heap.size + 1, 0, none⟩) L.length c]) (by simp [results, Tryd.results38, go_sem, k0, k1, k2]) rfl ⟨_, rfl, HT.out _ _ _ HC.out (Nat.le_succ _) ?_, ?_⟩
      · exact ((HR.out.set (by show w.heap.size + 1 ≠ w.heap.size; omega) _).set (by show w.heap.size + 1 ≠ w.heap.size; omega) _).set (by show w.heap.size + 1 ≠ w.heap.size; omega) _
      · exact ((hbw.setCell (Nat.le_refl _) _).setCell (Nat.le_refl _) _).setCell (Nat.le_refl _) _
    · have HT : Hid (∀ w', TagsV w.heap.size w' k s (.slice none 0 0)) := fun w' => .inr ⟨h3, rfl⟩
      rw [show ctype k = 79 from by unfold ctype; rw [if_neg h2, if_neg h3]]
      clear h2 h3
      go_enter Tryd.func38, Tryd.ntmps38
      go_wp2
      exact bodyPost_ret (v := .agg #[.int .i64 0, .bool false, .slice none 0 0]) (by simp [results, Tryd.results38, go_sem]) rfl ⟨_, rfl, HT.out _, (Below.refl _ _).alloc (Nat.le_refl _) _⟩
end Go.Proofs.YtjjfabemhdhppaaDoor

/- What a document says in a field. -/
namespace Go.Proofs.YtjjfabemhdhppaaDoor
open Go.RowKit
set_option linter.unusedVariables false

/-- The kind of the field of a name, where an ok document has it; else 0. -/
def toldK (fs : List Fld) (key : ByteArray) (cs : List Cel) (n : ByteArray) : Int := if (docOkB fs key cs && docH cs n) = true then (fat fs (fidx fs n)).kind else 0
theorem toldK_no {fs : List Fld} {key : ByteArray} {cs : List Cel} {n : ByteArray} (h : (docOkB fs key cs && docH cs n) = false) : toldK fs key cs n = 0 := by unfold toldK; rw [h]; rfl
theorem toldK_yes {fs : List Fld} {key : ByteArray} {cs : List Cel} {n : ByteArray} (h1 : docOkB fs key cs = true) (h2 : docH cs n = true) : toldK fs key cs n = (fat fs (fidx fs n)).kind := by unfold toldK; rw [h1, h2]; rfl
theorem found_kind {fs : List Fld} {n : ByteArray} {f : Fld} {b : Bool} (h : FoundF fs n f b) : f = fat fs (fidx fs n) := by
  rcases h with ⟨rfl, k, hk, rfl, h1, h2⟩ | ⟨rfl, rfl, h2⟩
  · rw [fidx_at hk h1 h2]
  · rw [fidx_none h2]
    simp [fat]
theorem docT_size {cs : List Cel} (h : CelsSmall cs) (n : ByteArray) : (docT cs n).size ≤ 1048576 := by
  unfold docT
  cases e : cs.find? (isC n) with
  | none => exact Nat.zero_le _
  | some c =>
    obtain ⟨i, hi, rfl⟩ := List.getElem_of_mem (List.mem_of_find?_eq_some e)
    have := (h i hi).2
    rw [cat_get cs i hi] at this
    exact this

theorem TagsV.slice {b0 : Nat} {w : World} {k : Int} {s : ByteArray} {v : Value} (h : TagsV b0 w k s v) : ∃ q l c, v = .slice q l c := by
  rcases h with ⟨_, g, c, rfl, _⟩ | ⟨_, rfl⟩ <;> exact ⟨_, _, _, rfl⟩
theorem TagsV.mono {b0 b1 : Nat} {w : World} {k : Int} {s : ByteArray} {v : Value} (h : TagsV b0 w k s v) (hb : b1 ≤ b0) : TagsV b1 w k s v := by
  rcases h with ⟨h1, g, c, e, h2, h3, h4⟩ | h
  · exact .inl ⟨h1, g, c, e, h2, by omega, h4⟩
  · exact .inr h
theorem TagsV.set {b0 : Nat} {w : World} {k : Int} {s : ByteArray} {v : Value} (h : TagsV b0 w k s v) {p : Addr} (hp : p.block < b0) (x : Value) : TagsV b0 (w.setCell p x) k s v := by
  rcases h with ⟨h1, g, c, e, h2, h3, h4⟩ | h
  · exact .inl ⟨h1, g, c, e, h2, h3, h4.set (by omega) x⟩
  · exact .inr h

set_option maxHeartbeats 2000000 in
set_option maxRecDepth 100000 in
theorem docTold_any (a : Option Addr) (capf : Nat) (fs : List Fld) (key : ByteArray) (p : Option Addr) (capc : Nat) (cs : List Cel) (n : ByteArray) (w : World) (hzf : fs.length ≤ 1048576) (hcf : fs.length ≤ capf) (hsf : FldsSmall fs) (hrf : FldRow w a fs)
    (hk : key.size ≤ 1048576) (hzc : cs.length ≤ 1048576) (hsc : CelsSmall cs) (hrc : CelRow w p cs) (hm : MaxL w) :
    Calls Tryd.prog 20 #[.slice a fs.length capf, .agg #[.string key, .slice p cs.length capc], .string n] w fun e w' => ∃ v, e = .returned (.agg #[.int .i64 (cnum (toldK fs key cs n) (docT cs n)), .bool (cisn (toldK fs key cs n) (docT cs n)), v]) ∧ TagsV w.heap.size w' (toldK fs key cs n) (docT cs n) v ∧ Below w.heap.size w w' := by
  have hb0 : Below w.heap.size w ((w.alloc (.cells #[.string key, .slice p cs.length capc] 26)).alloc (.cells #[.int .i64 0, .bool false, .slice none 0 0] 46)) := ((Below.refl _ w).alloc (Nat.le_refl _) _).alloc (by simp) _
  have D0 : Blk ((w.alloc (.cells #[.string key, .slice p cs.length capc] 26)).alloc (.cells #[.int .i64 0, .bool false, .slice none 0 0] 46)) w.heap.size #[.string key, .slice p cs.length capc] 26 := (Blk.new w _ _).alloc _
  have R0 : Blk ((w.alloc (.cells #[.string key, .slice p cs.length capc] 26)).alloc (.cells #[.int .i64 0, .bool false, .slice none 0 0] 46)) (w.heap.size + 1) #[.int .i64 0, .bool false, .slice none 0 0] 46 := by
    have h := Blk.new (w.alloc (.cells #[.string key, .slice p cs.length capc] 26)) #[.int .i64 0, .bool false, .slice none 0 0] 46
    rw [show (w.alloc (.cells #[.string key, .slice p cs.length capc] 26)).heap.size = w.heap.size + 1 from by simp] at h
    exact h
  have HRF : Hid (∀ wx, Below w.heap.size w wx → FldRow wx a fs) := fun wx h => hrf.below h
  have HRC : Hid (∀ wx, Below w.heap.size w wx → CelRow wx p cs) := fun wx h => hrc.below h
  have HM : Hid (∀ wx, Below w.heap.size w wx → MaxL wx) := fun wx h => hm.below h
  have HSZ : Hid ((docT cs n).size ≤ 1048576) := docT_size hsc n
  have HSF : Hid (FldsSmall fs) := hsf
  have HSC : Hid (CelsSmall cs) := hsc
  have HK0 : Hid ((docOkB fs key cs && docH cs n) = false → toldK fs key cs n = 0) := toldK_no
  have HK1 : Hid (docOkB fs key cs = true → docH cs n = true → ∀ f b, FoundF fs n f b → f.kind = toldK fs key cs n) := fun h1 h2 f b h => by rw [toldK_yes h1 h2, found_kind h]
  have HN : Hid (∀ b0 wx, toldK fs key cs n = 0 → TagsV b0 wx (toldK fs key cs n) (docT cs n) (.slice none 0 0)) := fun b0 wx h => .inr ⟨by omega, rfl⟩
  have HV : Hid (toldK fs key cs n = 0 → cnum (toldK fs key cs n) (docT cs n) = 0 ∧ cisn (toldK fs key cs n) (docT cs n) = false) := fun h => ⟨cnum_not (by omega) _, cisn_not (by omega) _⟩
  clear hrf hrc hm hsf hsc
  generalize toldK fs key cs n = K at *
  go_enter Tryd.func20, Tryd.ntmps20
  go_wp2_with fail
  refine (docOkI_any a capf fs key p capc cs _ hzf hcf HSF.out (HRF.out _ hb0) hk hzc HSC.out (HRC.out _ hb0) (HM.out _ hb0)).mono ?_
  rintro e u1 ⟨rfl, hb1⟩
  have D1 := D0.below hb1 D0.lt
  have R1 := R0.below hb1 R0.lt
  have hw1 := below_trans hb0 hb1
  clear hb0 hb1 D0 R0
  have k0 := D1.cell 0
  have k1 := D1.cell 1
  have r0 := R1.cell 0
  have r1 := R1.cell 1
  have r2 := R1.cell 2
  have y0 := R1.frozen 0
  have y1 := R1.frozen 1
  have y2 := R1.frozen 2
  have hz1 := R1.lt
  simp at k0 k1 r0 r1 r2
  cases hok : docOkB fs key cs with
  | false =>
    rw [hok] at HK0 HK1
    obtain rfl : K = 0 := HK0.out rfl
    obtain ⟨e1, e2⟩ := HV.out rfl
    have HN0 : Hid (∀ b0 wx, TagsV b0 wx 0 (docT cs n) (.slice none 0 0)) := fun b0 wx => HN.out b0 wx rfl
    clear HK0 HK1 HV HN HRF HRC HM HSF HSC HSZ D1 R1
    go_wp2
    refine bodyPost_ret (v := .agg #[.int .i64 0, .bool false, .slice none 0 0]) (by simp [results, Tryd.results20, go_sem, r0, r1, r2]) rfl ⟨.slice none 0 0, by rw [e1, e2], HN0.out _ _, ?_⟩
    exact ((hw1.setCell (Nat.le_succ _) _).setCell (Nat.le_succ _) _).setCell (Nat.le_succ _) _
  | true =>
    rw [hok] at HK0 HK1
    go_wp2_with fail
    refine (docTextI_any key n p capc cs _ hzc HSC.out (HRC.out _ hw1)).mono ?_
    rintro e u2 ⟨rfl, hb2⟩
    have D2 := D1.below hb2 D1.lt
    have R2 := R1.below hb2 R1.lt
    have hw2 := below_trans hw1 hb2
    clear hw1 hb2 D1 R1 k0 k1 r0 r1 r2 y0 y1 y2 hz1
    have r0 := R2.cell 0
    have r1 := R2.cell 1
    have r2 := R2.cell 2
    have y0 := R2.frozen 0
    have y1 := R2.frozen 1
    have y2 := R2.frozen 2
    have hz2 := R2.lt
    simp at r0 r1 r2
    cases hth : docH cs n with
    | false =>
      rw [hth] at HK0 HK1
      obtain rfl : K = 0 := HK0.out rfl
      obtain ⟨e1, e2⟩ := HV.out rfl
      have HN0 : Hid (∀ b0 wx, TagsV b0 wx 0 (docT cs n) (.slice none 0 0)) := fun b0 wx => HN.out b0 wx rfl
      clear HK0 HK1 HV HRF HRC HM HSF HSC HSZ D2 R2 HN
      go_wp2
      refine bodyPost_ret (v := .agg #[.int .i64 0, .bool false, .slice none 0 0]) (by simp [results, Tryd.results20, go_sem, r0, r1, r2]) rfl ⟨.slice none 0 0, by rw [e1, e2], HN0.out _ _, ?_⟩
      exact ((hw2.setCell (Nat.le_succ _) _).setCell (Nat.le_succ _) _).setCell (Nat.le_succ _) _
    | true =>
      rw [hth] at HK0 HK1
      have HK2 : Hid (∀ f b, FoundF fs n f b → f.kind = K) := fun f b h => HK1.out (by trivial) (by trivial) f b h
      clear HK0 HK1 HN HV
      go_wp2_with fail
      refine (fieldOf_any a capf fs n _ hzf (HRF.out _ hw2)).mono ?_
      rintro e u3 ⟨f, b, rfl, hf, hb3⟩
      obtain ⟨nm, kd, wt⟩ := f
      have hkd : kd = K := HK2.out _ _ hf
      subst hkd
      have R3 := R2.below hb3 R2.lt
      have hw3 := below_trans hw2 hb3
      have R4 := R3.alloc (.cells #[.string nm, .int .i64 kd, .int .i64 wt] 57)
      have hw4 : Below w.heap.size w (u3.alloc (.cells #[.string nm, .int .i64 kd, .int .i64 wt] 57)) := hw3.alloc hw3.size _
      have HM4 : Hid (MaxL (u3.alloc (.cells #[.string nm, .int .i64 kd, .int .i64 wt] 57))) := HM.out _ hw4
      have hz3 := R3.lt
      clear HK2 HRF HRC HM HSF HSC D2 R2 R3 hw2 hw3 hb3 hf r0 r1 r2 y0 y1 y2 hz2
      go_wp2_with fail
      refine (contentOf_any kd (docT cs n) _).mono ?_
      rintro e u5 ⟨rfl, rfl⟩
      go_wp2_with fail
      refine (contentTold_any kd (docT cs n) _ HSZ.out HM4.out).mono ?_
      rintro e u6 ⟨v, rfl, htv, hb6⟩
      obtain ⟨vq, vl, vc, rfl⟩ := htv.slice
      have R6 := R4.below hb6 R4.lt
      have hw6 := below_trans hw4 hb6
      have HTV : Hid (TagsV (u3.heap.size + 1) u6 kd (docT cs n) (.slice vq vl vc)) := by
        rw [show (u3.alloc (.cells #[.string nm, .int .i64 kd, .int .i64 wt] 57)).heap.size = u3.heap.size + 1 from by simp] at htv
        exact htv
      clear htv hb6 R4 hw4 HM4 HSZ
      have r0 := R6.cell 0
      have r1 := R6.cell 1
      have r2 := R6.cell 2
      have y0 := R6.frozen 0
      have y1 := R6.frozen 1
      have y2 := R6.frozen 2
      have hz6 := R6.lt
      simp at r0 r1 r2
      obtain ⟨x, hx⟩ : ∃ x, x = cnum kd (docT cs n) := ⟨_, rfl⟩
      obtain ⟨y, hy⟩ : ∃ y, y = cisn kd (docT cs n) := ⟨_, rfl⟩
      rw [← hx, ← hy]
      have HX : Hid (x = cnum kd (docT cs n) ∧ y = cisn kd (docT cs n)) := ⟨hx, hy⟩
      clear hx hy
      go_wp2
      refine bodyPost_ret (v := .agg #[.int .i64 x, .bool y, .slice vq vl vc]) (by simp [results, Tryd.results20, go_sem, r0, r1, r2]) rfl ⟨.slice vq vl vc, by rw [HX.out.1, HX.out.2], ?_, ?_⟩
      · exact (((HTV.out.set (by show w.heap.size + 1 < u3.heap.size + 1; omega) _).set (by show w.heap.size + 1 < u3.heap.size + 1; omega) _).set (by show w.heap.size + 1 < u3.heap.size + 1; omega) _).mono (by omega)
      · exact ((hw6.setCell (Nat.le_succ _) _).setCell (Nat.le_succ _) _).setCell (Nat.le_succ _) _
end Go.Proofs.YtjjfabemhdhppaaDoor

/- DocNum of the program and of the model. -/
namespace Go.Proofs.YtjjfabemhdhppaaDoor
open Go.RowKit
set_option linter.unusedVariables false

def dnum (fs : List Fld) (key : ByteArray) (cs : List Cel) (n : ByteArray) : Int := cnum (toldK fs key cs n) (docT cs n)
def dhas (fs : List Fld) (key : ByteArray) (cs : List Cel) (n : ByteArray) : Bool := cisn (toldK fs key cs n) (docT cs n)

set_option maxHeartbeats 1000000 in
set_option maxRecDepth 100000 in
theorem docNumI_any (a : Option Addr) (capf : Nat) (fs : List Fld) (key : ByteArray) (p : Option Addr) (capc : Nat) (cs : List Cel) (n : ByteArray) (w : World) (hzf : fs.length ≤ 1048576) (hcf : fs.length ≤ capf) (hsf : FldsSmall fs) (hrf : FldRow w a fs)
    (hk : key.size ≤ 1048576) (hzc : cs.length ≤ 1048576) (hsc : CelsSmall cs) (hrc : CelRow w p cs) (hm : MaxL w) :
    Calls Tryd.prog 10 #[.slice a fs.length capf, .agg #[.string key, .slice p cs.length capc], .string n] w fun e w' => e = .returned (.tuple #[.int .i64 (dnum fs key cs n), .bool (dhas fs key cs n)]) ∧ Below w.heap.size w w' := by
  have hb0 : Below w.heap.size w (w.alloc (.cells #[.string key, .slice p cs.length capc] 26)) := (Below.refl _ w).alloc (Nat.le_refl _) _
  have HT : Hid (∀ wx, Below w.heap.size w wx → Calls Tryd.prog 20 #[.slice a fs.length capf, .agg #[.string key, .slice p cs.length capc], .string n] wx fun e w' => ∃ v, e = .returned (.agg #[.int .i64 (dnum fs key cs n), .bool (dhas fs key cs n), v]) ∧ TagsV wx.heap.size w' (toldK fs key cs n) (docT cs n) v ∧ Below wx.heap.size wx w') := fun wx h => docTold_any a capf fs key p capc cs n wx hzf hcf hsf (hrf.below h) hk hzc hsc (hrc.below h) (hm.below h)
  clear hsf hrf hsc hrc hm
  generalize dnum fs key cs n = x at *
  generalize dhas fs key cs n = y at *
  go_enter Tryd.func10, Tryd.ntmps10
  go_wp2_with fail
  first
    | refine (HT.out _ hb0).mono ?_
    | refine (HT.out _ (Below.refl _ _)).mono ?_
  rintro e u1 ⟨v, rfl, htv, hb1⟩
  obtain ⟨vq, vl, vc, rfl⟩ := htv.slice
  have hw1 := below_trans hb0 hb1
  clear HT htv hb1 hb0
  go_wp2
  go_quiet ((fail))
  go_wp2
  go_ret2
  have h := hw1.alloc hw1.size (.cells #[.int .i64 x, .bool y, .slice vq vl vc] 46)
  exact ⟨rfl, ⟨h.os, h.tape, h.output, h.size, h.block⟩⟩
end Go.Proofs.YtjjfabemhdhppaaDoor

/- DocNum of the model. -/
namespace Go.Proofs.YtjjfabemhdhppaaDoor
open Go.RowKit
set_option linter.unusedVariables false

def kindB (fs : List Fld) (n : ByteArray) (k : Int) : Bool := (fat fs (fidx fs n)).kind == k
theorem ok_num {fs : List Fld} {key : ByteArray} {cs : List Cel} {n : ByteArray} (h1 : docOkB fs key cs = true) (h2 : docH cs n = true) (h3 : kindB fs n 2 = true) : numT (docT cs n) = true := by
  unfold docH at h2
  unfold docT
  cases e : cs.find? (isC n) with
  | none => rw [e] at h2; cases h2
  | some c =>
    obtain ⟨i, hi, rfl⟩ := List.getElem_of_mem (List.mem_of_find?_eq_some e)
    have hn := List.find?_some e
    unfold docOkB at h1
    have h4 := (allTo_iff _ _).1 (by have := h1; simp only [Bool.and_eq_true] at this; exact this.2) i hi
    unfold dcelOk at h4
    rw [cat_get cs i hi] at h4
    have hnm : cs[i].name = n := by
      unfold isC at hn
      have := eq_of_beq hn
      rw [ByteArray.toList_eq, ByteArray.toList_eq] at this
      exact ba_ext this
    rw [hnm] at h4
    unfold kindB at h3
    have hk : (fat fs (fidx fs n)).kind = 2 := eq_of_beq h3
    rw [hk] at h4
    simp only [Bool.and_eq_true] at h4
    exact h4.2
theorem dnum_no {fs : List Fld} {key : ByteArray} {cs : List Cel} {n : ByteArray} (h : (docOkB fs key cs && docH cs n && kindB fs n 2) = false) : dnum fs key cs n = 0 ∧ dhas fs key cs n = false := by
  have hk : toldK fs key cs n ≠ 2 := by
    unfold toldK
    cases e : (docOkB fs key cs && docH cs n) with
    | false => simp
    | true =>
      rw [e] at h
      unfold kindB at h
      simpa using h
  exact ⟨cnum_not hk _, cisn_not hk _⟩
theorem dnum_yes {fs : List Fld} {key : ByteArray} {cs : List Cel} {n : ByteArray} (h1 : docOkB fs key cs = true) (h2 : docH cs n = true) (h3 : kindB fs n 2 = true) : dnum fs key cs n = numV (docT cs n) ∧ dhas fs key cs n = true ∧ numT (docT cs n) = true := by
  have hn := ok_num h1 h2 h3
  have hk : toldK fs key cs n = 2 := (toldK_yes h1 h2).trans (eq_of_beq h3)
  unfold dnum dhas
  rw [hk, cnum_two, cisn_two, numW_yes hn]
  exact ⟨rfl, hn, hn⟩
set_option maxHeartbeats 1000000 in
theorem l2Kind_any (a : Option Addr) (cap : Nat) (fs : List Fld) (n : ByteArray) (k : Int) (w : World) (hk0 : k ≠ 0) (hz : fs.length ≤ 1048576) (hr : FldRow w a fs) :
    Calls Tryd.prog 23 #[.slice a fs.length cap, .string n, .int .i64 k] w fun e w' => e = .returned (.bool (kindB fs n k)) ∧ w' = w := by
  have HL : Hid (Calls Tryd.prog 39 #[.slice a fs.length cap, .string n] w fun e w' => ∃ p : Int, e = .returned (.int .i64 p) ∧ FPos fs n p ∧ w' = w) := l2Field_any a cap fs n w hz hr
  go_enter Tryd.func23, Tryd.ntmps23
  go_wp2_with fail
  refine HL.out.mono ?_
  rintro e w1 ⟨q, rfl, hq, rfl⟩
  clear HL
  rcases fpos_idx hq with ⟨j, rfl, hj, hi⟩ | ⟨rfl, hi⟩
  · have HB : Hid (kindB fs n k = ((fat fs j).kind == k)) := by unfold Hid kindB; rw [hi]
    obtain ⟨g, off, rfl, hg, hc⟩ := hr (by omega)
    obtain ⟨c0, c1, c2⟩ := hc j hj
    have h0 : (0 : Int) ≤ (j : Int) := by omega
    have h1 : (j : Int) < (fs.length : Int) := by omega
    clear hq hi hr hc
    generalize fat fs j = f at *
    go_wp2
    go_ret
    exact ⟨by rw [HB.out]; rfl, rfl⟩
  · have HB : Hid (kindB fs n k = false) := by
      unfold Hid kindB
      rw [hi]
      simp [fat]
      exact fun e => hk0 e.symm
    clear hq hi hr
    go_wp2
    go_ret
    exact ⟨by rw [HB.out]; rfl, rfl⟩
set_option maxHeartbeats 1000000 in
set_option maxRecDepth 100000 in
theorem docNumS_any (a : Option Addr) (capf : Nat) (fs : List Fld) (key : ByteArray) (p : Option Addr) (capc : Nat) (cs : List Cel) (n : ByteArray) (w : World) (hzf : fs.length ≤ 1048576) (hsf : FldsSmall fs) (hrf : FldRow w a fs)
    (hk : key.size ≤ 1048576) (hzc : cs.length ≤ 1048576) (hsc : CelsSmall cs) (hrc : CelRow w p cs) :
    Calls Tryd.prog 13 #[.slice a fs.length capf, .agg #[.string key, .slice p cs.length capc], .string n] w fun e w' => e = .returned (.tuple #[.int .i64 (dnum fs key cs n), .bool (dhas fs key cs n)]) ∧ Below w.heap.size w w' := by
  have hb0 : Below w.heap.size w (w.alloc (.cells #[.string key, .slice p cs.length capc] 26)) := (Below.refl _ w).alloc (Nat.le_refl _) _
  have D0 := Blk.new w #[.string key, .slice p cs.length capc] 26
  have HRF : Hid (∀ wx, Below w.heap.size w wx → FldRow wx a fs) := fun wx h => hrf.below h
  have HRC : Hid (∀ wx, Below w.heap.size w wx → CelRow wx p cs) := fun wx h => hrc.below h
  have HSZ : Hid ((docT cs n).size ≤ 1048576) := docT_size hsc n
  have HSF : Hid (FldsSmall fs) := hsf
  have HSC : Hid (CelsSmall cs) := hsc
  clear hsf hrf hsc hrc
  go_enter Tryd.func13, Tryd.ntmps13
  go_wp2_with fail
  refine (docTextS_any key n p capc cs _ hzc (HRC.out _ hb0)).mono ?_
  rintro e u1 ⟨rfl, hb1⟩
  have D1 := D0.below hb1 D0.lt
  have hw1 := below_trans hb0 hb1
  clear hb0 hb1 D0
  have k0 := D1.cell 0
  have k1 := D1.cell 1
  simp at k0 k1
  go_wp2_with fail
  refine (docOkS_any a capf fs key p capc cs _ hzf HSF.out (HRF.out _ hw1) hk hzc HSC.out (HRC.out _ hw1)).mono ?_
  rintro e u2 ⟨rfl, hb2⟩
  have hw2 := below_trans hw1 hb2
  have hrf2 := HRF.out _ hw2
  clear hw1 hb2 D1 k0 k1 HRF HRC HSF HSC
  have HNO : Hid ((docOkB fs key cs && docH cs n && kindB fs n 2) = false → dnum fs key cs n = 0 ∧ dhas fs key cs n = false) := dnum_no
  have HYES : Hid (docOkB fs key cs = true → docH cs n = true → kindB fs n 2 = true → dnum fs key cs n = numV (docT cs n) ∧ dhas fs key cs n = true ∧ numT (docT cs n) = true) := dnum_yes
  cases hok : docOkB fs key cs with
  | false =>
    have HE := HNO.out (by rw [hok]; rfl)
    obtain ⟨e1, e2⟩ := HE
    clear HNO HYES hrf2 HSZ
    go_wp2
    go_ret2
    exact ⟨by rw [e1, e2]; rfl, hw2⟩
  | true =>
    cases hth : docH cs n with
    | false =>
      obtain ⟨e1, e2⟩ := HNO.out (by rw [hok, hth]; rfl)
      clear HNO HYES hrf2 HSZ
      go_wp2
      go_ret2
      exact ⟨by rw [e1, e2]; rfl, hw2⟩
    | true =>
      go_wp2_with fail
      refine (l2Kind_any a capf fs n 2 _ (by decide) hzf hrf2).mono ?_
      rintro e u3 ⟨rfl, rfl⟩
      cases hkb : kindB fs n 2 with
      | false =>
        obtain ⟨e1, e2⟩ := HNO.out (by rw [hok, hth, hkb]; rfl)
        clear HNO HYES hrf2 HSZ
        go_wp2
        go_ret2
        exact ⟨by rw [e1, e2]; rfl, hw2⟩
      | true =>
        obtain ⟨e1, e2, e3⟩ := HYES.out hok hth hkb
        clear HNO HYES hrf2
        go_wp2_with fail
        refine (l1Number_any (docT cs n) _ HSZ.out).mono ?_
        rintro e u4 ⟨v, rfl, hv, rfl⟩
        have hv2 := hv e3
        clear hv e3
        go_wp2
        go_ret2
        exact ⟨by rw [e1, e2, ← hv2]; rfl, hw2⟩
end Go.Proofs.YtjjfabemhdhppaaDoor

/- DocTags of the program and of the model. -/
namespace Go.Proofs.YtjjfabemhdhppaaDoor
open Go.RowKit
set_option linter.unusedVariables false

def dtags (fs : List Fld) (key : ByteArray) (cs : List Cel) (n : ByteArray) : List ByteArray := if toldK fs key cs n = 3 then namesL (docT cs n) else []
theorem ok_tag {fs : List Fld} {key : ByteArray} {cs : List Cel} {n : ByteArray} (h1 : docOkB fs key cs = true) (h2 : docH cs n = true) (h3 : kindB fs n 3 = true) : tagT (docT cs n) = true := by
  unfold docH at h2
  unfold docT
  cases e : cs.find? (isC n) with
  | none => rw [e] at h2; cases h2
  | some c =>
    obtain ⟨i, hi, rfl⟩ := List.getElem_of_mem (List.mem_of_find?_eq_some e)
    have hn := List.find?_some e
    unfold docOkB at h1
    have h4 := (allTo_iff _ _).1 (by have := h1; simp only [Bool.and_eq_true] at this; exact this.2) i hi
    unfold dcelOk at h4
    rw [cat_get cs i hi] at h4
    have hnm : cs[i].name = n := by
      unfold isC at hn
      have := eq_of_beq hn
      rw [ByteArray.toList_eq, ByteArray.toList_eq] at this
      exact ba_ext this
    rw [hnm] at h4
    unfold kindB at h3
    have hk : (fat fs (fidx fs n)).kind = 3 := eq_of_beq h3
    rw [hk] at h4
    simp only [Bool.and_eq_true] at h4
    exact h4.2
theorem dtags_no {fs : List Fld} {key : ByteArray} {cs : List Cel} {n : ByteArray} (h : (docOkB fs key cs && docH cs n && kindB fs n 3) = false) : dtags fs key cs n = [] := by
  have hk : toldK fs key cs n ≠ 3 := by
    unfold toldK
    cases e : (docOkB fs key cs && docH cs n) with
    | false => simp
    | true =>
      rw [e] at h
      unfold kindB at h
      simpa using h
  unfold dtags
  rw [if_neg hk]
theorem dtags_yes {fs : List Fld} {key : ByteArray} {cs : List Cel} {n : ByteArray} (h1 : docOkB fs key cs = true) (h2 : docH cs n = true) (h3 : kindB fs n 3 = true) : insAll (tparts (docT cs n)) = dtags fs key cs n ∧ tagT (docT cs n) = true := by
  have hk : toldK fs key cs n = 3 := (toldK_yes h1 h2).trans (eq_of_beq h3)
  unfold dtags
  rw [if_pos hk]
  exact ⟨ins_names _, ok_tag h1 h2 h3⟩
theorem TagsV.own {b0 : Nat} {w : World} {fs : List Fld} {key : ByteArray} {cs : List Cel} {n : ByteArray} {v : Value} (h : TagsV b0 w (toldK fs key cs n) (docT cs n) v) : w.ownsRow b0 9 1 v (dtags fs key cs n).length ((dtags fs key cs n).map Value.string) := by
  unfold dtags
  rcases h with ⟨h1, g, c, rfl, h2, h3, h4⟩ | ⟨h1, rfl⟩
  · rw [if_pos h1]
    exact ownsRow_mono h4 h3
  · rw [if_neg h1]
    exact World.ownsRow_nil _ _ _ _

theorem dtags_len {fs : List Fld} {key : ByteArray} {cs : List Cel} {n : ByteArray} (h : CelsSmall cs) : (dtags fs key cs n).length ≤ 2000000 := by
  unfold dtags
  split
  · have h1 := docT_size h n
    have h2 : (tparts (docT cs n)).length = manyB 44 (docT cs n) + 1 := cuts_full_len 44 _
    have h3 := manyB_le 44 (docT cs n)
    have h4 := Lib.compact_length_le (sortedL (docT cs n))
    rw [sortedL_len] at h4
    unfold namesL
    rw [List.length_map]
    omega
  · exact Nat.zero_le _
theorem told_tags (x : Int) (y : Bool) (q : Option Addr) (l c : Nat) (w : World) : (Instr.field 46 (.agg #[.int .i64 x, .bool y, .slice q l c]) 2).run Tryd.prog w = .ok (.slice q l c) w := by kernel_rfl
attribute [local go_sem] told_tags
set_option maxHeartbeats 1000000 in
set_option maxRecDepth 100000 in
theorem docTagsI_any (a : Option Addr) (capf : Nat) (fs : List Fld) (key : ByteArray) (p : Option Addr) (capc : Nat) (cs : List Cel) (n : ByteArray) (w : World) (hzf : fs.length ≤ 1048576) (hcf : fs.length ≤ capf) (hsf : FldsSmall fs) (hrf : FldRow w a fs)
    (hk : key.size ≤ 1048576) (hzc : cs.length ≤ 1048576) (hsc : CelsSmall cs) (hrc : CelRow w p cs) (hm : MaxL w) :
    Calls Tryd.prog 6 #[.slice a fs.length capf, .agg #[.string key, .slice p cs.length capc], .string n] w fun e w' => ∃ v, e = .returned v ∧ w'.ownsRow w.heap.size 9 1 v (dtags fs key cs n).length ((dtags fs key cs n).map Value.string) ∧ Below w.heap.size w w' := by
  have hb0 : Below w.heap.size w (w.alloc (.cells #[.string key, .slice p cs.length capc] 26)) := (Below.refl _ w).alloc (Nat.le_refl _) _
  have HT : Hid (∀ wx, Below w.heap.size w wx → Calls Tryd.prog 20 #[.slice a fs.length capf, .agg #[.string key, .slice p cs.length capc], .string n] wx fun e w' => ∃ v, e = .returned (.agg #[.int .i64 (dnum fs key cs n), .bool (dhas fs key cs n), v]) ∧ TagsV wx.heap.size w' (toldK fs key cs n) (docT cs n) v ∧ Below wx.heap.size wx w') := fun wx h => docTold_any a capf fs key p capc cs n wx hzf hcf hsf (hrf.below h) hk hzc hsc (hrc.below h) (hm.below h)
  clear hsf hrf hsc hrc hm
  generalize dnum fs key cs n = x at *
  generalize dhas fs key cs n = y at *
  go_enter Tryd.func6, Tryd.ntmps6
  go_wp2_with fail
  refine (HT.out _ hb0).mono ?_
  rintro e u1 ⟨v, rfl, htv, hb1⟩
  obtain ⟨vq, vl, vc, rfl⟩ := htv.slice
  have hw1 := below_trans hb0 hb1
  have HO : Hid (u1.ownsRow w.heap.size 9 1 (.slice vq vl vc) (dtags fs key cs n).length ((dtags fs key cs n).map Value.string)) := ownsRow_mono htv.own (by simp)
  clear HT htv hb1 hb0
  go_wp2
  go_ret
  exact ⟨_, rfl, HO.out, hw1⟩

set_option maxHeartbeats 1000000 in
set_option maxRecDepth 100000 in
theorem docTagsS_any (a : Option Addr) (capf : Nat) (fs : List Fld) (key : ByteArray) (p : Option Addr) (capc : Nat) (cs : List Cel) (n : ByteArray) (w : World) (hzf : fs.length ≤ 1048576) (hsf : FldsSmall fs) (hrf : FldRow w a fs)
    (hk : key.size ≤ 1048576) (hzc : cs.length ≤ 1048576) (hsc : CelsSmall cs) (hrc : CelRow w p cs) :
    Calls Tryd.prog 8 #[.slice a fs.length capf, .agg #[.string key, .slice p cs.length capc], .string n] w fun e w' => ∃ v, e = .returned v ∧ w'.ownsRow w.heap.size 9 1 v (dtags fs key cs n).length ((dtags fs key cs n).map Value.string) ∧ Below w.heap.size w w' := by
  have hb0 : Below w.heap.size w (w.alloc (.cells #[.string key, .slice p cs.length capc] 26)) := (Below.refl _ w).alloc (Nat.le_refl _) _
  have D0 := Blk.new w #[.string key, .slice p cs.length capc] 26
  have HRF : Hid (∀ wx, Below w.heap.size w wx → FldRow wx a fs) := fun wx h => hrf.below h
  have HRC : Hid (∀ wx, Below w.heap.size w wx → CelRow wx p cs) := fun wx h => hrc.below h
  have HSZ : Hid ((docT cs n).size ≤ 1048576) := docT_size hsc n
  have HSF : Hid (FldsSmall fs) := hsf
  have HSC : Hid (CelsSmall cs) := hsc
  have HLIT : Hid (∀ wx, Below w.heap.size w wx → (wx.alloc (.cells #[] 9)).ownsRow w.heap.size 9 1 (.slice (some ⟨wx.heap.size, 0, none⟩) 0 0) 0 []) := fun wx h => ownsRow_mono (World.ownsRow_lit wx #[] 0 (Nat.le_refl _) (by decide) rfl) h.size
  clear hsf hrf hsc hrc
  go_enter Tryd.func8, Tryd.ntmps8
  go_wp2_with fail
  refine (docTextS_any key n p capc cs _ hzc (HRC.out _ hb0)).mono ?_
  rintro e u1 ⟨rfl, hb1⟩
  have D1 := D0.below hb1 D0.lt
  have hw1 := below_trans hb0 hb1
  clear hb0 hb1 D0
  have k0 := D1.cell 0
  have k1 := D1.cell 1
  simp at k0 k1
  go_wp2_with fail
  refine (docOkS_any a capf fs key p capc cs _ hzf HSF.out (HRF.out _ hw1) hk hzc HSC.out (HRC.out _ hw1)).mono ?_
  rintro e u2 ⟨rfl, hb2⟩
  have hw2 := below_trans hw1 hb2
  have hrf2 := HRF.out _ hw2
  have HL2 := HLIT.out _ hw2
  have HO2 : Hid ((u2.alloc (.cells #[] 9)).ownsRow w.heap.size 9 1 (.slice (some ⟨u2.heap.size, 0, none⟩) 0 0) 0 []) := HL2
  clear hw1 hb2 D1 k0 k1 HRF HRC HSF HSC HLIT HL2
  have HNO : Hid ((docOkB fs key cs && docH cs n && kindB fs n 3) = false → dtags fs key cs n = []) := dtags_no
  have HYES : Hid (docOkB fs key cs = true → docH cs n = true → kindB fs n 3 = true → insAll (tparts (docT cs n)) = dtags fs key cs n ∧ tagT (docT cs n) = true) := dtags_yes
  cases hok : docOkB fs key cs with
  | false =>
    have HE : Hid (dtags fs key cs n = []) := HNO.out (by rw [hok]; rfl)
    clear HNO HYES hrf2 HSZ
    go_wp2
    go_ret
    exact ⟨_, rfl, by rw [HE.out]; exact HO2.out, hw2.alloc hw2.size _⟩
  | true =>
    cases hth : docH cs n with
    | false =>
      have HE : Hid (dtags fs key cs n = []) := HNO.out (by rw [hok, hth]; rfl)
      clear HNO HYES hrf2 HSZ
      go_wp2
      go_ret
      exact ⟨_, rfl, by rw [HE.out]; exact HO2.out, hw2.alloc hw2.size _⟩
    | true =>
      go_wp2_with fail
      refine (l2Kind_any a capf fs n 3 _ (by decide) hzf hrf2).mono ?_
      rintro e u3 ⟨rfl, rfl⟩
      cases hkb : kindB fs n 3 with
      | false =>
        have HE : Hid (dtags fs key cs n = []) := HNO.out (by rw [hok, hth, hkb]; rfl)
        clear HNO HYES hrf2 HSZ
        go_wp2
        go_ret
        exact ⟨_, rfl, by rw [HE.out]; exact HO2.out, hw2.alloc hw2.size _⟩
      | true =>
        obtain ⟨e1, e3⟩ := HYES.out hok hth hkb
        clear HNO HYES hrf2 HO2
        go_wp2_with fail
        refine (l2TagsX_any (docT cs n) _ HSZ.out).mono ?_
        rintro e u4 ⟨g, c, ss, rfl, hss, hown, hb4⟩
        have he : ss = dtags fs key cs n := (hss e3).trans e1
        clear hss e1 e3
        have HO : Hid (u4.ownsRow w.heap.size 9 1 (.slice (some ⟨g, 0, none⟩) ss.length c) (dtags fs key cs n).length ((dtags fs key cs n).map Value.string)) := by
          have := ownsRow_mono hown hw2.size
          unfold Hid
          rw [he] at this ⊢
          exact this
        have hw4 := below_trans hw2 hb4
        clear hown he hb4 hw2
        go_wp2
        go_ret
        exact ⟨_, rfl, HO.out, hw4⟩
end Go.Proofs.YtjjfabemhdhppaaDoor

/- What DocNum and DocTags say of a document. -/
namespace Go.Proofs.YtjjfabemhdhppaaDoor
open Go.RowKit
set_option linter.unusedVariables false

theorem nameI_size {x : ByteArray} (h : nameI x = true) : x.size ≤ 8 := by
  unfold nameI at h
  simp only [Bool.and_eq_true, decide_eq_true_eq] at h
  have := h.1.1.2
  omega
theorem numV_bd {s : ByteArray} (h : numT s = true) : -999999999 ≤ numV s ∧ numV s ≤ 999999999 := by
  unfold numT at h
  unfold numV
  cases e : below0 s with
  | true =>
    rw [e] at h
    simp only [if_true, Bool.and_eq_true] at h ⊢
    have := numB_bd _ h.1
    omega
  | false =>
    rw [e] at h
    have := numB_bd _ h
    simp only [Bool.false_eq_true, if_false]
    omega
theorem toldK_pos {fs : List Fld} {key : ByteArray} {cs : List Cel} {n : ByteArray} (h : toldK fs key cs n ≠ 0) : docOkB fs key cs = true ∧ docH cs n = true ∧ (fat fs (fidx fs n)).kind = toldK fs key cs n := by
  unfold toldK at h ⊢
  cases e : (docOkB fs key cs && docH cs n) with
  | false => rw [e] at h; exact absurd rfl h
  | true =>
    simp only [Bool.and_eq_true] at e
    exact ⟨e.1, e.2, rfl⟩
theorem told_two {fs : List Fld} {key : ByteArray} {cs : List Cel} {n : ByteArray} (h : toldK fs key cs n = 2) : docOkB fs key cs = true ∧ docH cs n = true ∧ numT (docT cs n) = true := by
  obtain ⟨h1, h2, h3⟩ := toldK_pos (fs := fs) (key := key) (cs := cs) (n := n) (by rw [h]; decide)
  exact ⟨h1, h2, ok_num h1 h2 (by unfold kindB; rw [h3, h]; rfl)⟩
theorem dhas_no {fs : List Fld} {key : ByteArray} {cs : List Cel} {n : ByteArray} (h : dhas fs key cs n = false) : dnum fs key cs n = 0 := by
  by_cases hk : toldK fs key cs n = 2
  · have := (told_two hk).2.2
    unfold dhas at h
    rw [hk, cisn_two, this] at h
    cases h
  · exact cnum_not hk _
theorem dhas_yes {fs : List Fld} {key : ByteArray} {cs : List Cel} {n : ByteArray} (h : dhas fs key cs n = true) : docOkB fs key cs = true ∧ docH cs n = true ∧ dtags fs key cs n = [] ∧ -999999999 ≤ dnum fs key cs n ∧ dnum fs key cs n ≤ 999999999 := by
  by_cases hk : toldK fs key cs n = 2
  · obtain ⟨h1, h2, h3⟩ := told_two hk
    refine ⟨h1, h2, by unfold dtags; rw [if_neg (by rw [hk]; decide)], ?_⟩
    unfold dnum
    rw [hk, cnum_two, numW_yes h3]
    exact numV_bd h3
  · unfold dhas at h
    rw [cisn_not hk] at h
    cases h
theorem dtags_facts (fs : List Fld) (key : ByteArray) (cs : List Cel) (n : ByteArray) : (∀ x ∈ dtags fs key cs n, nameI x = true) ∧ AscB (dtags fs key cs n) ∧ (dtags fs key cs n).length ≤ 4 ∧ (dtags fs key cs n ≠ [] → docOkB fs key cs = true ∧ dhas fs key cs n = false) := by
  by_cases hk : toldK fs key cs n = 3
  · obtain ⟨h1, h2, h3⟩ := toldK_pos (fs := fs) (key := key) (cs := cs) (n := n) (by rw [hk]; decide)
    obtain ⟨h4, h5⟩ := dtags_yes h1 h2 (n := n) (by unfold kindB; rw [h3, hk]; rfl)
    obtain ⟨h6, h7⟩ := fold_add (tparts (docT cs n)) [] List.Pairwise.nil
    have h8 := Lib.compact_length_le (sortedL (docT cs n))
    rw [sortedL_len] at h8
    have h9 : (dtags fs key cs n).length = (Lib.compact (sortedL (docT cs n))).length := by
      unfold dtags
      rw [if_pos hk]
      exact List.length_map _
    unfold tagT at h5
    simp only [Bool.and_eq_true, List.all_eq_true, decide_eq_true_eq] at h5
    refine ⟨fun x hx => ?_, by rw [← h4]; exact h6, by omega, fun _ => ⟨h1, by unfold dhas; rw [hk]; rfl⟩⟩
    rw [← h4] at hx
    have := (h7 x).1 hx
    simp at this
    exact h5.1 x this
  · have : dtags fs key cs n = [] := by unfold dtags; rw [if_neg hk]
    rw [this]
    exact ⟨(fun x hx => by cases hx), List.Pairwise.nil, Nat.zero_le _, fun h => absurd rfl h⟩
theorem asc_less {ss : List ByteArray} (h : AscB ss) (i : Nat) (hi : i + 1 < ss.length) : Op.bytesLess (ss.getD i ⟨#[]⟩).toList (ss.getD (i + 1) ⟨#[]⟩).toList = true := by
  rw [less_toL, List.getD_eq_getElem?_getD, List.getD_eq_getElem?_getD, List.getElem?_eq_getElem hi, List.getElem?_eq_getElem (by omega)]
  exact decide_eq_true (List.pairwise_iff_getElem.1 h i (i + 1) (by omega) hi (by omega))
end Go.Proofs.YtjjfabemhdhppaaDoor
