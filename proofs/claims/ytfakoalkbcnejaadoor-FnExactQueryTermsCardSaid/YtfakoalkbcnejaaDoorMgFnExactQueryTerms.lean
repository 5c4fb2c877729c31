/- OwnStrs, Shelf2, SortU, QyTerms, QyTo, QyOwn, QyToOwn, QySz, Mark, QyMark, StrEq, MarkStr, WQyTerms, Wrap, in one text. -/
import Derived.Test.YtfakoalkbcnejaaDoorStrRow
import Derived.Test.YtfakoalkbcnejaaDoorTagsPlain
import Derived.Sort.Grow
import Derived.Lib.RowBridge
import Derived.Shelf.LaysM
import Derived.Shelf.Sort.Plain
import Derived.Shelf.Slices.CompactS
import Derived.Shelf.Slices.In.SortNone
import Derived.Test.YtfakoalkbcnejaaDoorProg
import Derived.Test.YtfakoalkbcnejaaDoorQyAskS
import Derived.Test.YtfakoalkbcnejaaDoorQyOk
import Derived.Test.YtfakoalkbcnejaaDoorQys
import Derived.Test.YtfakoalkbcnejaaDoorCommon
import Derived.Shelf.RegionOpen
import Derived.Deep.RegionWith
import Derived.HandedShaped
import Derived.SizedLaws
/- Rows of texts at the head of a block of their own. -/
namespace Go.Proofs.YtfakoalkbcnejaaDoor
open Go.RowKit Go.Sort
set_option linter.unusedVariables false

theorem ofL_toL (s : ByteArray) : ofL (toL s) = s := rfl
theorem heap_putRow {α : Type} [Inhabited α] (enc : α → Value) (w : World) (blk off : Nat) (d : Array α) (k : Nat) (h : k ≠ blk) : (putRow enc w blk off d).heap[k]? = w.heap[k]? := by
  unfold putRow mapBlock
  simp [Array.getElem?_modify, Ne.symm h]
theorem below_putS (w w' : World) (blk : Nat) (d : Array (List UInt8)) (n : Nat) (hb : Below w.heap.size w w') (h : w.heap.size ≤ blk) : Below w.heap.size w (putRow encStr (Sort.ahead w' n) blk 0 d) :=
  ⟨hb.os, hb.tape, hb.output, by rw [size_putRow]; exact hb.size, fun k hk => (heap_putRow _ _ _ _ _ _ (by omega)).trans (hb.block k hk)⟩
theorem below_grow (w w' : World) (os : Array Obj) (hb : Below w.heap.size w w') : Below w.heap.size w (grow w' os) :=
  ⟨hb.os, hb.tape, hb.output, by rw [size_grow]; have := hb.size; omega, fun k hk => (heap_grow_old _ _ (by have := hb.size; omega)).trans (hb.block k hk)⟩
/-- A block of n cells of texts. -/
def CellsAt (w : World) (g n : Nat) : Prop := ∃ cur, w.heap[g]? = some (.cells cur 9 (0, 0)) ∧ cur.size = n
theorem CellsAt.put {w : World} {g n : Nat} (h : CellsAt w g n) (q : Nat) (d : Array (List UInt8)) : CellsAt (putRow encStr (Sort.ahead w q) g 0 d) g n := by
  obtain ⟨cur, h1, h2⟩ := h
  refine ⟨putCells encStr 0 d cur, ?_, by unfold putCells; rw [Array.size_mapIdx]; exact h2⟩
  unfold putRow mapBlock
  simp only [Array.getElem?_modify, if_true]
  show (w.heap[g]?).map (onCells (putCells encStr 0 d)) = _
  rw [h1]
  rfl
theorem CellsAt.grow {w : World} {g n : Nat} (h : CellsAt w g n) (os : Array Obj) : CellsAt (Sort.grow w os) g n := by
  obtain ⟨cur, h1, h2⟩ := h
  have hg : g < w.heap.size := by
    rcases Nat.lt_or_ge g w.heap.size with h | h
    · exact h
    · rw [Array.getElem?_eq_none h] at h1
      cases h1
  exact ⟨cur, (heap_grow_old _ _ hg).trans h1, h2⟩
/-- A row of texts at the head of a block of its own. -/
def OwnRow (w : World) (g c : Nat) (ss : List ByteArray) : Prop := w.ownsRow g 9 1 (.slice (some ⟨g, 0, none⟩) ss.length c) ss.length (ss.map Value.string)
theorem OwnRow.of {w : World} {g n : Nat} {ss : List ByteArray} (h : CellsAt w g n) (hr : StrRow w (some ⟨g, 0, none⟩) ss) (hn : ss.length ≤ n) (hm : n ≤ maxLen) : OwnRow w g n ss := by
  obtain ⟨cur, h1, h2⟩ := h
  refine ⟨by simp, .inr ⟨g, n, cur, rfl, Nat.le_refl _, h1, hn, hm, by omega, ?_⟩⟩
  apply List.ext_getElem?
  intro i
  by_cases hi : i < ss.length
  · obtain ⟨g', e, _, hc⟩ := hr (by omega)
    cases e
    have hci := hc i hi
    rw [List.getElem?_take, if_pos (by omega), List.getElem?_map, List.getElem?_eq_getElem hi]
    rw [List.getD_eq_getElem?_getD, List.getElem?_eq_getElem hi] at hci
    simp [World.cell?, h1] at hci
    simpa using hci
  · rw [List.getElem?_eq_none (by simp; omega), List.getElem?_eq_none (by simp; omega)]
theorem OwnRow.row {w : World} {g c : Nat} {ss : List ByteArray} (h : OwnRow w g c ss) : StrRow w (some ⟨g, 0, none⟩) ss := by
  obtain ⟨p, c', e, hr⟩ := owns_strRow h
  cases e
  exact hr
theorem OwnRow.le {w : World} {g c : Nat} {ss : List ByteArray} (h : OwnRow w g c ss) : ss.length ≤ c := by
  rcases h.2 with ⟨e, _⟩ | ⟨g', c', cur, e, _, _, h, _⟩
  · cases e
  · cases e; exact h
theorem OwnRow.heap {w w' : World} {g c : Nat} {ss : List ByteArray} (h : OwnRow w g c ss) (he : w'.heap[g]? = w.heap[g]?) : OwnRow w' g c ss := by
  refine ⟨h.1, ?_⟩
  rcases h.2 with h2 | ⟨g', c', cur, e, h3, h4, h5⟩
  · exact .inl h2
  · cases e
    exact .inr ⟨g, c, cur, rfl, h3, he.trans h4, h5⟩
theorem OwnRow.lt {w : World} {g c : Nat} {ss : List ByteArray} (h : OwnRow w g c ss) : g < w.heap.size := by
  rcases h.2 with ⟨e, _⟩ | ⟨g', c', cur, e, _, h4, _⟩
  · cases e
  · cases e
    rcases Nat.lt_or_ge g w.heap.size with h | h
    · exact h
    · rw [Array.getElem?_eq_none h] at h4
      cases h4
theorem OwnRow.below {w w' : World} {g c : Nat} {ss : List ByteArray} (h : OwnRow w g c ss) (hb : Below w.heap.size w w') : OwnRow w' g c ss := h.heap (hb.block g h.lt)
theorem OwnRow.set {w : World} {g c : Nat} {ss : List ByteArray} (h : OwnRow w g c ss) {p : Addr} (hne : g ≠ p.block) (v : Value) : OwnRow (w.setCell p v) g c ss := h.heap (Below.heap_setCell _ _ _ _ hne)
theorem alloc_at (w : World) (o : Obj) : (w.alloc o).heap[w.heap.size]? = some o := Array.getElem?_push_size
end Go.Proofs.YtfakoalkbcnejaaDoor

/- The contracts of Go's own library at this program: each is the kit's theorem, applied. -/
namespace Go.Proofs
open Go.Shelf
def Tryd.lays190_ren : Go.Shelf.Ren := ⟨fun | 190 => 46 | 125 => 75 | 258 => 74 | 128 => 106 | 129 => 107 | 302 => 97 | 303 => 98 | 304 => 99 | 305 => 100 | 306 => 101 | 307 => 102 | 308 => 103 | 309 => 104 | 310 => 105 | 333 => 120 | 329 => 121 | 330 => 122 | 334 => 123 | 335 => 124 | 336 => 125 | 344 => 130 | n => n, fun | 31 => 40 | 9 => 9 | 3 => 3 | 46 => 88 | 0 => 0 | 51 => 121 | 53 => 123 | 4 => 4 | 183 => 113 | 182 => 112 | 131 => 118 | 5 => 5 | 218 => 129 | 222 => 133 | 228 => 137 | 229 => 138 | n => n, fun | n => n⟩
theorem Tryd.lays190 : Go.Proofs.Lays.n190 Tryd.prog Tryd.lays190_ren := {
  mixed := by kernel_rfl
  f125 := Tryd.func75.trans (congrArg some (by kernel_rfl))
  f128 := Tryd.func106.trans (congrArg some (by kernel_rfl))
  f129 := Tryd.func107.trans (congrArg some (by kernel_rfl))
  f190 := Tryd.func46.trans (congrArg some (by kernel_rfl))
  f258 := Tryd.func74.trans (congrArg some (by kernel_rfl))
  f302 := Tryd.func97.trans (congrArg some (by kernel_rfl))
  f303 := Tryd.func98.trans (congrArg some (by kernel_rfl))
  f304 := Tryd.func99.trans (congrArg some (by kernel_rfl))
  f305 := Tryd.func100.trans (congrArg some (by kernel_rfl))
  f306 := Tryd.func101.trans (congrArg some (by kernel_rfl))
  f307 := Tryd.func102.trans (congrArg some (by kernel_rfl))
  f308 := Tryd.func103.trans (congrArg some (by kernel_rfl))
  f309 := Tryd.func104.trans (congrArg some (by kernel_rfl))
  f310 := Tryd.func105.trans (congrArg some (by kernel_rfl))
  f329 := Tryd.func121.trans (congrArg some (by kernel_rfl))
  f330 := Tryd.func122.trans (congrArg some (by kernel_rfl))
  f333 := Tryd.func120.trans (congrArg some (by kernel_rfl))
  f334 := Tryd.func123.trans (congrArg some (by kernel_rfl))
  f335 := Tryd.func124.trans (congrArg some (by kernel_rfl))
  f336 := Tryd.func125.trans (congrArg some (by kernel_rfl))
  f344 := Tryd.func130.trans (congrArg some (by kernel_rfl))
  t0 := Tryd.underlying0
  a0 := Tryd.isAgg0
  z0 := Tryd.sizeOf0
  v0 := Tryd.zeroValue0
  t3 := Tryd.underlying3
  a3 := Tryd.isAgg3
  z3 := Tryd.sizeOf3
  v3 := Tryd.zeroValue3
  t4 := Tryd.underlying4
  a4 := Tryd.isAgg4
  z4 := Tryd.sizeOf4
  v4 := Tryd.zeroValue4
  t5 := Tryd.underlying5
  a5 := Tryd.isAgg5
  z5 := Tryd.sizeOf5
  v5 := Tryd.zeroValue5
  t9 := Tryd.underlying9
  a9 := Tryd.isAgg9
  z9 := Tryd.sizeOf9
  v9 := Tryd.zeroValue9
  t31 := Tryd.underlying40
  a31 := Tryd.isAgg40
  z31 := Tryd.sizeOf40
  v31 := Tryd.zeroValue40
  t46 := Tryd.underlying88
  a46 := Tryd.isAgg88
  z46 := Tryd.sizeOf88
  v46 := Tryd.zeroValue88
  t51 := Tryd.underlying121
  a51 := Tryd.isAgg121
  z51 := Tryd.sizeOf121
  v51 := Tryd.zeroValue121
  t53 := Tryd.underlying123
  a53 := Tryd.isAgg123
  z53 := Tryd.sizeOf123
  v53 := Tryd.zeroValue123
  t131 := Tryd.underlying118
  a131 := Tryd.isAgg118
  z131 := Tryd.sizeOf118
  v131 := Tryd.zeroValue118
  t182 := Tryd.underlying112
  a182 := Tryd.isAgg112
  z182 := Tryd.sizeOf112
  v182 := Tryd.zeroValue112
  t183 := Tryd.underlying113
  a183 := Tryd.isAgg113
  z183 := Tryd.sizeOf113
  v183 := Tryd.zeroValue113
  t218 := Tryd.underlying129
  a218 := Tryd.isAgg129
  z218 := Tryd.sizeOf129
  v218 := Tryd.zeroValue129
  t222 := Tryd.underlying133
  a222 := Tryd.isAgg133
  z222 := Tryd.sizeOf133
  v222 := Tryd.zeroValue133
  t228 := Tryd.underlying137
  a228 := Tryd.isAgg137
  z228 := Tryd.sizeOf137
  v228 := Tryd.zeroValue137
  t229 := Tryd.underlying138
  a229 := Tryd.isAgg138
  z229 := Tryd.sizeOf138
  v229 := Tryd.zeroValue138 }
open Go.Sort Go.RowKit in
theorem Tryd.slices_Sort_string (blk off cap : Nat) (ss : List (List UInt8)) (w : World) (hH : Holds encStr w blk off ss.toArray) (hblk : blk < w.heap.size) (hsz : ss.length < 4611686018427387904) :
    Calls Tryd.prog 46 #[.slice (some ⟨blk, off, none⟩) ss.length cap] w fun e w' =>
      e = .returned (.tuple #[]) ∧ ∃ n os, w' = grow (putRow encStr (Sort.ahead w n) blk off (ss.mergeSort fun x y => decide (x ≤ y)).toArray) os := Any.slices_Sort_string Tryd.lays190 blk off cap ss w hH hblk hsz
def Tryd.lays194_ren : Go.Shelf.Ren := ⟨fun | 194 => 47 | n => n, fun | 31 => 40 | 9 => 9 | 3 => 3 | 4 => 4 | 0 => 0 | n => n, fun | n => n⟩
theorem Tryd.lays194 : Go.Proofs.Lays.n194 Tryd.prog Tryd.lays194_ren := {
  mixed := by kernel_rfl
  f194 := Tryd.func47.trans (congrArg some (by kernel_rfl))
  t0 := Tryd.underlying0
  a0 := Tryd.isAgg0
  z0 := Tryd.sizeOf0
  v0 := Tryd.zeroValue0
  t3 := Tryd.underlying3
  a3 := Tryd.isAgg3
  z3 := Tryd.sizeOf3
  v3 := Tryd.zeroValue3
  t4 := Tryd.underlying4
  a4 := Tryd.isAgg4
  z4 := Tryd.sizeOf4
  v4 := Tryd.zeroValue4
  t9 := Tryd.underlying9
  a9 := Tryd.isAgg9
  z9 := Tryd.sizeOf9
  v9 := Tryd.zeroValue9
  t31 := Tryd.underlying40
  a31 := Tryd.isAgg40
  z31 := Tryd.sizeOf40
  v31 := Tryd.zeroValue40 }
open Go.RowKit Go.Lib Go.Sort in
theorem Tryd.slices_Compact_string (blk off cap : Nat) (zs : List (List UInt8)) (w : World) (hH : Holds encStr w blk off zs.toArray) (hsz : zs.length ≤ 9223372036854775807) (hcap : zs.length ≤ cap) :
    Calls Tryd.prog 47 #[.slice (some ⟨blk, off, none⟩) zs.length cap] w fun e w' => e = .returned (.slice (some ⟨blk, off, none⟩) (Lib.compact zs).length cap) ∧ ∃ q, w' = putRow encStr (Sort.ahead w q) blk off (Lib.compact zs ++ List.replicate (zs.length - (Lib.compact zs).length) []).toArray := Any.slices_Compact_string Tryd.lays194 blk off cap zs w hH hsz hcap
open Go.RowKit Go.Lib Go.Sort in
theorem Tryd.slices_Compact_string_empty (a : Option Addr) (cap : Nat) (w : World) :
    Calls Tryd.prog 47 #[.slice a 0 cap] w fun e w' => e = .returned (.slice a 0 cap) ∧ w' = w := Any.slices_Compact_string_empty Tryd.lays194 a cap w
open Go.RowKit Go.Sort in
theorem Tryd.slices_Sort_string_none (p : Option Addr) (cap : Nat) (w : World) :
    Calls Tryd.prog 46 #[.slice p 0 cap] w fun e w' => e = .returned (.tuple #[]) ∧ w' = w := Any.slices_Sort_string_none Tryd.lays190 p cap w
end Go.Proofs

/- Sort and Compact of a row of texts of one's own. -/
namespace Go.Proofs.YtfakoalkbcnejaaDoor
open Go.RowKit Go.Sort
set_option linter.unusedVariables false

def sortB (ss : List ByteArray) : List ByteArray := ((ss.map toL).mergeSort fun x y => decide (x ≤ y)).map ofL
def compactB (ss : List ByteArray) : List ByteArray := (Lib.compact (ss.map toL)).map ofL
theorem toL_ofL (a : List UInt8) : toL (ofL a) = a := by
  unfold toL ofL
  simp
theorem map_toL_ofL (l : List (List UInt8)) : (l.map ofL).map toL = l := by
  rw [List.map_map]
  conv => rhs; rw [← List.map_id l]
  apply List.map_congr_left
  intro a _
  exact toL_ofL a
theorem toL_at (l : List (List UInt8)) (i : Nat) (h : i < (l.map ofL).length) : l[i]? = some (toL ((l.map ofL)[i])) := by
  rw [List.getElem_map, toL_ofL, List.getElem?_eq_getElem]
theorem sortB_len (ss : List ByteArray) : (sortB ss).length = ss.length := by unfold sortB; rw [List.length_map, List.length_mergeSort, List.length_map]
theorem compactB_len (ss : List ByteArray) : (compactB ss).length ≤ ss.length := by
  have := Lib.compact_length_le (ss.map toL)
  unfold compactB
  rw [List.length_map]
  rwa [List.length_map] at this
/-- Sorted and each once: as they are put in, one behind the other. -/
theorem sorted_once (ss : List ByteArray) : compactB (sortB ss) = insAll ss := by
  unfold compactB sortB
  rw [map_toL_ofL, ins_names]
theorem OwnRow.holds {w : World} {g c : Nat} {ss : List ByteArray} (h : OwnRow w g c ss) : Holds encStr w g 0 (ss.map toL).toArray := fun j hj => by
  simp only [List.size_toArray, List.length_map] at hj
  obtain ⟨g', e, _, hc⟩ := h.row (by omega)
  cases e
  have h1 := hc j hj
  rw [Nat.zero_add]
  constructor
  · rw [h1, getElem!_pos _ j (by simpa using hj), List.getD_eq_getElem?_getD, List.getElem?_eq_getElem hj]
    simp [encStr, toL]
  · exact h.frozenAt j
theorem OwnRow.cells {w : World} {g c : Nat} {ss : List ByteArray} (h : OwnRow w g c ss) : CellsAt w g c ∧ ss.length ≤ c ∧ c ≤ maxLen := by
  rcases h.2 with ⟨e, _⟩ | ⟨g', c', cur, e, _, h4, h5, h6, h7, _⟩
  · cases e
  · cases e
    exact ⟨⟨cur, h4, by omega⟩, h5, h6⟩
theorem OwnRow.put {w : World} {g c q : Nat} {ss ts : List ByteArray} (h : OwnRow w g c ss) (ys : List (List UInt8)) (hy : ys.length = ss.length) (ht : ts.length ≤ ss.length) (hts : ∀ i, (hi : i < ts.length) → ys[i]? = some (toL ts[i])) : OwnRow (putRow encStr (Sort.ahead w q) g 0 ys.toArray) g c ts := by
  obtain ⟨hC, hl, hm⟩ := h.cells
  refine OwnRow.of (hC.put q _) (fun hp => ⟨g, rfl, by rw [size_putRow]; exact h.lt, fun i hi => ?_⟩) (by omega) hm
  have e := cell?_putRow encStr (Sort.ahead w q) g 0 (ss.map toL).toArray ys.toArray (holds_ahead _ _ _ _ _ _ h.holds) (by simp [hy]) i (by simp; omega)
  rw [Nat.zero_add] at e
  rw [e, getElem!_pos _ i (by simp; omega)]
  have h1 := hts i hi
  rw [List.getElem?_eq_getElem (by omega)] at h1
  have h2 := Option.some.inj h1
  rw [List.getElem_toArray, h2, List.getD_eq_getElem?_getD, List.getElem?_eq_getElem hi]
  simp [encStr, toL]
theorem OwnRow.grow {w : World} {g c : Nat} {ss : List ByteArray} (h : OwnRow w g c ss) (os : Array Obj) : OwnRow (Sort.grow w os) g c ss := h.heap (heap_grow_old _ _ h.lt)
theorem sortRow_any (ss : List ByteArray) (g c : Nat) (w : World) (h : OwnRow w g c ss) (hz : ss.length ≤ 4000000) :
    Calls Tryd.prog 46 #[.slice (some ⟨g, 0, none⟩) ss.length c] w fun e w' => e = .returned (.tuple #[]) ∧ OwnRow w' g c (sortB ss) ∧ ∀ w0 : World, Below w0.heap.size w0 w → w0.heap.size ≤ g → Below w0.heap.size w0 w' := by
  have h1 := Tryd.slices_Sort_string g 0 c (ss.map toL) w h.holds h.lt (by rw [List.length_map]; omega)
  rw [List.length_map] at h1
  refine h1.mono ?_
  rintro e w' ⟨rfl, q, os, rfl⟩
  refine ⟨rfl, OwnRow.grow (h.put (ts := sortB ss) _ (by rw [List.length_mergeSort, List.length_map]) (by rw [sortB_len]; exact Nat.le_refl _) (fun i hi => ?_)) os, fun w0 hb hg => below_grow w0 _ os (below_putS w0 w g _ q hb hg)⟩
  exact toL_at _ i hi
theorem compactRow_any (ss : List ByteArray) (g c : Nat) (w : World) (h : OwnRow w g c ss) (hz : ss.length ≤ 4000000) :
    Calls Tryd.prog 47 #[.slice (some ⟨g, 0, none⟩) ss.length c] w fun e w' => e = .returned (.slice (some ⟨g, 0, none⟩) (compactB ss).length c) ∧ OwnRow w' g c (compactB ss) ∧ ∀ w0 : World, Below w0.heap.size w0 w → w0.heap.size ≤ g → Below w0.heap.size w0 w' := by
  have h1 := Tryd.slices_Compact_string g 0 c (ss.map toL) w h.holds (by rw [List.length_map]; omega) (by rw [List.length_map]; exact h.le)
  rw [List.length_map] at h1
  have hl : (compactB ss).length = (Lib.compact (ss.map toL)).length := by unfold compactB; rw [List.length_map]
  have hle := compactB_len ss
  rw [← hl] at h1
  refine h1.mono ?_
  rintro e w' ⟨rfl, q, rfl⟩
  refine ⟨rfl, h.put (ts := compactB ss) _ (by simp; omega) hle (fun i hi => ?_), fun w0 hb hg => below_putS w0 w g _ q hb hg⟩
  have hi2 : i < (Lib.compact (ss.map toL)).length := by omega
  rw [List.getElem?_append_left hi2]
  exact toL_at _ i hi
end Go.Proofs.YtfakoalkbcnejaaDoor

/- QueryTerms of both sides. -/
namespace Go.Proofs.YtfakoalkbcnejaaDoor
open Go.RowKit
set_option linter.unusedVariables false

/-- The words that a question looks for. -/
def qterms (D : Nat) (k : Int) (f t : ByteArray) (lo hi : Int) (ps : List Qy) : List ByteArray := if queryB k f t lo hi ps = true then insAll (asked D (.mk k f t lo hi ps)) else []
theorem qterms_len (D : Nat) (k : Int) (f t : ByteArray) (lo hi : Int) (ps : List Qy) : (qterms D k f t lo hi ps).length ≤ 15360 := by
  unfold qterms
  split
  · have h1 := asked_len D 4 _ ‹queryB k f t lo hi ps = true›
    have h2 := addAll_le (asked D (.mk k f t lo hi ps)) []
    have h3 := pow_4 (d := 4) (by decide)
    show (addAll [] (asked D (.mk k f t lo hi ps))).length ≤ _
    simp at h2
    omega
  · exact Nat.zero_le _
set_option maxRecDepth 100000 in
set_option maxHeartbeats 1000000 in
theorem queryTermsI_any (k : Int) (f t : ByteArray) (lo hi : Int) (ps : List Qy) (a : Option Addr) (c D : Nat) (w : World) (ha : QAt w 0 D a ps) (hsz : QSz 1048576 D ps) (hfs : f.size ≤ 1048576) (hts : t.size ≤ 1048576) (hm : MaxL w) :
    Calls Tryd.prog 20 #[.agg #[.int .i64 k, .string f, .string t, .int .i64 lo, .int .i64 hi, .slice a ps.length c]] w fun e w' => ∃ v, e = .returned v ∧ w'.ownsRow w.heap.size 9 1 v (qterms D k f t lo hi ps).length ((qterms D k f t lo hi ps).map Value.string) ∧ Below w.heap.size w w' := by
  have hb0 : Below w.heap.size w (w.alloc (.cells #[.int .i64 k, .string f, .string t, .int .i64 lo, .int .i64 hi, .slice a ps.length c] 29)) := (Below.refl _ w).alloc (Nat.le_refl _) _
  have B0 := Blk.new w #[.int .i64 k, .string f, .string t, .int .i64 lo, .int .i64 hi, .slice a ps.length c] 29
  have HA : Hid (∀ wx, Below w.heap.size w wx → QAt wx 0 D a ps) := fun wx h => ha.below h
  have HQ : Hid (qterms D k f t lo hi ps = if queryB k f t lo hi ps = true then insAll (asked D (.mk k f t lo hi ps)) else []) := rfl
  have HFM : Hid (queryB k f t lo hi ps = true → qformB 4 (.mk k f t lo hi ps) = true) := id
  have hm0 := hm.below hb0
  clear ha hm
  go_enter Tryd.func20, Tryd.ntmps20
  go_wp2_with fail
  refine (queryOkI_any k f t lo hi ps a c D _ (HA.out _ hb0) hsz hfs hts hm0).mono ?_
  rintro e w1 ⟨rfl, hb1⟩
  have B1 := B0.below hb1 B0.lt
  have hw1 := hb0.trans (hb1.mono hb0.size)
  clear B0 hb0 hb1 hm0
  cases h1 : queryB k f t lo hi ps
  all_goals rw [h1] at HQ HFM
  · have HQ0 : Hid (qterms D k f t lo hi ps = []) := HQ.out.trans (if_neg (by decide))
    clear HQ
    go_wp2
    go_ret
    rw [HQ0.out]
    exact ⟨_, rfl, World.ownsRow_nil _ _ _ _, hw1⟩
  rw [if_pos rfl] at HQ
  have HF4 : Hid (qformB 4 (.mk k f t lo hi ps) = true) := HFM.out rfl
  clear HFM
  have hal := asked_len D 4 _ HF4.out
  have HAL : Hid ((asked D (.mk k f t lo hi ps)).length ≤ 15360) := Nat.le_trans hal (pow_4 (by decide))
  have hw1s := hw1.size
  have k0 := B1.cell 0
  have k1 := B1.cell 1
  have k2 := B1.cell 2
  have k3 := B1.cell 3
  have k4 := B1.cell 4
  have k5 := B1.cell 5
  simp at k0 k1 k2 k3 k4 k5
  go_wp2_with fail
  refine (askI_any D 4 k f t lo hi ps a c _ (Nat.le_refl _) HF4.out (HA.out _ hw1) hsz hts).mono ?_
  rintro e w2 ⟨v2, rfl, ho2, hb2⟩
  have hw2 := hw1.trans (hb2.mono hw1.size)
  clear k0 k1 k2 k3 k4 k5 B1 hw1 hb2 HA hal HF4 h1 hsz hfs hts
  generalize asked D (.mk k f t lo hi ps) = L at *
  rcases ho2.2 with ⟨rfl, hn⟩ | ⟨g2, cp2, cur2, rfl, hg2, _⟩
  · obtain rfl : L = [] := List.eq_nil_of_length_eq_zero hn
    clear ho2
    go_wp2_with fail
    refine (Tryd.slices_Sort_string_none none 0 w2).mono ?_
    rintro e w3 ⟨rfl, rfl⟩
    go_wp2_with fail
    refine (Tryd.slices_Compact_string_empty none 0 w3).mono ?_
    rintro e w4 ⟨rfl, rfl⟩
    go_wp2
    go_ret
    rw [HQ.out]
    exact ⟨_, rfl, World.ownsRow_nil _ _ _ _, hw2⟩
  · have hgw : w.heap.size ≤ g2 := by omega
    have HO2 : Hid (OwnRow w2 g2 cp2 L) := by
      rcases ho2.2 with ⟨e, _⟩ | ⟨g', c', cur', e, _, h4, h5⟩
      · cases e
      · cases e
        exact ⟨ho2.1, .inr ⟨g2, cp2, cur', rfl, Nat.le_refl _, h4, h5⟩⟩
    clear ho2 hg2
    go_wp2_with fail
    refine (sortRow_any L g2 cp2 w2 HO2.out (by have := HAL.out; omega)).mono ?_
    rintro e w3 ⟨rfl, ho3, hb3⟩
    have hw3 := hb3 w hw2 hgw
    have hl3 := sortB_len L
    have HSC : Hid (compactB (sortB L) = insAll L) := sorted_once L
    have HO3 : Hid (Calls Tryd.prog 47 #[.slice (some ⟨g2, 0, none⟩) L.length cp2] w3 fun e w' => e = .returned (.slice (some ⟨g2, 0, none⟩) (compactB (sortB L)).length cp2) ∧ OwnRow w' g2 cp2 (compactB (sortB L)) ∧ ∀ w0 : World, Below w0.heap.size w0 w3 → w0.heap.size ≤ g2 → Below w0.heap.size w0 w') := by
      have := compactRow_any (sortB L) g2 cp2 w3 ho3 (by have := HAL.out; omega)
      rwa [hl3] at this
    rw [HSC.out] at HO3
    clear ho3 hb3 hw2 HO2 HSC hl3
    go_wp2_with fail
    refine HO3.out.mono ?_
    rintro e w4 ⟨rfl, ho4, hb4⟩
    have hw4 := hb4 w hw3 hgw
    have HO4 : Hid (w4.ownsRow w.heap.size 9 1 (.slice (some ⟨g2, 0, none⟩) (insAll L).length cp2) (insAll L).length ((insAll L).map Value.string)) := ownsRow_mono ho4 hgw
    clear HO3 ho4 hb4 hw3
    go_wp2
    go_ret
    rw [HQ.out]
    exact ⟨_, rfl, HO4.out, hw4⟩
set_option maxRecDepth 100000 in
set_option maxHeartbeats 1000000 in
theorem queryTermsS_any (k : Int) (f t : ByteArray) (lo hi : Int) (ps : List Qy) (a : Option Addr) (c D : Nat) (w : World) (ha : QAt w 0 D a ps) (hsz : QSz 1048576 D ps) (hfs : f.size ≤ 1048576) (hts : t.size ≤ 1048576) :
    Calls Tryd.prog 19 #[.agg #[.int .i64 k, .string f, .string t, .int .i64 lo, .int .i64 hi, .slice a ps.length c]] w fun e w' => ∃ v, e = .returned v ∧ w'.ownsRow w.heap.size 9 1 v (qterms D k f t lo hi ps).length ((qterms D k f t lo hi ps).map Value.string) ∧ Below w.heap.size w w' := by
  have hb0 : Below w.heap.size w (w.alloc (.cells #[.int .i64 k, .string f, .string t, .int .i64 lo, .int .i64 hi, .slice a ps.length c] 29)) := (Below.refl _ w).alloc (Nat.le_refl _) _
  have B0 := Blk.new w #[.int .i64 k, .string f, .string t, .int .i64 lo, .int .i64 hi, .slice a ps.length c] 29
  have HA : Hid (∀ wx, Below w.heap.size w wx → QAt wx 0 D a ps) := fun wx h => ha.below h
  have HQ : Hid (qterms D k f t lo hi ps = if queryB k f t lo hi ps = true then insAll (asked D (.mk k f t lo hi ps)) else []) := rfl
  have HFM : Hid (queryB k f t lo hi ps = true → qformB 4 (.mk k f t lo hi ps) = true) := id
  clear ha
  go_enter Tryd.func19, Tryd.ntmps19
  go_wp2_with fail
  refine (queryOkS_any k f t lo hi ps a c D _ (HA.out _ hb0) hsz hfs hts).mono ?_
  rintro e w1 ⟨rfl, hb1⟩
  have B1 := B0.below hb1 B0.lt
  have hw1 := hb0.trans (hb1.mono hb0.size)
  clear B0 hb0 hb1
  cases h1 : queryB k f t lo hi ps
  all_goals rw [h1] at HQ HFM
  · have HQ0 : Hid (qterms D k f t lo hi ps = []) := HQ.out.trans (if_neg (by decide))
    have HL : Hid ((w1.alloc (.cells #[] 9)).ownsRow w.heap.size 9 1 (.slice (some ⟨w1.heap.size, 0, none⟩) 0 0) 0 []) := World.ownsRow_lit w1 #[] 0 hw1.size (by decide) rfl
    have hw2 := hw1.alloc hw1.size (.cells #[] 9)
    clear HQ HA B1 hw1
    go_wp2
    go_ret
    rw [HQ0.out]
    exact ⟨_, rfl, HL.out, hw2⟩
  rw [if_pos rfl] at HQ
  have HF4 : Hid (qformB 4 (.mk k f t lo hi ps) = true) := HFM.out rfl
  clear HFM
  have hal := asked_len D 4 _ HF4.out
  have HAL : Hid ((asked D (.mk k f t lo hi ps)).length ≤ 15360) := Nat.le_trans hal (pow_4 (by decide))
  have hw1s := hw1.size
  have k0 := B1.cell 0
  have k1 := B1.cell 1
  have k2 := B1.cell 2
  have k3 := B1.cell 3
  have k4 := B1.cell 4
  have k5 := B1.cell 5
  simp at k0 k1 k2 k3 k4 k5
  have hwx := hw1.alloc hw1.size (.cells #[] 9)
  have HL : Hid ((w1.alloc (.cells #[] 9)).ownsRow w.heap.size 9 1 (.slice (some ⟨w1.heap.size, 0, none⟩) (List.length ([] : List ByteArray)) 0) (List.length ([] : List ByteArray)) (List.map Value.string [])) := World.ownsRow_lit w1 #[] 0 hw1.size (by decide) rfl
  have HC : Hid (Calls Tryd.prog 44 #[.agg #[.int .i64 k, .string f, .string t, .int .i64 lo, .int .i64 hi, .slice a ps.length c], .slice (some ⟨w1.heap.size, 0, none⟩) 0 0] (w1.alloc (.cells #[] 9)) _) := askS_any D 4 k f t lo hi ps a c w.heap.size w1.heap.size 0 [] (w1.alloc (.cells #[] 9)) (Nat.le_refl _) HF4.out (HA.out _ hwx) hsz hts (by have := HAL.out; show 0 + _ ≤ _; omega) hwx.size HL.out
  clear HA HAL hal HF4 hsz
  go_wp2_with fail
  refine HC.out.mono ?_
  rintro e w2 ⟨g2, c2, ss2, rfl, hs2, ho2, hb2⟩
  have hw2 := hwx.trans (hb2.mono hwx.size)
  have HS2 : Hid (ss2 = insAll (asked D (.mk k f t lo hi ps))) := hs2
  clear k0 k1 k2 k3 k4 k5 B1 hw1 hb2 HC HL hs2 hwx
  go_wp2
  go_ret
  rw [HQ.out, ← HS2.out]
  exact ⟨_, rfl, ho2, hw2⟩
end Go.Proofs.YtfakoalkbcnejaaDoor

/- laws.toQuery: a tree is copied. -/
namespace Go.Proofs.YtfakoalkbcnejaaDoor
open Go.RowKit
set_option linter.unusedVariables false

theorem qto_grown {w w' : World} {B d k g : Nat} {xs : List Value} {ps : List Qy} (h : QTo w B d xs ps k) (hg : w.grownBy w' (some g)) (hB : g < B) : QTo w' B d xs ps k :=
  h.kept hg.size (fun b h1 h2 => hg.block b h2 (by simp; omega))
theorem toQueryS_nil (a : Option Addr) (cap : Nat) (w : World) :
    Calls Tryd.prog 35 #[.slice a 0 cap] w fun e w' => ∃ p c, e = .returned (.slice p 0 c) ∧ Below w.heap.size w w' := by
  obtain ⟨i0, hi, hz0, hz1, hz2⟩ := info_parts infoQy
  go_enter Tryd.func35, Tryd.ntmps35
  go_wp2_with (refine wpList_make_full _ rfl _ _ 27 rfl w.heap.size 29 i0 (.agg #[.int .i64 0, .string ⟨#[]⟩, .string ⟨#[]⟩, .int .i64 0, .int .i64 0, .slice none 0 0]) 6 Tryd.underlying27 hi hz0 hz1 .i64 .i64 _ _ 0 rfl rfl rfl rfl (by rw [hz2]; omega) (by unfold maxLen; omega) (Nat.le_refl _) ?_; intro w1 hown1 hgrow1)
  have hb1 : Below w.heap.size w w1 := (Below.refl _ w).grown hgrow1 (Nat.le_refl _) (fun j hj => by cases hj)
  clear hown1 hgrow1
  go_wp2
  refine wp_loop_rounds 1 ?_
  rw [rounds_succ]
  go_wp2
  go_ret
  exact ⟨_, _, rfl, hb1⟩
/-- toQuery at trees whose parts are at most d deep. -/
def ToQ (d : Nat) : Prop := ∀ (k : Int) (f t : ByteArray) (lo hi : Int) (ps : List Qy) (a : Option Addr) (c : Nat) (w : World), QAt w 0 d a ps → QSz 1048576 d ps →
  Calls Tryd.prog 11 #[.agg #[.int .i64 k, .string f, .string t, .int .i64 lo, .int .i64 hi, .slice a ps.length c]] w fun e w' => ∃ p c', e = .returned (.agg #[.int .i64 k, .string f, .string t, .int .i64 lo, .int .i64 hi, .slice p ps.length c']) ∧ QAt w' w.heap.size d p ps ∧ Below w.heap.size w w'
def ToQS (d : Nat) : Prop := ∀ (ps : List Qy) (a : Option Addr) (c : Nat) (w : World), QAt w 0 d a ps → QSz 1048576 d ps →
  Calls Tryd.prog 35 #[.slice a ps.length c] w fun e w' => ∃ p c', e = .returned (.slice p ps.length c') ∧ QAt w' w.heap.size d p ps ∧ Below w.heap.size w w'
set_option maxRecDepth 100000 in
set_option maxHeartbeats 2000000 in
theorem toQS_step {d : Nat} (hT : ToQ d) : ToQS (d + 1) := by
  intro ps a cap w ha hsz
  obtain ⟨i0, hi, hz0, hz1, hz2⟩ := info_parts infoQy
  have HT : Hid (ToQ d) := hT
  have HA : Hid (∀ wx, Below w.heap.size w wx → QAt wx 0 (d + 1) a ps) := fun wx h => ha.below h
  have hz := hsz.len
  have HS : Hid (∀ i, i < ps.length → QSz 1048576 d (qat ps i).parts) := fun i hi => (hsz.2 i hi).2.2
  clear ha hsz hT
  go_enter Tryd.func35, Tryd.ntmps35
  go_wp2_with (refine wpList_make_full _ rfl _ _ 27 rfl w.heap.size 29 i0 (.agg #[.int .i64 0, .string ⟨#[]⟩, .string ⟨#[]⟩, .int .i64 0, .int .i64 0, .slice none 0 0]) 6 Tryd.underlying27 hi hz0 hz1 .i64 .i64 _ _ ps.length rfl rfl rfl rfl (by rw [hz2]; omega) (by unfold maxLen; omega) (Nat.le_refl _) ?_; intro w1 hown1 hgrow1)
  have hb1 : Below w.heap.size w w1 := (Below.refl _ w).grown hgrow1 (Nat.le_refl _) (fun j hj => by cases hj)
  generalize (madeCells (Value.agg #[.int .i64 0, .string ⟨#[]⟩, .string ⟨#[]⟩, .int .i64 0, .int .i64 0, .slice none 0 0]).cells (ps.length * 6)).toList = x0 at hown1
  have HO : Hid (w1.ownsRow w.heap.size 29 6 (.slice (some ⟨w.heap.size, 0, none⟩) ps.length ps.length) ps.length x0) := hown1
  clear hown1 hgrow1
  go_wp2
  go_loopw [4] (fun i wr => ∃ (k : Nat) (xs : List Value), k ≤ ps.length ∧ i = .int .i64 k ∧ wr.ownsRow w.heap.size 29 6 (.slice (some ⟨w.heap.size, 0, none⟩) ps.length ps.length) ps.length xs ∧ QTo wr (w.heap.size + 1) d xs ps k ∧ Below w.heap.size w wr) (fun i _ => ps.length - (intOf i).toNat)
  case atStart => exact ⟨0, x0, Nat.zero_le _, rfl, HO.out, fun i hi => by omega, hb1⟩
  case round =>
    clear HO
    obtain ⟨k, xs, hk, rfl, hown, hto, hbel⟩ := hrel
    by_cases hlt : k < ps.length
    · have hki : (k : Int) < (ps.length : Int) := by omega
      obtain ⟨g, off, rfl, _, hg, hc⟩ := (HA.out wr hbel) (by omega)
      obtain ⟨p, c, ⟨c0, c1, c2, c3, c4, c5⟩, hq⟩ := hc k hlt
      have hxl := hown.1
      have HTO : Hid (QTo wr (w.heap.size + 1) d xs ps k) := hto
      have HOW : Hid (wr.ownsRow w.heap.size 29 6 (.slice (some ⟨w.heap.size, 0, none⟩) ps.length ps.length) ps.length xs) := hown
      have hss := HS.out k hlt
      have hgl := (hown.lt _ rfl).2
      have hkx : k * 6 + 5 < xs.length := by omega
      have HST : Hid (∀ wx p c, QTo wx (w.heap.size + 1) d xs ps k → QAt wx (w.heap.size + 1) d p (qat ps k).parts → QTo wx (w.heap.size + 1) d ((((((xs.set (k * 6) (.int .i64 (qat ps k).kind)).set (k * 6 + 1) (.string (qat ps k).field)).set (k * 6 + 2) (.string (qat ps k).text)).set (k * 6 + 3) (.int .i64 (qat ps k).low)).set (k * 6 + 4) (.int .i64 (qat ps k).high)).set (k * 6 + 5) (.slice p (qat ps k).parts.length c)) ps (k + 1)) := fun wx p c h1 h2 => h1.step hkx h2
      generalize qat ps k = q at *
      obtain ⟨kd, f, t, lo, hi', pp⟩ := q
      simp only [Qy.kind, Qy.field, Qy.text, Qy.low, Qy.high, Qy.parts] at c0 c1 c2 c3 c4 c5 hq hss HST
      clear hc hto hown
      go_wp2_with fail
      refine (HT.out kd f t lo hi' pp p c wr hq hss).mono ?_
      rintro e w2 ⟨p2, c2', rfl, hq2, hb2⟩
      have ho2 := HOW.out.kept (grown_none hb2) (Classical.em _)
      have ht2 : QTo w2 (w.heap.size + 1) d xs ps k := HTO.out.kept hb2.size (fun b _ h => hb2.block b h)
      have hq2' : QAt w2 (w.heap.size + 1) d p2 pp := hq2.base (by omega)
      obtain ⟨ho3, hg3⟩ := ho2.stored (k * 6) (.int .i64 kd)
      obtain ⟨ho4, hg4⟩ := ho3.stored (k * 6 + 1) (.string f)
      obtain ⟨ho5, hg5⟩ := ho4.stored (k * 6 + 2) (.string t)
      obtain ⟨ho6, hg6⟩ := ho5.stored (k * 6 + 3) (.int .i64 lo)
      obtain ⟨ho7, hg7⟩ := ho6.stored (k * 6 + 4) (.int .i64 hi')
      obtain ⟨ho8, hg8⟩ := ho7.stored (k * 6 + 5) (.slice p2 pp.length c2')
      have hg28 := grown_then (grown_then (grown_then (grown_then (grown_then hg3 hg4) hg5) hg6) hg7) hg8
      have HN : Hid (QTo _ (w.heap.size + 1) d _ ps (k + 1)) := HST.out _ p2 c2' (qto_grown ht2 hg28 (by omega)) (hq2'.kept hg28.size (fun b h1 h2 => hg28.block b h2 (by simp; omega)))
      have HB : Hid (Below w.heap.size w _) := (hbel.trans (hb2.mono hbel.size)).grown hg28 (by have := hbel.size; have := hb2.size; omega) (fun j hj => by cases hj; exact Nat.le_refl _)
      have HO8 : Hid _ := ho8
      have hd : ∀ j, j < 6 → ∃ u, w2.cell? ⟨w.heap.size, k * 6 + j, none⟩ = some u := fun j hj => by
        rw [ho2.cellAt (k * 6 + j) (by omega)]
        exact ⟨_, List.getElem?_eq_getElem (by omega)⟩
      obtain ⟨o0, d0⟩ := hd 0 (by omega)
      obtain ⟨o1, d1⟩ := hd 1 (by omega)
      obtain ⟨o2, d2⟩ := hd 2 (by omega)
      obtain ⟨o3, d3⟩ := hd 3 (by omega)
      obtain ⟨o4, d4⟩ := hd 4 (by omega)
      obtain ⟨o5, d5⟩ := hd 5 (by omega)
      rw [Nat.add_zero] at d0
      have f0 := ho2.frozenAt (k * 6)
      have f1 := ho2.frozenAt (k * 6 + 1)
      have f2 := ho2.frozenAt (k * 6 + 2)
      have f3 := ho2.frozenAt (k * 6 + 3)
      have f4 := ho2.frozenAt (k * 6 + 4)
      have f5 := ho2.frozenAt (k * 6 + 5)
      clear ho2 ho3 ho4 ho5 ho6 ho7 ho8 hg3 hg4 hg5 hg6 hg7 hg8 hg28 hd HST HTO HOW ht2 hq2 hq2' hb2 hbel c0 c1 c2 c3 c4 c5 hq hss
      go_wp2
      go_roundw
      case rel => exact ⟨k + 1, _, by omega, by go_num, HO8.out, HN.out, HB.out⟩
      case measure => simp [intOf]; omega
    · have hkl : k = ps.length := by omega
      subst hkl
      have HQ : Hid (QAt wr w.heap.size (d + 1) (some ⟨w.heap.size, 0, none⟩) ps) := owns_qRow hown hto (Nat.le_refl _)
      clear hown hto
      go_wp2
      go_ret
      exact ⟨_, _, rfl, HQ.out, hbel⟩
theorem toQS_zero : ToQS 0 := by
  intro ps a cap w ha _
  have hp : ps = [] := ha
  subst hp
  refine (toQueryS_nil a cap w).mono ?_
  rintro e w' ⟨p, c, rfl, hb⟩
  exact ⟨p, c, rfl, rfl, hb⟩
set_option maxHeartbeats 2000000 in
theorem toQ_of {d : Nat} (hS : ToQS d) : ToQ d := by
  intro k f t lo hi ps a c w ha hsz
  have HS : Hid (ToQS d) := hS
  have hb1 : Below w.heap.size w (w.alloc (.cells #[.int .i64 k, .string f, .string t, .int .i64 lo, .int .i64 hi, .slice a ps.length c] 24)) := (Below.refl _ w).alloc (Nat.le_refl _) _
  have hb2 := hb1.alloc hb1.size (.cells #[.int .i64 0, .string ⟨#[]⟩, .string ⟨#[]⟩, .int .i64 0, .int .i64 0, .slice none 0 0] 29)
  have hb3 := hb2.alloc hb2.size (.cells #[.int .i64 k, .string f, .string t, .int .i64 lo, .int .i64 hi, .slice none 0 0] 29)
  have ha3 := ha.below hb3
  have BZ := (Blk.new (w.alloc (.cells #[.int .i64 k, .string f, .string t, .int .i64 lo, .int .i64 hi, .slice a ps.length c] 24)) #[.int .i64 0, .string ⟨#[]⟩, .string ⟨#[]⟩, .int .i64 0, .int .i64 0, .slice none 0 0] 29).alloc (.cells #[.int .i64 k, .string f, .string t, .int .i64 lo, .int .i64 hi, .slice none 0 0] 29)
  have BO := Blk.new ((w.alloc (.cells #[.int .i64 k, .string f, .string t, .int .i64 lo, .int .i64 hi, .slice a ps.length c] 24)).alloc (.cells #[.int .i64 0, .string ⟨#[]⟩, .string ⟨#[]⟩, .int .i64 0, .int .i64 0, .slice none 0 0] 29)) #[.int .i64 k, .string f, .string t, .int .i64 lo, .int .i64 hi, .slice none 0 0] 29
  have hs3 : (((w.alloc (.cells #[.int .i64 k, .string f, .string t, .int .i64 lo, .int .i64 hi, .slice a ps.length c] 24)).alloc (.cells #[.int .i64 0, .string ⟨#[]⟩, .string ⟨#[]⟩, .int .i64 0, .int .i64 0, .slice none 0 0] 29)).alloc (.cells #[.int .i64 k, .string f, .string t, .int .i64 lo, .int .i64 hi, .slice none 0 0] 29)).heap.size = w.heap.size + 3 := by simp
  rw [show (w.alloc (.cells #[.int .i64 k, .string f, .string t, .int .i64 lo, .int .i64 hi, .slice a ps.length c] 24)).heap.size = w.heap.size + 1 by simp] at BZ
  rw [show ((w.alloc (.cells #[.int .i64 k, .string f, .string t, .int .i64 lo, .int .i64 hi, .slice a ps.length c] 24)).alloc (.cells #[.int .i64 0, .string ⟨#[]⟩, .string ⟨#[]⟩, .int .i64 0, .int .i64 0, .slice none 0 0] 29)).heap.size = w.heap.size + 1 + 1 by simp] at BO
  clear hS ha
  go_enter Tryd.func11, Tryd.ntmps11
  go_wp2_with fail
  generalize ((w.alloc (.cells #[.int .i64 k, .string f, .string t, .int .i64 lo, .int .i64 hi, .slice a ps.length c] 24)).alloc (.cells #[.int .i64 0, .string ⟨#[]⟩, .string ⟨#[]⟩, .int .i64 0, .int .i64 0, .slice none 0 0] 29)).alloc (.cells #[.int .i64 k, .string f, .string t, .int .i64 lo, .int .i64 hi, .slice none 0 0] 29) = w3 at *
  refine (HS.out ps a c _ ha3 hsz).mono ?_
  rintro e w4 ⟨p, c', rfl, hq, hb4⟩
  have hbw : Below w.heap.size w w4 := hb3.trans (hb4.mono hb3.size)
  have BZ4 := BZ.below hb4 (by omega)
  have BO4 := BO.below hb4 (by omega)
  have z0 := BZ4.cell 0
  have z1 := BZ4.cell 1
  have z2 := BZ4.cell 2
  have z3 := BZ4.cell 3
  have z4 := BZ4.cell 4
  have z5 := BZ4.cell 5
  have y0 := BO4.cell 0
  have y1 := BO4.cell 1
  have y2 := BO4.cell 2
  have y3 := BO4.cell 3
  have y4 := BO4.cell 4
  have y5 := BO4.cell 5
  have f0 := BZ4.frozen 0
  have f1 := BZ4.frozen 1
  have f2 := BZ4.frozen 2
  have f3 := BZ4.frozen 3
  have f4 := BZ4.frozen 4
  have f5 := BZ4.frozen 5
  have g5 := BO4.frozen 5
  simp at z0 z1 z2 z3 z4 z5 y0 y1 y2 y3 y4 y5
  rw [hs3] at hq
  have HQ : Hid (QAt w4 (w.heap.size + 3) d p ps) := hq
  clear hb1 hb2 hb3 ha3 BZ BO hb4 BZ4 BO4 hq hs3
  go_wp2
  refine bodyPost_ret (v := .agg #[.int .i64 k, .string f, .string t, .int .i64 lo, .int .i64 hi, .slice p ps.length c']) (by simp [results, Tryd.results11, go_sem, z0, z1, z2, z3, z4, z5]) rfl ⟨p, c', rfl, ?_, ?_⟩
  · refine QAt.base (B := w.heap.size + 3) (by omega) ?_
    exact (((((((HQ.out.set (by simp) _).set (by simp) _).set (by simp) _).set (by simp) _).set (by simp) _).set (by simp) _).set (by simp) _)
  · exact (((((((hbw.setCell (by simp; omega) _).setCell (by simp) _).setCell (by simp) _).setCell (by simp) _).setCell (by simp) _).setCell (by simp) _).setCell (by simp) _)
/-- A tree is copied. -/
theorem toQ_any : ∀ d, ToQ d ∧ ToQS d
  | 0 => ⟨toQ_of toQS_zero, toQS_zero⟩
  | d + 1 => ⟨toQ_of (toQS_step (toQ_any d).1), toQS_step (toQ_any d).1⟩
end Go.Proofs.YtfakoalkbcnejaaDoor

/- Questions that lie in blocks of their own, each block once. -/
namespace Go.Proofs.YtfakoalkbcnejaaDoor
open Go.RowKit
set_option linter.unusedVariables false

theorem row_block {w w' : World} {B g cap n size : Nat} {e : TypeId} {xs : List Value} (h : w.ownsRow B e size (.slice (some ⟨g, 0, none⟩) n cap) n xs) (hb : w'.heap[g]? = w.heap[g]?) : w'.ownsRow B e size (.slice (some ⟨g, 0, none⟩) n cap) n xs := by
  refine ⟨h.1, ?_⟩
  rcases h.2 with ⟨e, _⟩ | ⟨g', c', cur, e, h3, h4, h5⟩
  · cases e
  · cases e
    exact .inr ⟨g, cap, cur, rfl, h3, hb.trans h4, h5⟩
def fpAll (fps : Nat → List Nat) (n : Nat) : List Nat := (List.range n).flatMap fps
theorem fpAll_succ (fps : Nat → List Nat) (n : Nat) : fpAll fps (n + 1) = fpAll fps n ++ fps n := by
  unfold fpAll
  rw [List.range_succ, List.flatMap_append]
  simp
theorem mem_fpAll {fps : Nat → List Nat} {n b : Nat} : b ∈ fpAll fps n ↔ ∃ i, i < n ∧ b ∈ fps i := by
  unfold fpAll
  simp [List.mem_flatMap]
theorem fpAll_congr {fps fqs : Nat → List Nat} {n : Nat} (h : ∀ i, i < n → fps i = fqs i) : fpAll fps n = fpAll fqs n := by
  induction n with
  | zero => rfl
  | succ n ih => rw [fpAll_succ, fpAll_succ, ih (fun i hi => h i (by omega)), h n (by omega)]
theorem fpAll_apart {fps : Nat → List Nat} : ∀ {n : Nat}, (fpAll fps n).Nodup → ∀ {i j : Nat}, i < n → j < n → i ≠ j → ∀ {b : Nat}, b ∈ fps i → b ∉ fps j
  | 0, _, _, _, hi, _, _, _, _ => by omega
  | n + 1, h, i, j, hi, hj, hne, b, hb => by
    rw [fpAll_succ, List.nodup_append] at h
    obtain ⟨h1, _, h3⟩ := h
    by_cases e : i = n
    · subst e
      intro hbj
      exact h3 b (mem_fpAll.2 ⟨j, by omega, hbj⟩) b hb rfl
    · by_cases e2 : j = n
      · subst e2
        intro hbj
        exact h3 b (mem_fpAll.2 ⟨i, by omega, hb⟩) b hbj rfl
      · exact fpAll_apart h1 (by omega) (by omega) hne hb
/-- Six cells of a row are a question. -/
def Qx (xs : List Value) (i : Nat) (q : Qy) (p : Option Addr) (c : Nat) : Prop := ∀ j, j < 6 → xs[i * 6 + j]? = (qVal q p c)[j]?
/-- Parts that lie in the blocks fp, each its own. -/
def QOwn (w : World) : Nat → Option Addr → Nat → List Qy → List Nat → Prop
  | 0, _, _, ps, fp => ps = [] ∧ fp = []
  | d + 1, a, c, ps, fp => (ps = [] ∧ fp = []) ∨ ∃ g xs fps, 0 < ps.length ∧ a = some ⟨g, 0, none⟩ ∧ w.ownsRow g 29 6 (.slice (some ⟨g, 0, none⟩) ps.length c) ps.length xs ∧ fp = g :: fpAll fps ps.length ∧ fp.Nodup ∧ ∀ i, i < ps.length → ∃ p c', Qx xs i (qat ps i) p c' ∧ QOwn w d p c' (qat ps i).parts (fps i)
theorem QOwn.nodup {w : World} : ∀ {d : Nat} {a : Option Addr} {c : Nat} {ps : List Qy} {fp : List Nat}, QOwn w d a c ps fp → fp.Nodup
  | 0, _, _, _, _, h => by rw [h.2]; exact List.nodup_nil
  | d + 1, _, _, _, _, h => by
    rcases h with ⟨_, rfl⟩ | ⟨g, xs, fps, _, _, _, _, hn, _⟩
    · exact List.nodup_nil
    · exact hn
theorem QOwn.lt {w : World} : ∀ {d : Nat} {a : Option Addr} {c : Nat} {ps : List Qy} {fp : List Nat}, QOwn w d a c ps fp → ∀ b ∈ fp, b < w.heap.size
  | 0, _, _, _, _, h, b, hb => by rw [h.2] at hb; cases hb
  | d + 1, _, _, _, _, h, b, hb => by
    rcases h with ⟨_, rfl⟩ | ⟨g, xs, fps, _, _, ho, rfl, _, hp⟩
    · cases hb
    · rcases List.mem_cons.1 hb with rfl | hb
      · exact (ho.lt _ rfl).2
      · obtain ⟨i, hi, hb⟩ := mem_fpAll.1 hb
        obtain ⟨p, c', _, hq⟩ := hp i hi
        exact QOwn.lt hq b hb
theorem QOwn.kept {w w' : World} : ∀ {d : Nat} {a : Option Addr} {c : Nat} {ps : List Qy} {fp : List Nat}, QOwn w d a c ps fp → (∀ b ∈ fp, w'.heap[b]? = w.heap[b]?) → QOwn w' d a c ps fp
  | 0, _, _, _, _, h, _ => h
  | d + 1, _, _, _, _, h, hb => by
    rcases h with h | ⟨g, xs, fps, h0, ha, ho, rfl, hn, hp⟩
    · exact .inl h
    · refine .inr ⟨g, xs, fps, h0, ha, row_block ho (hb g (by simp)), rfl, hn, fun i hi => ?_⟩
      obtain ⟨p, c', hx, hq⟩ := hp i hi
      exact ⟨p, c', hx, QOwn.kept hq fun b hb' => hb b (List.mem_cons.2 (.inr (mem_fpAll.2 ⟨i, hi, hb'⟩)))⟩
theorem QOwn.below {w w' : World} {d : Nat} {a : Option Addr} {c : Nat} {ps : List Qy} {fp : List Nat} (h : QOwn w d a c ps fp) (hb : Below w.heap.size w w') : QOwn w' d a c ps fp := h.kept fun b hb' => hb.block b (h.lt b hb')
theorem Qx.cells {w : World} {g cap n i : Nat} {xs : List Value} {q : Qy} {p : Option Addr} {c : Nat} {e : TypeId} (h : w.ownsRow g e 6 (.slice (some ⟨g, 0, none⟩) n cap) n xs) (hi : i < n) (hx : Qx xs i q p c) : QCells w g (0 + i * 6) q p c := by
  have e : ∀ j, j < 6 → w.cell? ⟨g, 0 + i * 6 + j, none⟩ = (qVal q p c)[j]? := fun j hj => by
    rw [Nat.zero_add, h.cellAt _ (by omega)]
    exact hx j hj
  exact ⟨e 0 (by omega), e 1 (by omega), e 2 (by omega), e 3 (by omega), e 4 (by omega), e 5 (by omega)⟩
theorem QOwn.at {w : World} {B : Nat} : ∀ {d : Nat} {a : Option Addr} {c : Nat} {ps : List Qy} {fp : List Nat}, QOwn w d a c ps fp → (∀ b ∈ fp, B ≤ b) → QAt w B d a ps
  | 0, _, _, _, _, h, _ => h.1
  | d + 1, _, _, _, _, h, hB => fun hp => by
    rcases h with ⟨e, _⟩ | ⟨g, xs, fps, h0, ha, ho, rfl, hn, hq⟩
    · rw [e] at hp; exact absurd hp (by simp)
    · refine ⟨g, 0, ha, hB g (by simp), (ho.lt _ rfl).2, fun i hi => ?_⟩
      obtain ⟨p, c', hx, h1⟩ := hq i hi
      exact ⟨p, c', hx.cells ho hi, QOwn.at h1 fun b hb => hB b (List.mem_cons.2 (.inr (mem_fpAll.2 ⟨i, hi, hb⟩)))⟩
/-- Only blocks of fp may have changed. -/
def Touch (fp : List Nat) (w w' : World) : Prop := Below 0 w w' ∧ ∀ b, b < w.heap.size → b ∉ fp → w'.heap[b]? = w.heap[b]?
theorem Touch.refl (fp : List Nat) (w : World) : Touch fp w w := ⟨Below.refl _ _, fun _ _ _ => rfl⟩
theorem Touch.trans {fp : List Nat} {u v w : World} (h : Touch fp u v) (k : Touch fp v w) : Touch fp u w := ⟨h.1.trans k.1, fun b hb hn => (k.2 b (Nat.lt_of_lt_of_le hb h.1.size) hn).trans (h.2 b hb hn)⟩
theorem Touch.mono {fp fq : List Nat} {w w' : World} (h : Touch fp w w') (hs : ∀ b ∈ fp, b ∈ fq) : Touch fq w w' := ⟨h.1, fun b hb hn => h.2 b hb (fun h' => hn (hs b h'))⟩
theorem Touch.of_below {fp : List Nat} {w w' : World} (h : Below w.heap.size w w') : Touch fp w w' := ⟨⟨h.os, h.tape, h.output, h.size, fun _ h => by omega⟩, fun b hb _ => h.block b hb⟩
theorem Touch.of_grown {fp : List Nat} {w w' : World} {g : Nat} (h : w.grownBy w' (some g)) (hg : g ∈ fp) : Touch fp w w' := ⟨⟨h.os, h.tape, h.output, h.size, fun _ h => by omega⟩, fun b hb hn => h.block b hb (fun e => hn (by cases e; exact hg))⟩
theorem Touch.below {fp : List Nat} {w w' : World} {B : Nat} (h : Touch fp w w') (hB : ∀ b ∈ fp, B ≤ b) (hw : B ≤ w.heap.size) : Below B w w' := ⟨h.1.os, h.1.tape, h.1.output, h.1.size, fun b hb => h.2 b (by omega) (fun hm => by have := hB b hm; omega)⟩
/-- How many marks a tree takes. -/
def qsum (f : Nat → Nat) : Nat → Nat
  | 0 => 0
  | n + 1 => qsum f n + f n
theorem qsum_congr {f g : Nat → Nat} : ∀ {n : Nat}, (∀ i, i < n → f i = g i) → qsum f n = qsum g n
  | 0, _ => rfl
  | n + 1, h => by
    show qsum f n + f n = qsum g n + g n
    rw [qsum_congr (fun i hi => h i (by omega)), h n (by omega)]
theorem qsum_le {f : Nat → Nat} {i n : Nat} (h : i < n) : qsum f i + f i ≤ qsum f n := by
  induction n with
  | zero => omega
  | succ n ih =>
    show _ ≤ qsum f n + f n
    by_cases e : i = n
    · subst e; exact Nat.le_refl _
    · have := ih (by omega)
      omega
def qcnt : Nat → List Qy → Nat
  | 0, _ => 0
  | d + 1, ps => qsum (fun i => 5 + qcnt d (qat ps i).parts) ps.length
def cntf (d : Nat) (ps : List Qy) (i : Nat) : Nat := 5 + qcnt d (qat ps i).parts
theorem qcnt_succ (d : Nat) (ps : List Qy) : qcnt (d + 1) ps = qsum (cntf d ps) ps.length := rfl
end Go.Proofs.YtfakoalkbcnejaaDoor

/- laws.toQuery: a tree is copied into blocks of its own. -/
namespace Go.Proofs.YtfakoalkbcnejaaDoor
open Go.RowKit
set_option linter.unusedVariables false

/-- The first k elements of a row are these questions, each in blocks of its own. -/
def QToO (w : World) (B d : Nat) (xs : List Value) (ps : List Qy) (k : Nat) : Prop := ∃ fps : Nat → List Nat, (∀ i, i < k → ∃ p c, Qx xs i (qat ps i) p c ∧ QOwn w d p c (qat ps i).parts (fps i) ∧ ∀ b ∈ fps i, B ≤ b) ∧ (fpAll fps k).Nodup
theorem QToO.kept {w w' : World} {B d k : Nat} {xs : List Value} {ps : List Qy} (h : QToO w B d xs ps k) (hb : ∀ b, B ≤ b → b < w.heap.size → w'.heap[b]? = w.heap[b]?) : QToO w' B d xs ps k := by
  obtain ⟨fps, h1, h2⟩ := h
  refine ⟨fps, fun i hi => ?_, h2⟩
  obtain ⟨p, c, hx, hq, hl⟩ := h1 i hi
  exact ⟨p, c, hx, hq.kept fun b hb' => hb b (hl b hb') (hq.lt b hb'), hl⟩
theorem nodup_snoc {fps : Nat → List Nat} {k N : Nat} {fp : List Nat} (h : (fpAll fps k).Nodup) (ho : ∀ b ∈ fpAll fps k, b < N) (hf : fp.Nodup) (hN : ∀ b ∈ fp, N ≤ b) : (fpAll (fun i => if i = k then fp else fps i) (k + 1)).Nodup := by
  rw [fpAll_succ, fpAll_congr (fqs := fps) (fun i hi => if_neg (by omega)), if_pos rfl, List.nodup_append]
  exact ⟨h, hf, fun a ha b hb e => by have := ho a ha; have := hN b hb; omega⟩
theorem QToO.step {w w2 : World} {B d k : Nat} {xs : List Value} {ps : List Qy} {p : Option Addr} {c : Nat} {fp : List Nat} (h : QToO w B d xs ps k) (hk : k * 6 + 5 < xs.length) (hb : ∀ b, b < w.heap.size → w2.heap[b]? = w.heap[b]?) (hBw : B ≤ w.heap.size) (hq : QOwn w2 d p c (qat ps k).parts fp) (hf : ∀ b ∈ fp, w.heap.size ≤ b) :
    QToO w2 B d ((((((xs.set (k * 6) (.int .i64 (qat ps k).kind)).set (k * 6 + 1) (.string (qat ps k).field)).set (k * 6 + 2) (.string (qat ps k).text)).set (k * 6 + 3) (.int .i64 (qat ps k).low)).set (k * 6 + 4) (.int .i64 (qat ps k).high)).set (k * 6 + 5) (.slice p (qat ps k).parts.length c)) ps (k + 1) := by
  obtain ⟨fps, h1, h2⟩ := h
  refine ⟨fun i => if i = k then fp else fps i, fun i hi => ?_, nodup_snoc h2 (fun b hb' => ?_) hq.nodup hf⟩
  · by_cases e : i = k
    · subst e
      simp only [if_pos]
      exact ⟨p, c, fun j hj => by rw [set6_at _ _ _ _ _ _ hk i j hj, if_pos rfl]; rfl, hq, fun b hb' => Nat.le_trans hBw (hf b hb')⟩
    · obtain ⟨p', c', hx, hq', hl⟩ := h1 i (by omega)
      simp only [if_neg e]
      exact ⟨p', c', fun j hj => by rw [set6_at _ _ _ _ _ _ hk i j hj, if_neg e]; exact hx j hj, hq'.kept fun b hb' => hb b (hq'.lt b hb'), hl⟩
  · obtain ⟨i, hi, hbi⟩ := mem_fpAll.1 hb'
    obtain ⟨p', c', _, hq', _⟩ := h1 i hi
    exact hq'.lt b hbi
theorem QToO.own {w : World} {g d c : Nat} {xs : List Value} {ps : List Qy} (h : QToO w (g + 1) d xs ps ps.length) (ho : w.ownsRow g 29 6 (.slice (some ⟨g, 0, none⟩) ps.length c) ps.length xs) : ∃ fp, QOwn w (d + 1) (some ⟨g, 0, none⟩) c ps fp ∧ ∀ b ∈ fp, g ≤ b := by
  obtain ⟨fps, h1, h2⟩ := h
  by_cases h0 : 0 < ps.length
  · refine ⟨g :: fpAll fps ps.length, .inr ⟨g, xs, fps, h0, rfl, ho, rfl, List.nodup_cons.2 ⟨fun hm => ?_, h2⟩, fun i hi => ?_⟩, fun b hb => ?_⟩
    · obtain ⟨i, hi, hb⟩ := mem_fpAll.1 hm
      obtain ⟨p, c', _, _, hl⟩ := h1 i hi
      have := hl g hb
      omega
    · obtain ⟨p, c', hx, hq, _⟩ := h1 i hi
      exact ⟨p, c', hx, hq⟩
    · rcases List.mem_cons.1 hb with rfl | hb
      · exact Nat.le_refl _
      · obtain ⟨i, hi, hb⟩ := mem_fpAll.1 hb
        obtain ⟨p, c', _, _, hl⟩ := h1 i hi
        have := hl b hb
        omega
  · exact ⟨[], .inl ⟨List.eq_nil_of_length_eq_zero (by omega), rfl⟩, fun b hb => by cases hb⟩
theorem own_base {w : World} {B C d c : Nat} {a : Option Addr} {ps : List Qy} {fp : List Nat} (hC : C ≤ B) (h : QOwn w d a c ps fp ∧ ∀ b ∈ fp, B ≤ b) : QOwn w d a c ps fp ∧ ∀ b ∈ fp, C ≤ b := ⟨h.1, fun b hb => Nat.le_trans hC (h.2 b hb)⟩
theorem own_set {w : World} {B d c : Nat} {a : Option Addr} {ps : List Qy} {fp : List Nat} (h : QOwn w d a c ps fp ∧ ∀ b ∈ fp, B ≤ b) {x : Addr} (hx : x.block < B) (v : Value) : QOwn (w.setCell x v) d a c ps fp ∧ ∀ b ∈ fp, B ≤ b :=
  ⟨h.1.kept fun b hb => Below.heap_setCell _ _ _ _ (by have := h.2 b hb; omega), h.2⟩
/-- toQuery at trees whose parts are at most d deep: what it makes is its own. -/
def ToQO (d : Nat) : Prop := ∀ (k : Int) (f t : ByteArray) (lo hi : Int) (ps : List Qy) (a : Option Addr) (c : Nat) (w : World), QAt w 0 d a ps → QSz 1048576 d ps →
  Calls Tryd.prog 11 #[.agg #[.int .i64 k, .string f, .string t, .int .i64 lo, .int .i64 hi, .slice a ps.length c]] w fun e w' => ∃ p c' fp, e = .returned (.agg #[.int .i64 k, .string f, .string t, .int .i64 lo, .int .i64 hi, .slice p ps.length c']) ∧ (QOwn w' d p c' ps fp ∧ ∀ b ∈ fp, w.heap.size ≤ b) ∧ Below w.heap.size w w'
def ToQSO (d : Nat) : Prop := ∀ (ps : List Qy) (a : Option Addr) (c : Nat) (w : World), QAt w 0 d a ps → QSz 1048576 d ps →
  Calls Tryd.prog 35 #[.slice a ps.length c] w fun e w' => ∃ p c' fp, e = .returned (.slice p ps.length c') ∧ (QOwn w' d p c' ps fp ∧ ∀ b ∈ fp, w.heap.size ≤ b) ∧ Below w.heap.size w w'
set_option maxRecDepth 100000 in
set_option maxHeartbeats 2000000 in
theorem toQSO_step {d : Nat} (hT : ToQO d) : ToQSO (d + 1) := by
  intro ps a cap w ha hsz
  obtain ⟨i0, hi, hz0, hz1, hz2⟩ := info_parts infoQy
  have HT : Hid (ToQO d) := hT
  have HA : Hid (∀ wx, Below w.heap.size w wx → QAt wx 0 (d + 1) a ps) := fun wx h => ha.below h
  have hz := hsz.len
  have HS : Hid (∀ i, i < ps.length → QSz 1048576 d (qat ps i).parts) := fun i hi => (hsz.2 i hi).2.2
  clear ha hsz hT
  go_enter Tryd.func35, Tryd.ntmps35
  go_wp2_with (refine wpList_make_full _ rfl _ _ 27 rfl w.heap.size 29 i0 (.agg #[.int .i64 0, .string ⟨#[]⟩, .string ⟨#[]⟩, .int .i64 0, .int .i64 0, .slice none 0 0]) 6 Tryd.underlying27 hi hz0 hz1 .i64 .i64 _ _ ps.length rfl rfl rfl rfl (by rw [hz2]; omega) (by unfold maxLen; omega) (Nat.le_refl _) ?_; intro w1 hown1 hgrow1)
  have hb1 : Below w.heap.size w w1 := (Below.refl _ w).grown hgrow1 (Nat.le_refl _) (fun j hj => by cases hj)
  generalize (madeCells (Value.agg #[.int .i64 0, .string ⟨#[]⟩, .string ⟨#[]⟩, .int .i64 0, .int .i64 0, .slice none 0 0]).cells (ps.length * 6)).toList = x0 at hown1
  have HO : Hid (w1.ownsRow w.heap.size 29 6 (.slice (some ⟨w.heap.size, 0, none⟩) ps.length ps.length) ps.length x0) := hown1
  clear hown1 hgrow1
  go_wp2
  go_loopw [4] (fun i wr => ∃ (k : Nat) (xs : List Value), k ≤ ps.length ∧ i = .int .i64 k ∧ wr.ownsRow w.heap.size 29 6 (.slice (some ⟨w.heap.size, 0, none⟩) ps.length ps.length) ps.length xs ∧ QToO wr (w.heap.size + 1) d xs ps k ∧ Below w.heap.size w wr) (fun i _ => ps.length - (intOf i).toNat)
  case atStart => exact ⟨0, x0, Nat.zero_le _, rfl, HO.out, ⟨fun _ => [], fun i hi => by omega, by simp [fpAll]⟩, hb1⟩
  case round =>
    clear HO
    obtain ⟨k, xs, hk, rfl, hown, hto, hbel⟩ := hrel
    by_cases hlt : k < ps.length
    · have hki : (k : Int) < (ps.length : Int) := by omega
      obtain ⟨g, off, rfl, _, hg, hc⟩ := (HA.out wr hbel) (by omega)
      obtain ⟨p, c, ⟨c0, c1, c2, c3, c4, c5⟩, hq⟩ := hc k hlt
      have hxl := hown.1
      have HTO : Hid (QToO wr (w.heap.size + 1) d xs ps k) := hto
      have HOW : Hid (wr.ownsRow w.heap.size 29 6 (.slice (some ⟨w.heap.size, 0, none⟩) ps.length ps.length) ps.length xs) := hown
      have hss := HS.out k hlt
      have hgl := (hown.lt _ rfl).2
      have hkx : k * 6 + 5 < xs.length := by omega
      have HST : Hid (∀ wx p c fp, (∀ b, b < wr.heap.size → wx.heap[b]? = wr.heap[b]?) → QOwn wx d p c (qat ps k).parts fp → (∀ b ∈ fp, wr.heap.size ≤ b) → QToO wx (w.heap.size + 1) d ((((((xs.set (k * 6) (.int .i64 (qat ps k).kind)).set (k * 6 + 1) (.string (qat ps k).field)).set (k * 6 + 2) (.string (qat ps k).text)).set (k * 6 + 3) (.int .i64 (qat ps k).low)).set (k * 6 + 4) (.int .i64 (qat ps k).high)).set (k * 6 + 5) (.slice p (qat ps k).parts.length c)) ps (k + 1)) := fun wx p c fp h1 h2 h3 => HTO.out.step hkx h1 (Nat.succ_le_of_lt (show w.heap.size < wr.heap.size from hgl)) h2 h3
      generalize qat ps k = q at *
      obtain ⟨kd, f, t, lo, hi', pp⟩ := q
      simp only [Qy.kind, Qy.field, Qy.text, Qy.low, Qy.high, Qy.parts] at c0 c1 c2 c3 c4 c5 hq hss HST
      clear hc hto hown
      go_wp2_with fail
      refine (HT.out kd f t lo hi' pp p c wr hq hss).mono ?_
      rintro e w2 ⟨p2, c2', fp2, rfl, ⟨hq2, hf2⟩, hb2⟩
      have ho2 := HOW.out.kept (grown_none hb2) (Classical.em _)
      have ht2 := HST.out w2 p2 c2' fp2 hb2.block hq2 hf2
      obtain ⟨ho3, hg3⟩ := ho2.stored (k * 6) (.int .i64 kd)
      obtain ⟨ho4, hg4⟩ := ho3.stored (k * 6 + 1) (.string f)
      obtain ⟨ho5, hg5⟩ := ho4.stored (k * 6 + 2) (.string t)
      obtain ⟨ho6, hg6⟩ := ho5.stored (k * 6 + 3) (.int .i64 lo)
      obtain ⟨ho7, hg7⟩ := ho6.stored (k * 6 + 4) (.int .i64 hi')
      obtain ⟨ho8, hg8⟩ := ho7.stored (k * 6 + 5) (.slice p2 pp.length c2')
      have hg28 := grown_then (grown_then (grown_then (grown_then (grown_then hg3 hg4) hg5) hg6) hg7) hg8
      have HN : Hid (QToO _ (w.heap.size + 1) d _ ps (k + 1)) := ht2.kept (fun b h1 h2 => hg28.block b h2 (by simp; omega))
      have HB : Hid (Below w.heap.size w _) := (hbel.trans (hb2.mono hbel.size)).grown hg28 (by have := hbel.size; have := hb2.size; omega) (fun j hj => by cases hj; exact Nat.le_refl _)
      have HO8 : Hid _ := ho8
      have hd : ∀ j, j < 6 → ∃ u, w2.cell? ⟨w.heap.size, k * 6 + j, none⟩ = some u := fun j hj => by
        rw [ho2.cellAt (k * 6 + j) (by omega)]
        exact ⟨_, List.getElem?_eq_getElem (by omega)⟩
      obtain ⟨o0, d0⟩ := hd 0 (by omega)
      obtain ⟨o1, d1⟩ := hd 1 (by omega)
      obtain ⟨o2, d2⟩ := hd 2 (by omega)
      obtain ⟨o3, d3⟩ := hd 3 (by omega)
      obtain ⟨o4, d4⟩ := hd 4 (by omega)
      obtain ⟨o5, d5⟩ := hd 5 (by omega)
      rw [Nat.add_zero] at d0
      have f0 := ho2.frozenAt (k * 6)
      have f1 := ho2.frozenAt (k * 6 + 1)
      have f2 := ho2.frozenAt (k * 6 + 2)
      have f3 := ho2.frozenAt (k * 6 + 3)
      have f4 := ho2.frozenAt (k * 6 + 4)
      have f5 := ho2.frozenAt (k * 6 + 5)
      clear ho2 ho3 ho4 ho5 ho6 ho7 ho8 hg3 hg4 hg5 hg6 hg7 hg8 hg28 hd HST HTO HOW ht2 hq2 hb2 hbel c0 c1 c2 c3 c4 c5 hq hss
      go_wp2
      go_roundw
      case rel => exact ⟨k + 1, _, by omega, by go_num, HO8.out, HN.out, HB.out⟩
      case measure => simp [intOf]; omega
    · have hkl : k = ps.length := by omega
      subst hkl
      obtain ⟨fp, hfo, hfl⟩ := hto.own (ownsRow_mono hown (Nat.le_refl _))
      have HQ : Hid (QOwn wr (d + 1) (some ⟨w.heap.size, 0, none⟩) ps.length ps fp ∧ ∀ b ∈ fp, w.heap.size ≤ b) := ⟨hfo, hfl⟩
      clear hown hto hfo hfl
      go_wp2
      go_ret
      exact ⟨_, _, fp, rfl, HQ.out, hbel⟩
theorem toQSO_zero : ToQSO 0 := by
  intro ps a cap w ha _
  have hp : ps = [] := ha
  subst hp
  refine (toQueryS_nil a cap w).mono ?_
  rintro e w' ⟨p, c, rfl, hb⟩
  exact ⟨p, c, [], rfl, ⟨⟨rfl, rfl⟩, fun b h => by cases h⟩, hb⟩
set_option maxHeartbeats 2000000 in
theorem toQO_of {d : Nat} (hS : ToQSO d) : ToQO d := by
  intro k f t lo hi ps a c w ha hsz
  have HS : Hid (ToQSO d) := hS
  have hb1 : Below w.heap.size w (w.alloc (.cells #[.int .i64 k, .string f, .string t, .int .i64 lo, .int .i64 hi, .slice a ps.length c] 24)) := (Below.refl _ w).alloc (Nat.le_refl _) _
  have hb2 := hb1.alloc hb1.size (.cells #[.int .i64 0, .string ⟨#[]⟩, .string ⟨#[]⟩, .int .i64 0, .int .i64 0, .slice none 0 0] 29)
  have hb3 := hb2.alloc hb2.size (.cells #[.int .i64 k, .string f, .string t, .int .i64 lo, .int .i64 hi, .slice none 0 0] 29)
  have ha3 := ha.below hb3
  have BZ := (Blk.new (w.alloc (.cells #[.int .i64 k, .string f, .string t, .int .i64 lo, .int .i64 hi, .slice a ps.length c] 24)) #[.int .i64 0, .string ⟨#[]⟩, .string ⟨#[]⟩, .int .i64 0, .int .i64 0, .slice none 0 0] 29).alloc (.cells #[.int .i64 k, .string f, .string t, .int .i64 lo, .int .i64 hi, .slice none 0 0] 29)
  have BO := Blk.new ((w.alloc (.cells #[.int .i64 k, .string f, .string t, .int .i64 lo, .int .i64 hi, .slice a ps.length c] 24)).alloc (.cells #[.int .i64 0, .string ⟨#[]⟩, .string ⟨#[]⟩, .int .i64 0, .int .i64 0, .slice none 0 0] 29)) #[.int .i64 k, .string f, .string t, .int .i64 lo, .int .i64 hi, .slice none 0 0] 29
  have hs3 : (((w.alloc (.cells #[.int .i64 k, .string f, .string t, .int .i64 lo, .int .i64 hi, .slice a ps.length c] 24)).alloc (.cells #[.int .i64 0, .string ⟨#[]⟩, .string ⟨#[]⟩, .int .i64 0, .int .i64 0, .slice none 0 0] 29)).alloc (.cells #[.int .i64 k, .string f, .string t, .int .i64 lo, .int .i64 hi, .slice none 0 0] 29)).heap.size = w.heap.size + 3 := by simp
  rw [show (w.alloc (.cells #[.int .i64 k, .string f, .string t, .int .i64 lo, .int .i64 hi, .slice a ps.length c] 24)).heap.size = w.heap.size + 1 by simp] at BZ
  rw [show ((w.alloc (.cells #[.int .i64 k, .string f, .string t, .int .i64 lo, .int .i64 hi, .slice a ps.length c] 24)).alloc (.cells #[.int .i64 0, .string ⟨#[]⟩, .string ⟨#[]⟩, .int .i64 0, .int .i64 0, .slice none 0 0] 29)).heap.size = w.heap.size + 1 + 1 by simp] at BO
  clear hS ha
  go_enter Tryd.func11, Tryd.ntmps11
  go_wp2_with fail
  generalize ((w.alloc (.cells #[.int .i64 k, .string f, .string t, .int .i64 lo, .int .i64 hi, .slice a ps.length c] 24)).alloc (.cells #[.int .i64 0, .string ⟨#[]⟩, .string ⟨#[]⟩, .int .i64 0, .int .i64 0, .slice none 0 0] 29)).alloc (.cells #[.int .i64 k, .string f, .string t, .int .i64 lo, .int .i64 hi, .slice none 0 0] 29) = w3 at *
  refine (HS.out ps a c _ ha3 hsz).mono ?_
  rintro e w4 ⟨p, c', fp, rfl, ⟨hq, hfp⟩, hb4⟩
  have hbw : Below w.heap.size w w4 := hb3.trans (hb4.mono hb3.size)
  have BZ4 := BZ.below hb4 (by omega)
  have BO4 := BO.below hb4 (by omega)
  have z0 := BZ4.cell 0
  have z1 := BZ4.cell 1
  have z2 := BZ4.cell 2
  have z3 := BZ4.cell 3
  have z4 := BZ4.cell 4
  have z5 := BZ4.cell 5
  have y0 := BO4.cell 0
  have y1 := BO4.cell 1
  have y2 := BO4.cell 2
  have y3 := BO4.cell 3
  have y4 := BO4.cell 4
  have y5 := BO4.cell 5
  have f0 := BZ4.frozen 0
  have f1 := BZ4.frozen 1
  have f2 := BZ4.frozen 2
  have f3 := BZ4.frozen 3
  have f4 := BZ4.frozen 4
  have f5 := BZ4.frozen 5
  have g5 := BO4.frozen 5
  simp at z0 z1 z2 z3 z4 z5 y0 y1 y2 y3 y4 y5
  rw [hs3] at hfp
  have HQ : Hid (QOwn w4 d p c' ps fp ∧ ∀ b ∈ fp, w.heap.size + 3 ≤ b) := ⟨hq, hfp⟩
  clear hb1 hb2 hb3 ha3 BZ BO hb4 BZ4 BO4 hq hs3 hfp
  go_wp2
  refine bodyPost_ret (v := .agg #[.int .i64 k, .string f, .string t, .int .i64 lo, .int .i64 hi, .slice p ps.length c']) (by simp [results, Tryd.results11, go_sem, z0, z1, z2, z3, z4, z5]) rfl ⟨p, c', fp, rfl, ?_, ?_⟩
  · refine own_base (B := w.heap.size + 3) (by omega) ?_
    exact own_set (own_set (own_set (own_set (own_set (own_set (own_set HQ.out (by simp) _) (by simp) _) (by simp) _) (by simp) _) (by simp) _) (by simp) _) (by simp) _
  · exact (((((((hbw.setCell (by simp; omega) _).setCell (by simp) _).setCell (by simp) _).setCell (by simp) _).setCell (by simp) _).setCell (by simp) _).setCell (by simp) _)
/-- A tree is copied. -/
theorem toQO_any : ∀ d, ToQO d ∧ ToQSO d
  | 0 => ⟨toQO_of toQSO_zero, toQSO_zero⟩
  | d + 1 => ⟨toQO_of (toQSO_step (toQO_any d).1), toQSO_step (toQO_any d).1⟩
end Go.Proofs.YtfakoalkbcnejaaDoor

/- laws.szQuery and laws.eqQuery: a tree is measured; two of the same are the same. -/
namespace Go.Proofs.YtfakoalkbcnejaaDoor
open Go.RowKit
set_option linter.unusedVariables false

def SzQ (d : Nat) : Prop := ∀ (k : Int) (f t : ByteArray) (lo hi : Int) (ps : List Qy) (a : Option Addr) (c : Nat) (left : Int) (w : World), QAt w 0 d a ps → QSz maxLen d ps → f.size ≤ maxLen → t.size ≤ maxLen → 0 ≤ left → left ≤ 1048576 →
  Calls Tryd.prog 9 #[.agg #[.int .i64 k, .string f, .string t, .int .i64 lo, .int .i64 hi, .slice a ps.length c], .int .i64 left] w fun e w' => ∃ r : Int, e = .returned (.int .i64 r) ∧ -1 ≤ r ∧ r ≤ left ∧ (0 ≤ r → f.size ≤ 1048576 ∧ t.size ≤ 1048576 ∧ QSz 1048576 d ps ∧ (qcnt d ps : Int) ≤ 5 * (left - r)) ∧ Below w.heap.size w w'
def SzQS (d : Nat) : Prop := ∀ (ps : List Qy) (a : Option Addr) (c : Nat) (left : Int) (w : World), QAt w 0 d a ps → QSz maxLen d ps → 0 ≤ left → left ≤ 1048576 →
  Calls Tryd.prog 33 #[.slice a ps.length c, .int .i64 left] w fun e w' => ∃ r : Int, e = .returned (.int .i64 r) ∧ -1 ≤ r ∧ r ≤ left ∧ (0 ≤ r → QSz 1048576 d ps ∧ (qcnt d ps : Int) ≤ 5 * (left - r)) ∧ Below w.heap.size w w'
theorem szQS_zero : SzQS 0 := by
  intro ps a c left w ha _ h0 h1
  have hp : ps = [] := ha
  subst hp
  have hd : decide (left < 0) = false := decide_eq_false (by omega)
  go_enter Tryd.func33, Tryd.ntmps33
  go_wp2
  refine wp_loop_rounds 1 ?_
  rw [rounds_succ]
  go_wp2
  go_ret
  exact ⟨left, rfl, by omega, by omega, fun _ => ⟨rfl, by show ((0 : Nat) : Int) ≤ _; omega⟩, Below.refl _ _⟩
set_option maxRecDepth 100000 in
set_option maxHeartbeats 2000000 in
theorem szQS_step {d : Nat} (hT : SzQ d) : SzQS (d + 1) := by
  intro ps a cap left0 w ha hsz h00 h01
  have HT : Hid (SzQ d) := hT
  have HA : Hid (∀ wx, Below w.heap.size w wx → QAt wx 0 (d + 1) a ps) := fun wx h => ha.below h
  have hz := hsz.len
  unfold maxLen at hz
  have HS : Hid (∀ i, i < ps.length → (qat ps i).field.size ≤ maxLen ∧ (qat ps i).text.size ≤ maxLen ∧ QSz maxLen d (qat ps i).parts) := fun i hi => hsz.2 i hi
  clear ha hsz hT
  by_cases hbig : left0 - (ps.length : Int) < 0
  · go_enter Tryd.func33, Tryd.ntmps33
    go_wp2
    go_ret
    exact ⟨-1, rfl, by omega, by omega, fun h => by omega, Below.refl _ _⟩
  have hbd : decide (left0 - (ps.length : Int) < 0) = false := by simpa using hbig
  go_enter Tryd.func33, Tryd.ntmps33
  go_wp2
  go_loopw [1, 5] (fun l i wr => ∃ (k : Nat) (left : Int), k ≤ ps.length ∧ i = .int .i64 k ∧ l = .int .i64 left ∧ 0 ≤ left ∧ left ≤ left0 ∧ (∀ j, j < k → (qat ps j).field.size ≤ 1048576 ∧ (qat ps j).text.size ≤ 1048576 ∧ QSz 1048576 d (qat ps j).parts) ∧ (qsum (cntf d ps) k : Int) ≤ 5 * (left0 - (ps.length : Int) - left) + 5 * (k : Int) ∧ Below w.heap.size w wr) (fun _ i _ => ps.length - (intOf i).toNat)
  case atStart => exact ⟨0, left0 - ps.length, Nat.zero_le _, rfl, rfl, by omega, by omega, fun j hj => by omega, by show ((0 : Nat) : Int) ≤ _; omega, Below.refl _ _⟩
  case round =>
    obtain ⟨k, left, hk, rfl, rfl, hl0, hl1, hj, hqs, hbel⟩ := hrel
    have HQS : Hid ((qsum (cntf d ps) k : Int) ≤ 5 * (left0 - (ps.length : Int) - left) + 5 * (k : Int)) := hqs
    have HQ1 : Hid (qsum (cntf d ps) (k + 1) = qsum (cntf d ps) k + (5 + qcnt d (qat ps k).parts)) := rfl
    clear hqs
    have HJ : Hid (∀ j, j < k → (qat ps j).field.size ≤ 1048576 ∧ (qat ps j).text.size ≤ 1048576 ∧ QSz 1048576 d (qat ps j).parts) := hj
    clear hj
    by_cases hlt : k < ps.length
    · have hkl : (k : Int) < (ps.length : Int) := by omega
      obtain ⟨g, off, rfl, _, hg, hc⟩ := (HA.out wr hbel) (by omega)
      obtain ⟨p, c, ⟨c0, c1, c2, c3, c4, c5⟩, hq⟩ := hc k hlt
      obtain ⟨s1, s2, s3⟩ := HS.out k hlt
      have HJK : Hid ((qat ps k).field.size ≤ 1048576 ∧ (qat ps k).text.size ≤ 1048576 ∧ QSz 1048576 d (qat ps k).parts → ∀ j, j < k + 1 → (qat ps j).field.size ≤ 1048576 ∧ (qat ps j).text.size ≤ 1048576 ∧ QSz 1048576 d (qat ps j).parts) := fun h j hj => by
        by_cases e : j = k
        · subst e; exact h
        · exact HJ.out j (by omega)
      generalize qat ps k = q at *
      obtain ⟨kd, f, t, lo, hi', pp⟩ := q
      simp only [Qy.kind, Qy.field, Qy.text, Qy.low, Qy.high, Qy.parts] at c0 c1 c2 c3 c4 c5 hq s1 s2 s3 HJK
      clear hc
      go_wp2_with fail
      refine (HT.out kd f t lo hi' pp p c left wr hq s3 s1 s2 hl0 (by omega)).mono ?_
      rintro e w2 ⟨r, rfl, hr0, hr1, hr2, hb2⟩
      have hb3 := hbel.trans (hb2.mono hbel.size)
      have HR2 : Hid (0 ≤ r → f.size ≤ 1048576 ∧ t.size ≤ 1048576 ∧ QSz 1048576 d pp) := fun h => ⟨(hr2 h).1, (hr2 h).2.1, (hr2 h).2.2.1⟩
      have HC2 : Hid (0 ≤ r → (qcnt d pp : Int) ≤ 5 * (left - r)) := fun h => (hr2 h).2.2.2
      have HQ3 : Hid (qsum (cntf d ps) (k + 1) = qsum (cntf d ps) k + (5 + qcnt d pp)) := HQ1.out
      clear c0 c1 c2 c3 c4 c5 hq s1 s2 s3 hr2 hb2
      by_cases hneg : r < 0
      · go_wp2
        go_ret
        exact ⟨-1, rfl, by omega, by omega, fun h => by omega, hb3⟩
      · have hnd : decide (r < 0) = false := by simpa using hneg
        go_wp2
        go_roundw
        case rel => exact ⟨k + 1, r, by omega, by go_num, rfl, by omega, by omega, HJK.out (HR2.out (by omega)), by have h1 := HC2.out (by omega); have h2 := HQS.out; have h3 := HQ3.out; omega, hb3⟩
        case measure => simp [intOf]; omega
    · have hkl : k = ps.length := by omega
      subst hkl
      go_wp2
      go_ret
      exact ⟨left, rfl, by omega, hl1, fun _ => ⟨⟨by omega, HJ.out⟩, by have h2 := HQS.out; show (qsum (cntf d ps) ps.length : Int) ≤ _; omega⟩, hbel⟩
set_option maxHeartbeats 1000000 in
theorem szQ_of {d : Nat} (hS : SzQS d) : SzQ d := by
  intro k f t lo hi ps a c left w ha hsz hf ht h0 h1
  have HS : Hid (SzQS d) := hS
  have hb1 : Below w.heap.size w (w.alloc (.cells #[.int .i64 k, .string f, .string t, .int .i64 lo, .int .i64 hi, .slice a ps.length c] 24)) := (Below.refl _ w).alloc (Nat.le_refl _) _
  have ha1 := ha.below hb1
  unfold maxLen at hf ht
  clear hS ha
  by_cases h2 : left - (f.size : Int) < 0
  · go_enter Tryd.func9, Tryd.ntmps9
    go_wp2
    go_ret
    exact ⟨-1, rfl, by omega, by omega, fun h => by omega, hb1⟩
  · have h2d : decide (left - (f.size : Int) < 0) = false := decide_eq_false h2
    by_cases h3 : left - (f.size : Int) - (t.size : Int) < 0
    · go_enter Tryd.func9, Tryd.ntmps9
      go_wp2
      go_ret
      exact ⟨-1, rfl, by omega, by omega, fun h => by omega, hb1⟩
    · have h3d : decide (left - (f.size : Int) - (t.size : Int) < 0) = false := decide_eq_false h3
      go_enter Tryd.func9, Tryd.ntmps9
      go_wp2_with fail
      refine (HS.out ps a c _ _ ha1 hsz (by omega) (by omega)).mono ?_
      rintro e w2 ⟨r, rfl, hr0, hr1, hr2, hb2⟩
      have hbw := hb1.trans (hb2.mono hb1.size)
      have HR2 : Hid (0 ≤ r → QSz 1048576 d ps) := fun h => (hr2 h).1
      have HC2 : Hid (0 ≤ r → (qcnt d ps : Int) ≤ 5 * (left - (f.size : Int) - (t.size : Int) - r)) := fun h => (hr2 h).2
      clear hr2 hb2 ha1 hb1
      by_cases hneg : r < 0
      · go_wp2
        go_ret
        exact ⟨-1, rfl, by omega, by omega, fun h => by omega, hbw⟩
      · have hnd : decide (r < 0) = false := by simpa using hneg
        go_wp2
        go_ret
        exact ⟨r, rfl, by omega, by omega, fun h => ⟨by omega, by omega, HR2.out h, by have := HC2.out h; omega⟩, hbw⟩
/-- A tree is measured. -/
theorem szQ_any : ∀ d, SzQ d ∧ SzQS d
  | 0 => ⟨szQ_of szQS_zero, szQS_zero⟩
  | d + 1 => ⟨szQ_of (szQS_step (szQ_any d).1), szQS_step (szQ_any d).1⟩

def EqQ (d : Nat) : Prop := ∀ (k : Int) (f t : ByteArray) (lo hi : Int) (ps : List Qy) (a b : Option Addr) (c c' : Nat) (w : World), QAt w 0 d a ps → QAt w 0 d b ps → QSz 1048576 d ps →
  Calls Tryd.prog 13 #[.agg #[.int .i64 k, .string f, .string t, .int .i64 lo, .int .i64 hi, .slice a ps.length c], .agg #[.int .i64 k, .string f, .string t, .int .i64 lo, .int .i64 hi, .slice b ps.length c']] w fun e w' => e = .returned (.bool true) ∧ Below w.heap.size w w'
def EqQS (d : Nat) : Prop := ∀ (ps : List Qy) (a b : Option Addr) (c c' : Nat) (w : World), QAt w 0 d a ps → QAt w 0 d b ps → QSz 1048576 d ps →
  Calls Tryd.prog 37 #[.slice a ps.length c, .slice b ps.length c'] w fun e w' => e = .returned (.bool true) ∧ Below w.heap.size w w'
theorem eqQS_zero : EqQS 0 := by
  intro ps a b c c' w ha _ _
  have hp : ps = [] := ha
  subst hp
  go_enter Tryd.func37, Tryd.ntmps37
  go_wp2
  refine wp_loop_rounds 1 ?_
  rw [rounds_succ]
  go_wp2
  go_ret
  exact ⟨rfl, Below.refl _ _⟩
set_option maxRecDepth 100000 in
set_option maxHeartbeats 2000000 in
theorem eqQS_step {d : Nat} (hT : EqQ d) : EqQS (d + 1) := by
  intro ps a b ca cb w ha hb hsz
  have HT : Hid (EqQ d) := hT
  have HA : Hid (∀ wx, Below w.heap.size w wx → QAt wx 0 (d + 1) a ps) := fun wx h => ha.below h
  have HB : Hid (∀ wx, Below w.heap.size w wx → QAt wx 0 (d + 1) b ps) := fun wx h => hb.below h
  have hz := hsz.len
  have HS : Hid (∀ i, i < ps.length → QSz 1048576 d (qat ps i).parts) := fun i hi => (hsz.2 i hi).2.2
  clear ha hb hsz hT
  go_enter Tryd.func37, Tryd.ntmps37
  go_wp2
  go_loopw [5] (fun i wr => ∃ k : Nat, k ≤ ps.length ∧ i = .int .i64 k ∧ Below w.heap.size w wr) (fun i _ => ps.length - (intOf i).toNat)
  case atStart => exact ⟨0, Nat.zero_le _, rfl, Below.refl _ _⟩
  case round =>
    obtain ⟨k, hk, rfl, hbel⟩ := hrel
    by_cases hlt : k < ps.length
    · have hki : (k : Int) < (ps.length : Int) := by omega
      obtain ⟨g1, o1, rfl, _, hg1, hc1⟩ := (HA.out wr hbel) (by omega)
      obtain ⟨g2, o2, rfl, _, hg2, hc2⟩ := (HB.out wr hbel) (by omega)
      obtain ⟨p1, e1, ⟨c0, c1, c2, c3, c4, c5⟩, hq1⟩ := hc1 k hlt
      obtain ⟨p2, e2, ⟨d0, d1, d2, d3, d4, d5⟩, hq2⟩ := hc2 k hlt
      have hss := HS.out k hlt
      generalize qat ps k = q at *
      obtain ⟨kd, f, t, lo, hi', pp⟩ := q
      simp only [Qy.kind, Qy.field, Qy.text, Qy.low, Qy.high, Qy.parts] at c0 c1 c2 c3 c4 c5 d0 d1 d2 d3 d4 d5 hq1 hq2 hss
      clear hc1 hc2
      go_wp2
      go_region_with (go_at_call 13; refine (HT.out kd f t lo hi' pp p1 p2 e1 e2 _ (by exact hq1.below (below_drew (Below.refl _ _))) (by exact hq2.below (below_drew (Below.refl _ _))) hss).mono ?_; rintro e w2 ⟨rfl, hb2d⟩; have hb2 : Below wr.heap.size wr w2 := ⟨hb2d.os, hb2d.tape, hb2d.output, hb2d.size, hb2d.block⟩; clear hb2d)
      all_goals
        go_wp2
        go_roundw
        case rel => exact ⟨k + 1, by omega, by go_num, hbel.trans (hb2.mono hbel.size)⟩
        case measure => simp [intOf]; omega
    · have hkl : k = ps.length := by omega
      subst hkl
      go_wp2
      go_ret
      exact ⟨rfl, hbel⟩
set_option maxHeartbeats 1000000 in
theorem eqQ_of {d : Nat} (hS : EqQS d) : EqQ d := by
  intro k f t lo hi ps a b c c' w ha hb hsz
  have HS : Hid (EqQS d) := hS
  have hb1 : Below w.heap.size w (w.alloc (.cells #[.int .i64 k, .string f, .string t, .int .i64 lo, .int .i64 hi, .slice a ps.length c] 29)) := (Below.refl _ w).alloc (Nat.le_refl _) _
  have hb2 := hb1.alloc hb1.size (.cells #[.int .i64 k, .string f, .string t, .int .i64 lo, .int .i64 hi, .slice b ps.length c'] 29)
  have ha2 := ha.below hb2
  have hbb := hb.below hb2
  clear hS ha hb
  go_enter Tryd.func13, Tryd.ntmps13
  go_wp2_with fail
  refine (HS.out ps a b c c' _ ha2 hbb hsz).mono ?_
  rintro e w3 ⟨rfl, hb3⟩
  have hbw := hb2.trans (hb3.mono hb2.size)
  clear ha2 hbb hb1 hb2 hb3
  go_wp2
  go_ret
  exact ⟨rfl, hbw⟩
theorem eqQ_any : ∀ d, EqQ d ∧ EqQS d
  | 0 => ⟨eqQ_of eqQS_zero, eqQS_zero⟩
  | d + 1 => ⟨eqQ_of (eqQS_step (eqQ_any d).1), eqQS_step (eqQ_any d).1⟩
end Go.Proofs.YtfakoalkbcnejaaDoor

/- The marks that the exact laws lay into an answer and look for again: markText. -/
namespace Go.Proofs.YtfakoalkbcnejaaDoor
open Go.RowKit

def digU (k : Nat) : UInt8 := UInt8.ofNat (48 + k % 10)
theorem digU_toNat (k : Nat) : ((digU k).toNat : Int) = 48 + (k : Int) % 10 := by
  unfold digU
  rw [UInt8.toNat_ofNat']
  omega
def decF : Nat → Nat → ByteArray → ByteArray
  | 0, _, o => o
  | f + 1, k, o => if k = 0 then o else decF f (k / 10) (⟨#[digU k]⟩ ++ o)
def markT (k : Nat) : ByteArray := ⟨#[109]⟩ ++ decF k k ⟨#[]⟩
theorem decF_step (f j : Nat) (o : ByteArray) (hj : j ≠ 0) (hf : j ≤ f) : ∃ f', j / 10 ≤ f' ∧ decF f j o = decF f' (j / 10) (⟨#[digU j]⟩ ++ o) := by
  cases f with
  | zero => omega
  | succ f' => exact ⟨f', by omega, by rw [decF, if_neg hj]⟩
theorem decF_zero (f : Nat) (o : ByteArray) : decF f 0 o = o := by
  cases f with
  | zero => rfl
  | succ f' => rw [decF, if_pos rfl]

set_option maxHeartbeats 400000 in
theorem markText_any (k : Nat) (w : World) (hk : k ≤ 1099511627776) (hk1 : 1 ≤ k) :
    Calls Tryd.prog 49 #[.int .i64 k] w fun e w' => e = .returned (.string (markT k)) ∧ Below w.heap.size w w' := by
  go_enter Tryd.func49, Tryd.ntmps49
  go_wp2
  go_loopw [0, 3] (fun i o wr => ∃ (j f : Nat) (t : ByteArray), i = .int .i64 j ∧ o = .string t ∧ t.size + j ≤ k ∧ j ≤ f ∧ decF f j t = decF k k ⟨#[]⟩ ∧ Below w.heap.size w wr) (fun i _ _ => (intOf i).toNat)
  case atStart => exact ⟨k, k, ⟨#[]⟩, rfl, rfl, by show 0 + k ≤ k; omega, Nat.le_refl _, rfl, Below.refl _ _⟩
  case round =>
    obtain ⟨j, f, t, rfl, rfl, hsz, hjf, hd, hbel⟩ := hrel
    by_cases hj : j = 0
    · subst hj
      rw [decF_zero] at hd
      have HD : Hid (t = decF k k ⟨#[]⟩) := hd
      clear hd
      go_wp2
      go_ret
      exact ⟨ret_string (by rw [HD.out]; rfl), hbel⟩
    · obtain ⟨f', hf', he⟩ := decF_step f j t hj hjf
      have HD : Hid (decF f' (j / 10) (⟨#[digU j]⟩ ++ t) = decF k k ⟨#[]⟩) := by unfold Hid; rw [← he]; exact hd
      clear hd he
      have hbs := hbel.size
      have hback := fun (W : World) (C : Nat) => run_convert_bytes_back (P := Tryd.prog) (W.alloc (.cells #[.int .u8 (48 + (j : Int) % 10)] 5)) 47 9 5 ⟨W.heap.size, 0, none⟩ C [digU j] Tryd.underlying47 Tryd.underlying5 Tryd.underlying9 (by
        intro i hi
        have hi0 : i = 0 := by simpa using hi
        subst hi0
        rw [addr_add0, World.cell?_alloc_new]
        simp [digU_toNat])
      simp only [List.length_singleton] at hback
      go_wp2
      go_roundw
      case rel => exact ⟨j / 10, f', ⟨#[digU j]⟩ ++ t, by go_num, rfl, by rw [ByteArray.size_append]; show 1 + t.size + j / 10 ≤ k; omega, hf', HD.out, hbel.alloc hbs _⟩
      case measure => simp [intOf]; omega
end Go.Proofs.YtfakoalkbcnejaaDoor

/- markQueryS lays marks into a tree that lies in blocks of its own; heldQueryS finds them. -/
namespace Go.Proofs.YtfakoalkbcnejaaDoor
open Go.RowKit
set_option linter.unusedVariables false

/-- A tree bears the marks from k on. -/
def MarkedQ : Nat → Nat → List Qy → Prop
  | 0, _, _ => True
  | d + 1, k, ps => ∀ i, i < ps.length → (qat ps i).kind = ((k + qsum (cntf d ps) i : Nat) : Int) ∧ (qat ps i).field = markT (k + qsum (cntf d ps) i + 1) ∧ (qat ps i).text = markT (k + qsum (cntf d ps) i + 2) ∧ (qat ps i).low = ((k + qsum (cntf d ps) i + 3 : Nat) : Int) ∧ (qat ps i).high = ((k + qsum (cntf d ps) i + 4 : Nat) : Int) ∧ MarkedQ d (k + qsum (cntf d ps) i + 5) (qat ps i).parts
def MkOne (d m : Nat) (q : Qy) : Prop := q.kind = (m : Int) ∧ q.field = markT (m + 1) ∧ q.text = markT (m + 2) ∧ q.low = ((m + 3 : Nat) : Int) ∧ q.high = ((m + 4 : Nat) : Int) ∧ MarkedQ d (m + 5) q.parts
theorem qat_set (ps : List Qy) (j : Nat) (q : Qy) (hj : j < ps.length) (i : Nat) : qat (ps.set j q) i = if i = j then q else qat ps i := by
  unfold qat
  rw [List.getD_eq_getElem?_getD, List.getD_eq_getElem?_getD, List.getElem?_set]
  by_cases e : i = j
  · subst e
    rw [if_pos rfl, if_pos rfl, if_pos hj]
    rfl
  · rw [if_neg (fun h => e h.symm), if_neg e]
theorem set5_at {xs : List Value} {k : Nat} (v0 v1 v2 v3 v4 : Value) (hk : k * 6 + 5 < xs.length) : ∀ i j, j < 6 → (((((xs.set (k * 6) v0).set (k * 6 + 1) v1).set (k * 6 + 2) v2).set (k * 6 + 3) v3).set (k * 6 + 4) v4)[i * 6 + j]? = if i = k ∧ j < 5 then [v0, v1, v2, v3, v4][j]? else xs[i * 6 + j]? := by
  intro i j hj
  by_cases e : i = k
  · subst e
    rcases (show j = 0 ∨ j = 1 ∨ j = 2 ∨ j = 3 ∨ j = 4 ∨ j = 5 by omega) with rfl | rfl | rfl | rfl | rfl | rfl
    · rw [if_pos (by omega)]; simp [List.getElem?_set]; omega
    · rw [if_pos (by omega)]; simp [List.getElem?_set]; omega
    · rw [if_pos (by omega)]; simp [List.getElem?_set]; omega
    · rw [if_pos (by omega)]; simp [List.getElem?_set]; omega
    · rw [if_pos (by omega)]; simp [List.getElem?_set]; omega
    · rw [if_neg (by omega), List.getElem?_set_ne (by omega), List.getElem?_set_ne (by omega), List.getElem?_set_ne (by omega), List.getElem?_set_ne (by omega), List.getElem?_set_ne (by omega)]
  · rw [if_neg (by omega), List.getElem?_set_ne (by omega), List.getElem?_set_ne (by omega), List.getElem?_set_ne (by omega), List.getElem?_set_ne (by omega), List.getElem?_set_ne (by omega)]
structure MSt (w : World) (d g c k j : Nat) (ps qs : List Qy) (fps : Nat → List Nat) (xs : List Value) : Prop where
  len : qs.length = ps.length
  row : w.ownsRow g 29 6 (.slice (some ⟨g, 0, none⟩) ps.length c) ps.length xs
  el : ∀ i, i < ps.length → ∃ p c', Qx xs i (qat qs i) p c' ∧ QOwn w d p c' (qat qs i).parts (fps i)
  cnt : ∀ i, i < ps.length → qcnt d (qat qs i).parts = qcnt d (qat ps i).parts
  done : ∀ i, i < j → MkOne d (k + qsum (cntf d ps) i) (qat qs i)
theorem MSt.next {wr w6 w7 : World} {d g c k j : Nat} {ps qs pp : List Qy} {fps : Nat → List Nat} {xs : List Value} {p : Option Addr} {c' : Nat} (h : MSt wr d g c k j ps qs fps xs) (hj : j < ps.length) (hnd : (g :: fpAll fps ps.length).Nodup) (hx : Qx xs j (qat qs j) p c') (hg : wr.grownBy w6 (some g))
    (ho : w6.ownsRow g 29 6 (.slice (some ⟨g, 0, none⟩) ps.length c) ps.length (((((xs.set (j * 6) (.int .i64 ((k + qsum (cntf d ps) j : Nat) : Int))).set (j * 6 + 1) (.string (markT (k + qsum (cntf d ps) j + 1)))).set (j * 6 + 2) (.string (markT (k + qsum (cntf d ps) j + 2)))).set (j * 6 + 3) (.int .i64 ((k + qsum (cntf d ps) j + 3 : Nat) : Int))).set (j * 6 + 4) (.int .i64 ((k + qsum (cntf d ps) j + 4 : Nat) : Int))))
    (hq : QOwn w7 d p c' pp (fps j)) (hl : pp.length = (qat qs j).parts.length) (ht : Touch (fps j) w6 w7) (hm : MarkedQ d (k + qsum (cntf d ps) j + 5) pp) (hc : qcnt d pp = qcnt d (qat qs j).parts) :
    MSt w7 d g c k (j + 1) ps (qs.set j (.mk ((k + qsum (cntf d ps) j : Nat) : Int) (markT (k + qsum (cntf d ps) j + 1)) (markT (k + qsum (cntf d ps) j + 2)) ((k + qsum (cntf d ps) j + 3 : Nat) : Int) ((k + qsum (cntf d ps) j + 4 : Nat) : Int) pp)) fps (((((xs.set (j * 6) (.int .i64 ((k + qsum (cntf d ps) j : Nat) : Int))).set (j * 6 + 1) (.string (markT (k + qsum (cntf d ps) j + 1)))).set (j * 6 + 2) (.string (markT (k + qsum (cntf d ps) j + 2)))).set (j * 6 + 3) (.int .i64 ((k + qsum (cntf d ps) j + 3 : Nat) : Int))).set (j * 6 + 4) (.int .i64 ((k + qsum (cntf d ps) j + 4 : Nat) : Int))) := by
  have hjq : j < qs.length := by rw [h.len]; exact hj
  have hxl := h.row.1
  have hgn : ∀ i, i < ps.length → g ∉ fps i := fun i hi hm => (List.nodup_cons.1 hnd).1 (mem_fpAll.2 ⟨i, hi, hm⟩)
  have hap := (List.nodup_cons.1 hnd).2
  have hglt := (ho.lt g rfl).2
  refine ⟨by rw [List.length_set]; exact h.len, row_block ho (ht.2 g hglt (hgn j hj)), fun i hi => ?_, fun i hi => ?_, fun i hi => ?_⟩
  · rw [qat_set _ _ _ hjq]
    by_cases e : i = j
    · subst e
      simp only [if_pos]
      refine ⟨p, c', fun jj hjj => ?_, hq⟩
      rw [set5_at _ _ _ _ _ (by omega) i jj hjj]
      by_cases h5 : jj < 5
      · rw [if_pos ⟨rfl, h5⟩]
        rcases (show jj = 0 ∨ jj = 1 ∨ jj = 2 ∨ jj = 3 ∨ jj = 4 by omega) with rfl | rfl | rfl | rfl | rfl <;> rfl
      · rw [if_neg (by omega), hx jj hjj]
        obtain rfl : jj = 5 := by omega
        show some (Value.slice p (qat qs i).parts.length c') = some (.slice p pp.length c')
        rw [hl]
    · simp only [if_neg e]
      obtain ⟨p', c2, hx', hq'⟩ := h.el i hi
      refine ⟨p', c2, fun jj hjj => ?_, hq'.kept fun b hb => ?_⟩
      · rw [set5_at _ _ _ _ _ (by omega) i jj hjj, if_neg (fun h => e h.1)]
        exact hx' jj hjj
      · have hbl := hq'.lt b hb
        rw [ht.2 b (Nat.lt_of_lt_of_le hbl hg.size) (fpAll_apart hap hi hj e hb), hg.block b hbl (fun e => by cases e; exact hgn i hi hb)]
  · rw [qat_set _ _ _ hjq]
    by_cases e : i = j
    · subst e
      rw [if_pos rfl]
      exact hc.trans (h.cnt i hi)
    · rw [if_neg e]
      exact h.cnt i hi
  · rw [qat_set _ _ _ hjq]
    by_cases e : i = j
    · subst e
      rw [if_pos rfl]
      exact ⟨rfl, rfl, rfl, rfl, rfl, hm⟩
    · rw [if_neg e]
      exact h.done i (by omega)
theorem qsum_ge {f : Nat → Nat} : ∀ {n : Nat}, (∀ i, 1 ≤ f i) → n ≤ qsum f n
  | 0, _ => Nat.le_refl _
  | n + 1, h => by
    have := qsum_ge (n := n) h
    have := h n
    show _ ≤ qsum f n + f n
    omega
theorem QOwn.len_le {w : World} : ∀ {d : Nat} {a : Option Addr} {c : Nat} {ps : List Qy} {fp : List Nat}, QOwn w d a c ps fp → ps.length ≤ qcnt d ps
  | 0, _, _, _, _, h => by rw [h.1]; exact Nat.le_refl _
  | d + 1, _, _, ps, _, h => by
    rw [qcnt_succ]
    exact qsum_ge fun i => by unfold cntf; omega
/-- markQueryS at trees that are at most d deep. -/
def MarkQS (d : Nat) : Prop := ∀ (k : Nat) (ps : List Qy) (a : Option Addr) (c : Nat) (fp : List Nat) (w : World), QOwn w d a c ps fp → 1 ≤ k → k + qcnt d ps ≤ 1099511627 →
  Calls Tryd.prog 48 #[.slice a ps.length c, .int .i64 k] w fun e w' => ∃ ps' : List Qy, e = .returned (.int .i64 ((k + qcnt d ps : Nat) : Int)) ∧ ps'.length = ps.length ∧ QOwn w' d a c ps' fp ∧ MarkedQ d k ps' ∧ qcnt d ps' = qcnt d ps ∧ Touch fp w w'
theorem markQS_nil (d k c : Nat) (a : Option Addr) (w : World) : Calls Tryd.prog 48 #[.slice a 0 c, .int .i64 k] w fun e w' => e = .returned (.int .i64 (k : Int)) ∧ w' = w := by
  go_enter Tryd.func48, Tryd.ntmps48
  go_wp2
  refine wp_loop_rounds 1 ?_
  rw [rounds_succ]
  go_wp2
  go_ret
  exact ⟨rfl, rfl⟩
theorem markQS_zero : MarkQS 0 := by
  intro k ps a c fp w hq _ _
  obtain ⟨rfl, rfl⟩ := hq
  refine (markQS_nil 0 k c a w).mono ?_
  rintro e w' ⟨rfl, rfl⟩
  exact ⟨[], rfl, rfl, ⟨rfl, rfl⟩, trivial, rfl, Touch.refl _ _⟩
set_option maxRecDepth 100000 in
set_option maxHeartbeats 4000000 in
theorem markQS_step {d : Nat} (hF : MarkQS d) : MarkQS (d + 1) := by
  intro k ps a c fp w hq hk1 hkc
  have hpl0 := hq.len_le
  have hpl : ps.length ≤ 1099511627 := by omega
  clear hpl0
  rcases hq with ⟨rfl, rfl⟩ | ⟨g, xs0, fps, h0, rfl, ho, rfl, hnd, hel⟩
  · refine (markQS_nil (d + 1) k c a w).mono ?_
    rintro e w' ⟨rfl, rfl⟩
    exact ⟨[], rfl, rfl, .inl ⟨rfl, rfl⟩, fun i hi => absurd hi (by simp), rfl, Touch.refl _ _⟩
  have HF : Hid (MarkQS d) := hF
  have HND : Hid (g :: fpAll fps ps.length).Nodup := hnd
  have HM0 : Hid (MSt w d g c k 0 ps ps fps xs0) := ⟨rfl, ho, hel, fun _ _ => rfl, fun i hi => by omega⟩
  rw [qcnt_succ] at hkc ⊢
  have HKC : Hid (∀ j, j < ps.length → k + qsum (cntf d ps) j + 5 + qcnt d (qat ps j).parts ≤ 1099511627) := fun j hj => by
    have h1 := qsum_le (f := cntf d ps) hj
    have h2 : cntf d ps j = 5 + qcnt d (qat ps j).parts := rfl
    omega
  clear hF hnd ho hel hkc
  go_enter Tryd.func48, Tryd.ntmps48
  go_wp2
  go_loopw [1, 5] (fun kk i wr => ∃ (j : Nat) (qs : List Qy) (xs : List Value), j ≤ ps.length ∧ kk = .int .i64 ((k + qsum (cntf d ps) j : Nat) : Int) ∧ i = .int .i64 j ∧ MSt wr d g c k j ps qs fps xs ∧ Touch (g :: fpAll fps ps.length) w wr) (fun _ i _ => ps.length - (intOf i).toNat)
  case atStart => exact ⟨0, ps, xs0, Nat.zero_le _, rfl, rfl, HM0.out, Touch.refl _ _⟩
  case round =>
    obtain ⟨j, qs, xs, hj, rfl, rfl, hm, htw⟩ := hrel
    clear HM0
    by_cases hlt : j < ps.length
    · have hji : (j : Int) < (ps.length : Int) := by omega
      have HM : Hid (MSt wr d g c k j ps qs fps xs) := hm
      have HTW : Hid (Touch (g :: fpAll fps ps.length) w wr) := htw
      obtain ⟨p, c', hx, hqo⟩ := hm.el j hlt
      have HX : Hid (Qx xs j (qat qs j) p c') := hx
      have HQO : Hid (QOwn wr d p c' (qat qs j).parts (fps j)) := hqo
      have ho := hm.row
      have hxl := ho.1
      have hcn := hm.cnt j hlt
      have hkj := HKC.out j hlt
      have hgn : g ∉ fps j := fun hm => (List.nodup_cons.1 HND.out).1 (mem_fpAll.2 ⟨j, hlt, hm⟩)
      have HGN : Hid (g ∉ fps j) := hgn
      have hnext := fun w6 w7 pp h1 h2 h3 h4 h5 h6 h7 => HM.out.next (w6 := w6) (w7 := w7) (pp := pp) hlt HND.out HX.out h1 h2 h3 h4 h5 h6 h7
      have HNX : Hid _ := hnext
      have hx5 := hx 5 (by omega)
      have hpl2 := hqo.len_le
      have HS1 : Hid (k + qsum (cntf d ps) (j + 1) = k + qsum (cntf d ps) j + 5 + qcnt d (qat ps j).parts) := by
        show k + (qsum (cntf d ps) j + (5 + qcnt d (qat ps j).parts)) = _
        omega
      have hk1m : 1 ≤ k + qsum (cntf d ps) j := by omega
      generalize k + qsum (cntf d ps) j = m at *
      generalize qat qs j = q at *
      obtain ⟨kd, f', t', lo', hi', pp⟩ := q
      simp only [Qy.parts] at hx5 hpl2 hcn
      have e1 : ((m + 1 : Nat) : Int) = (m : Int) + 1 := by omega
      have e2 : ((m + 2 : Nat) : Int) = (m : Int) + 2 := by omega
      have e3 : ((m + 3 : Nat) : Int) = (m : Int) + 3 := by omega
      have e4 : ((m + 4 : Nat) : Int) = (m : Int) + 4 := by omega
      have e5 : ((m + 5 : Nat) : Int) = (m : Int) + 5 := by omega
      have HMT1 : Hid (∀ w, Calls Tryd.prog 49 #[.int .i64 ((m : Int) + 1)] w fun e w' => e = .returned (.string (markT (m + 1))) ∧ Below w.heap.size w w') := fun w => by
        have := markText_any (m + 1) w (by omega) (by omega)
        rwa [e1] at this
      have HMT2 : Hid (∀ w, Calls Tryd.prog 49 #[.int .i64 ((m : Int) + 2)] w fun e w' => e = .returned (.string (markT (m + 2))) ∧ Below w.heap.size w w') := fun w => by
        have := markText_any (m + 2) w (by omega) (by omega)
        rwa [e2] at this
      have HFM : Hid (∀ w, QOwn w d p c' pp (fps j) → Calls Tryd.prog 48 #[.slice p pp.length c', .int .i64 ((m : Int) + 5)] w fun e w' => ∃ ps' : List Qy, e = .returned (.int .i64 ((m + 5 + qcnt d pp : Nat) : Int)) ∧ ps'.length = pp.length ∧ QOwn w' d p c' ps' (fps j) ∧ MarkedQ d (m + 5) ps' ∧ qcnt d ps' = qcnt d pp ∧ Touch (fps j) w w') := fun w h => by
        have := HF.out (m + 5) pp p c' (fps j) w h (by omega) (by rw [hcn]; exact hkj)
        rwa [e5] at this
      rw [e3, e4] at HNX
      have HLE : Hid (m + 5 + qcnt d pp = k + qsum (cntf d ps) (j + 1)) := by unfold Hid; rw [hcn]; exact HS1.out.symm
      have HKJ : Hid (m + 5 + qcnt d pp ≤ 1099511627) := by unfold Hid; rw [hcn]; exact hkj
      have hmb : m + 5 ≤ 1099511627 := by omega
      clear e1 e2 e3 e4 e5 hcn hkj HS1
      have c0 := ho.cellAt (j * 6) (by omega)
      rw [List.getElem?_eq_getElem (by omega)] at c0
      have f0 := ho.frozenAt (j * 6)
      obtain ⟨ho1, hg1⟩ := ho.stored (j * 6) (.int .i64 (m : Int))
      have HO1 : Hid ((wr.setCell ⟨g, j * 6, none⟩ (.int .i64 (m : Int))).ownsRow g 29 6 (.slice (some ⟨g, 0, none⟩) ps.length c) ps.length (xs.set (j * 6) (.int .i64 (m : Int)))) := ho1
      have HG1 : Hid (wr.grownBy (wr.setCell ⟨g, j * 6, none⟩ (.int .i64 (m : Int))) (some g)) := hg1
      generalize xs[j * 6] = o0 at c0
      clear ho ho1 hg1 hx hqo hm htw hnext
      go_wp2_with fail
      refine (HMT1.out _).mono ?_
      rintro e w2 ⟨rfl, hb2⟩
      have ho2 : (w2).ownsRow g 29 6 (.slice (some ⟨g, 0, none⟩) ps.length c) ps.length (xs.set (j * 6) (.int .i64 (m : Int))) := HO1.out.kept (grown_of_below (r := none) hb2) (.inr (by simp [Value.ownBlock]))
      have hg2 := grown_then HG1.out (grown_of_below hb2)
      have hx2 := ho2.1
      have c1 := ho2.cellAt (j * 6 + 1) (by omega)
      rw [List.getElem?_eq_getElem (by omega)] at c1
      have f1 := ho2.frozenAt (j * 6 + 1)
      obtain ⟨ho3, hg3⟩ := ho2.stored (j * 6 + 1) (.string (markT (m + 1)))
      have HO3 : Hid ((w2.setCell ⟨g, j * 6 + 1, none⟩ (.string (markT (m + 1)))).ownsRow g 29 6 (.slice (some ⟨g, 0, none⟩) ps.length c) ps.length ((xs.set (j * 6) (.int .i64 (m : Int))).set (j * 6 + 1) (.string (markT (m + 1))))) := ho3
      have HG3 : Hid (wr.grownBy (w2.setCell ⟨g, j * 6 + 1, none⟩ (.string (markT (m + 1)))) (some g)) := grown_then hg2 hg3
      generalize (xs.set (j * 6) (.int .i64 (m : Int)))[j * 6 + 1] = o1 at c1
      clear ho2 hb2 hg2 ho3 hg3 c0 f0 HO1 HG1 HMT1 hx2
      go_wp2_with fail
      refine (HMT2.out _).mono ?_
      rintro e w4 ⟨rfl, hb4⟩
      obtain ⟨X3, hX3⟩ : ∃ X3, (xs.set (j * 6) (.int .i64 (m : Int))).set (j * 6 + 1) (.string (markT (m + 1))) = X3 := ⟨_, rfl⟩
      have HX3 : Hid ((xs.set (j * 6) (.int .i64 (m : Int))).set (j * 6 + 1) (.string (markT (m + 1))) = X3) := hX3
      rw [hX3] at HO3
      have ho4 : (w4).ownsRow g 29 6 (.slice (some ⟨g, 0, none⟩) ps.length c) ps.length (X3) := HO3.out.kept (grown_of_below (r := none) hb4) (.inr (by simp [Value.ownBlock]))
      have hg4 := grown_then HG3.out (grown_of_below hb4)
      have hx4 := ho4.1
      have hd : ∀ jj, jj < 6 → ∃ u, w4.cell? ⟨g, j * 6 + jj, none⟩ = some u := fun jj hjj => by
        rw [ho4.cellAt (j * 6 + jj) (by omega)]
        exact ⟨_, List.getElem?_eq_getElem (by omega)⟩
      obtain ⟨o2, d2⟩ := hd 2 (by omega)
      obtain ⟨o3, d3⟩ := hd 3 (by omega)
      obtain ⟨o4, d4⟩ := hd 4 (by omega)
      have d5 : w4.cell? ⟨g, j * 6 + 5, none⟩ = some (.slice p pp.length c') := by
        rw [ho4.cellAt (j * 6 + 5) (by omega), ← hX3, List.getElem?_set_ne (by omega), List.getElem?_set_ne (by omega)]
        exact hx5
      have f2 := ho4.frozenAt (j * 6 + 2)
      have f3 := ho4.frozenAt (j * 6 + 3)
      have f4 := ho4.frozenAt (j * 6 + 4)
      obtain ⟨ho5, hg5⟩ := ho4.stored (j * 6 + 2) (.string (markT (m + 2)))
      obtain ⟨ho6, hg6⟩ := ho5.stored (j * 6 + 3) (.int .i64 ((m : Int) + 3))
      obtain ⟨ho7, hg7⟩ := ho6.stored (j * 6 + 4) (.int .i64 ((m : Int) + 4))
      have hg8 := grown_then (grown_then (grown_then hg4 hg5) hg6) hg7
      have hq8 := HQO.out.kept fun b hb => hg8.block b (HQO.out.lt b hb) (fun e => by cases e; exact HGN.out hb)
      have HQ8 : Hid _ := hq8
      rw [← hX3] at ho7
      have HO7 : Hid _ := ho7
      have HG8 : Hid _ := hg8
      clear ho4 hb4 hg4 hx4 hd ho5 hg5 ho6 hg6 ho7 hg7 hg8 hq8 hX3 HX3 HO3 HG3 c1 f1 HMT2 hx5
      go_wp2_with fail
      refine (HFM.out _ HQ8.out).mono ?_
      rintro e w9 ⟨pp', rfl, hl9, hq9, hm9, hc9, ht9⟩
      have HM9 : Hid _ := HNX.out _ w9 pp' HG8.out HO7.out hq9 hl9 ht9 hm9 hc9
      have HT9 : Hid (Touch (g :: fpAll fps ps.length) w w9) := (HTW.out.trans (Touch.of_grown HG8.out (List.mem_cons_self ..))).trans (ht9.mono fun b hb => List.mem_cons.2 (.inr (mem_fpAll.2 ⟨j, hlt, hb⟩)))
      have HL9 : Hid (((m + 5 + qcnt d pp : Nat) : Int) = ((k + qsum (cntf d ps) (j + 1) : Nat) : Int)) := by unfold Hid; rw [HLE.out]
      rw [HL9.out]
      obtain ⟨m2, hm2⟩ : ∃ m2, k + qsum (cntf d ps) (j + 1) = m2 := ⟨_, rfl⟩
      rw [hm2]
      have HM2 : Hid (k + qsum (cntf d ps) (j + 1) = m2) := hm2
      clear hm2 HL9 HLE HQ8 HO7 HG8 hq9 hm9 ht9 hl9 hc9 d2 d3 d4 d5 f2 f3 f4 HNX HQO HM HTW HX
      go_wp2
      go_roundw
      case rel => exact ⟨j + 1, _, _, by omega, by rw [HM2.out], by go_num, HM9.out, HT9.out⟩
      case measure => simp [intOf]; omega
    · have hjl : j = ps.length := by omega
      subst hjl
      have HQ : Hid (∃ ps' : List Qy, ps'.length = ps.length ∧ QOwn wr (d + 1) (some ⟨g, 0, none⟩) c ps' (g :: fpAll fps ps.length) ∧ MarkedQ (d + 1) k ps' ∧ qcnt (d + 1) ps' = qsum (cntf d ps) ps.length) := by
        have hcf : ∀ i, i < ps.length → cntf d qs i = cntf d ps i := fun i hi => by unfold cntf; rw [hm.cnt i hi]
        refine ⟨qs, hm.len, .inr ⟨g, xs, fps, by rw [hm.len]; exact h0, rfl, by rw [hm.len]; exact hm.row, by rw [hm.len], HND.out, fun i hi => hm.el i (by rw [← hm.len]; exact hi)⟩, fun i hi => ?_, ?_⟩
        · have hi2 : i < ps.length := by rw [← hm.len]; exact hi
          have e : qsum (cntf d qs) i = qsum (cntf d ps) i := qsum_congr fun i' hi' => hcf i' (by omega)
          rw [e]
          exact hm.done i hi2
        · rw [qcnt_succ, hm.len]
          exact qsum_congr hcf
      have HT : Hid (Touch (g :: fpAll fps ps.length) w wr) := htw
      clear hm htw HF HKC
      go_wp2
      go_ret
      obtain ⟨ps', h1, h2, h3, h4⟩ := HQ.out
      exact ⟨ps', rfl, h1, h2, h3, h4, HT.out⟩
theorem markQS_any : ∀ d, MarkQS d
  | 0 => markQS_zero
  | d + 1 => markQS_step (markQS_any d)
/-- markQuery marks the parts. -/
theorem markQ_any (d k : Nat) (kd lo hi : Int) (f t : ByteArray) (ps : List Qy) (a : Option Addr) (c : Nat) (fp : List Nat) (w : World) (hq : QOwn w d a c ps fp) (hk1 : 1 ≤ k) (hkc : k + qcnt d ps ≤ 1099511627) :
    Calls Tryd.prog 22 #[.agg #[.int .i64 kd, .string f, .string t, .int .i64 lo, .int .i64 hi, .slice a ps.length c], .int .i64 k] w fun e w' => ∃ ps' : List Qy, e = .returned (.int .i64 ((k + qcnt d ps : Nat) : Int)) ∧ ps'.length = ps.length ∧ QOwn w' d a c ps' fp ∧ MarkedQ d k ps' ∧ qcnt d ps' = qcnt d ps ∧ Touch fp w w' := by
  have hb0 : Below w.heap.size w (w.alloc (.cells #[.int .i64 kd, .string f, .string t, .int .i64 lo, .int .i64 hi, .slice a ps.length c] 29)) := (Below.refl _ w).alloc (Nat.le_refl _) _
  have HT0 : Hid (Touch fp w (w.alloc (.cells #[.int .i64 kd, .string f, .string t, .int .i64 lo, .int .i64 hi, .slice a ps.length c] 29))) := Touch.of_below hb0
  have HC := markQS_any d k ps a c fp _ (hq.below hb0) hk1 hkc
  generalize k + qcnt d ps = m at *
  clear hq hb0
  go_enter Tryd.func22, Tryd.ntmps22
  go_wp2_with fail
  refine HC.mono ?_
  rintro e w2 ⟨ps', rfl, h1, h2, h3, h4, h5⟩
  have HE : Hid (ps'.length = ps.length ∧ QOwn w2 d a c ps' fp ∧ MarkedQ d k ps' ∧ qcnt d ps' = qcnt d ps ∧ Touch fp w w2) := ⟨h1, h2, h3, h4, HT0.out.trans h5⟩
  clear h1 h2 h3 h4 h5 HC HT0
  go_wp2
  go_ret
  exact ⟨ps', rfl, HE.out⟩
end Go.Proofs.YtfakoalkbcnejaaDoor

/- laws.eqStringS tells that two slices of the same strings are the same. -/
namespace Go.Proofs.YtfakoalkbcnejaaDoor
open Go.RowKit
set_option maxHeartbeats 400000 in
theorem eqStringS_same (a b : Option Addr) (ca cb : Nat) (ss : List ByteArray) (w : World) (hl : ss.length ≤ 1099511627776) (ha : StrRow w a ss) (hb : StrRow w b ss) :
    Calls Tryd.prog 21 #[.slice a ss.length ca, .slice b ss.length cb] w fun e w' => e = .returned (.bool true) ∧ Below w.heap.size w w' := by
  go_enter Tryd.func21, Tryd.ntmps21
  go_wp2
  go_loopw [5] (fun i wr => ∃ k : Nat, k ≤ ss.length ∧ i = .int .i64 k ∧ Below w.heap.size w wr) (fun i _ => ss.length - (intOf i).toNat)
  case atStart => exact ⟨0, Nat.zero_le _, rfl, Below.refl _ _⟩
  case round =>
    obtain ⟨k, hk, rfl, hbel⟩ := hrel
    by_cases hlt : k < ss.length
    · obtain ⟨g1, rfl, hg1, hc1⟩ := ha (by omega)
      obtain ⟨g2, rfl, hg2, hc2⟩ := hb (by omega)
      have c1 : wr.cell? ⟨g1, k, none⟩ = some (.string (ss.getD k ⟨#[]⟩)) := by rw [hbel.cell (p := ⟨g1, k, none⟩) hg1]; exact hc1 k hlt
      have c2 : wr.cell? ⟨g2, k, none⟩ = some (.string (ss.getD k ⟨#[]⟩)) := by rw [hbel.cell (p := ⟨g2, k, none⟩) hg2]; exact hc2 k hlt
      clear ha hb hc1 hc2
      generalize ss.getD k ⟨#[]⟩ = t at *
      go_wp2
      go_quiet (fail)
      go_wp2
      go_roundw
      case rel => exact ⟨k + 1, by omega, by go_num, below_drewN hbel _⟩
      case measure => simp [intOf]; omega
    · clear ha hb
      go_wp2
      go_ret
      exact ⟨rfl, hbel⟩
end Go.Proofs.YtfakoalkbcnejaaDoor

/- markStringS lays marks into a row of strings that the call owns; heldStringS finds them. -/
namespace Go.Proofs.YtfakoalkbcnejaaDoor
open Go.RowKit

def marksB (k n : Nat) : List ByteArray := (List.range n).map fun i => markT (k + i)
theorem marksB_len (k n : Nat) : (marksB k n).length = n := by simp [marksB]
theorem marksB_at (k n i : Nat) (h : i < n) : (marksB k n).getD i ⟨#[]⟩ = markT (k + i) := by
  rw [List.getD_eq_getElem?_getD, List.getElem?_eq_getElem (by rw [marksB_len]; exact h)]
  simp [marksB]
def mixed (k i : Nat) (xs : List Value) : List Value := (marksB k i).map Value.string ++ xs.drop i
theorem mixed_step (k i : Nat) (xs : List Value) (h : i < xs.length) : (mixed k i xs).set i (.string (markT (k + i))) = mixed k (i + 1) xs := by
  unfold mixed
  rw [List.set_append_right _ _ (by simp [marksB_len])]
  have hm : marksB k (i + 1) = marksB k i ++ [markT (k + i)] := by simp [marksB, List.range_succ]
  rw [hm, List.drop_eq_getElem_cons h]
  simp only [List.length_map, marksB_len, Nat.sub_self, List.set_cons_zero, List.map_append, List.map_cons, List.map_nil, List.append_assoc, List.cons_append, List.nil_append]
set_option maxHeartbeats 400000 in
theorem markStringS_any (base : Nat) (v : Value) (n k : Nat) (xs : List Value) (w : World) (hx : xs.length = n) (hn : n ≤ 1099511627) (hk : k ≤ 1099511627) (hk1 : 1 ≤ k) (hown : w.ownsRow base 9 1 v n xs) :
    Calls Tryd.prog 23 #[v, .int .i64 k] w fun e w' => e = .returned (.int .i64 ((k + n : Nat) : Int)) ∧ w'.ownsRow base 9 1 v n ((marksB k n).map Value.string) ∧ w.grownBy w' v.ownBlock := by
  rcases hown.2 with ⟨rfl, rfl⟩ | ⟨g, cap, cur, rfl, _, hg, _⟩
  · clear hown
    go_enter Tryd.func23, Tryd.ntmps23
    go_wp2
    refine wp_loop_rounds 1 ?_
    rw [rounds_succ]
    go_wp2
    go_ret
    exact ⟨rfl, World.ownsRow_nil _ _ _ _, World.grownBy.refl _ _⟩
  · have HO : Hid (w.ownsRow base 9 1 (.slice (some ⟨g, 0, none⟩) n cap) n xs) := hown
    clear hown
    go_enter Tryd.func23, Tryd.ntmps23
    go_wp2
    go_loopw [1, 5] (fun kk i wr => ∃ j : Nat, j ≤ n ∧ kk = .int .i64 ((k + j : Nat) : Int) ∧ i = .int .i64 j ∧ wr.ownsRow base 9 1 (.slice (some ⟨g, 0, none⟩) n cap) n (mixed k j xs) ∧ w.grownBy wr (some g)) (fun _ i _ => n - (intOf i).toNat)
    case atStart => exact ⟨0, Nat.zero_le _, rfl, rfl, HO.out, World.grownBy.refl _ _⟩
    case round =>
      obtain ⟨j, hj, rfl, rfl, hor, hgr⟩ := hrel
      by_cases hlt : j < n
      · go_wp2_with fail
        refine (markText_any (k + j) _ (by omega) (by omega)).mono ?_
        rintro e w2 ⟨rfl, hb2⟩
        have ho2 : w2.ownsRow base 9 1 (.slice (some ⟨g, 0, none⟩) n cap) n (mixed k j xs) := hor.kept (grown_of_below (r := none) hb2) (.inr (by simp [Value.ownBlock]))
        have hlen : (mixed k j xs).length = n := by have := ho2.1; omega
        have hc2 : w2.cell? ⟨g, j, none⟩ = (mixed k j xs)[j]? := ho2.cellAt j (by omega)
        rw [List.getElem?_eq_getElem (by omega)] at hc2
        have hf2 := ho2.frozenAt j
        have hs := (ho2.stored j (.string (markT (k + j)))).1
        rw [mixed_step k j xs (by omega)] at hs
        have hg3 : w.grownBy (w2.setCell ⟨g, j, none⟩ (.string (markT (k + j)))) (some g) := grown_then (grown_then hgr (grown_of_below hb2)) (grown_cell w2 g j _)
        generalize (mixed k j xs)[j] = old at hc2
        clear hor ho2 hlen hgr hb2
        go_wp2
        go_roundw
        case rel => exact ⟨j + 1, by omega, by go_num, by go_num, hs, hg3⟩
        case measure => simp [intOf]; omega
      · have hjn : j = n := by omega
        subst hjn
        have hm : mixed k j xs = (marksB k j).map Value.string := by unfold mixed; rw [List.drop_of_length_le (by omega), List.append_nil]
        rw [hm] at hor
        clear hm
        go_wp2
        go_ret
        exact ⟨rfl, hor, hgr⟩

set_option maxHeartbeats 1000000 in
theorem heldStringS_any (a : Option Addr) (cap n k : Nat) (w : World) (hn : n ≤ 1099511627) (hk : k ≤ 1099511627) (hk1 : 1 ≤ k) (hr : StrRow w a (marksB k n)) :
    Calls Tryd.prog 24 #[.slice a n cap, .int .i64 k] w fun e w' => e = .returned (.int .i64 ((k + n : Nat) : Int)) ∧ Below w.heap.size w w' := by
  go_enter Tryd.func24, Tryd.ntmps24
  go_wp2
  go_loopw [1, 5] (fun kk i wr => ∃ j : Nat, j ≤ n ∧ kk = .int .i64 ((k + j : Nat) : Int) ∧ i = .int .i64 j ∧ Below w.heap.size w wr) (fun _ i _ => n - (intOf i).toNat)
  case atStart => exact ⟨0, Nat.zero_le _, rfl, rfl, Below.refl _ _⟩
  case round =>
    obtain ⟨j, hj, rfl, rfl, hbel⟩ := hrel
    by_cases hlt : j < n
    · obtain ⟨g, rfl, hg, hc⟩ := hr (by rw [marksB_len]; omega)
      have c1 : wr.cell? ⟨g, j, none⟩ = some (.string (markT (k + j))) := by rw [hbel.cell (p := ⟨g, j, none⟩) hg, hc j (by rw [marksB_len]; exact hlt), marksB_at k n j hlt]
      have hgr : g < wr.heap.size := by have := hbel.size; omega
      clear hr hc
      go_wp2
      go_region_with (go_at_call 49; refine (markText_any (k + j) _ (by omega) (by omega)).mono ?_; rintro e w2 ⟨rfl, hb2d⟩; have hb2 : Below wr.heap.size wr w2 := ⟨hb2d.os, hb2d.tape, hb2d.output, hb2d.size, hb2d.block⟩; clear hb2d; have c2 : w2.cell? ⟨g, j, none⟩ = some (.string (markT (k + j))) := (hb2.cell (p := ⟨g, j, none⟩) hgr).trans c1)
      all_goals
        go_wp2
        go_roundw
        case rel => exact ⟨j + 1, by omega, by go_num, by go_num, hbel.trans (hb2.mono hbel.size)⟩
        case measure => simp [intOf]; omega
    · have hjn : j = n := by omega
      subst hjn
      clear hr
      go_wp2
      go_ret
      exact ⟨rfl, hbel⟩
end Go.Proofs.YtfakoalkbcnejaaDoor

/- The walk of the law FnExactQueryTerms. -/
namespace Go.Proofs.YtfakoalkbcnejaaDoor
open Go.RowKit
set_option linter.unusedVariables false

theorem row_same {w w' : World} {B n : Nat} {v : Value} {xs : List Value} (h : w.ownsRow B 9 1 v n xs) (hb : ∀ g, v.ownBlock = some g → w'.heap[g]? = w.heap[g]?) : w'.ownsRow B 9 1 v n xs := by
  refine ⟨h.1, ?_⟩
  rcases h.2 with h2 | ⟨g', c', cur, e, h3, h4, h5⟩
  · exact .inl h2
  · exact .inr ⟨g', c', cur, e, h3, (hb g' (by rw [e]; rfl)).trans h4, h5⟩
theorem strRow_of {w : World} {B n c : Nat} {a : Option Addr} {ss : List ByteArray} (h : w.ownsRow B 9 1 (.slice a n c) ss.length (ss.map Value.string)) : StrRow w a ss := by
  obtain ⟨a', c', e, hr⟩ := owns_strRow h
  cases e
  exact hr
set_option maxRecDepth 100000 in
set_option maxHeartbeats 4000000 in
theorem wFnExactQueryTerms (k : Int) (f t : ByteArray) (lo hi : Int) (ps : List Qy) (a : Option Addr) (c D : Nat) (w : World) (hm : MaxL w) (hf : f.size ≤ maxLen) (ht : t.size ≤ maxLen) (ha : QAt w 0 D a ps) (hsz : QSz maxLen D ps) :
    Calls Tryd.prog 5 #[.agg #[.int .i64 k, .string f, .string t, .int .i64 lo, .int .i64 hi, .slice a ps.length c]] w fun e w' => e = .returned (.bool true) ∧ Below w.heap.size w w' := by
  have hb0 : Below w.heap.size w (w.alloc (.cells #[.int .i64 k, .string f, .string t, .int .i64 lo, .int .i64 hi, .slice a ps.length c] 24)) := (Below.refl _ w).alloc (Nat.le_refl _) _
  have B0 := Blk.new w #[.int .i64 k, .string f, .string t, .int .i64 lo, .int .i64 hi, .slice a ps.length c] 24
  have HM : Hid (∀ wx, Below w.heap.size w wx → MaxL wx) := fun wx h => hm.below h
  have HA : Hid (∀ wx, Below w.heap.size w wx → QAt wx 0 D a ps) := fun wx h => ha.below h
  have HS0 : Hid (QSz maxLen D ps) := hsz
  clear hm ha hsz
  go_enter Tryd.func5, Tryd.ntmps5
  go_wp2_with fail
  refine ((szQ_any D).1 k f t lo hi ps a c 1048576 _ (HA.out _ hb0) HS0.out hf ht (by decide) (by decide)).mono ?_
  rintro e u1 ⟨r, rfl, hr0, hr1, hrr, hb1⟩
  have B1 := B0.below hb1 B0.lt
  have hw1 := below_trans hb0 hb1
  clear B0 hb0 hb1 HS0
  by_cases hneg : r < 0
  · go_wp2
    go_ret
    exact ⟨rfl, hw1⟩
  have hnd : decide (r < 0) = false := by simpa using hneg
  obtain ⟨hf1, ht1, hs1, hcn1⟩ := hrr (by omega)
  have HS : Hid (QSz 1048576 D ps) := hs1
  have HCN : Hid (1 + qcnt D ps ≤ 1099511627) := by unfold Hid; omega
  clear hs1 hrr hcn1
  have k0 := B1.cell 0
  have k1 := B1.cell 1
  have k2 := B1.cell 2
  have k3 := B1.cell 3
  have k4 := B1.cell 4
  have k5 := B1.cell 5
  simp at k0 k1 k2 k3 k4 k5
  go_wp2_with fail
  refine ((toQ_any D).1 k f t lo hi ps a c u1 (HA.out _ hw1) HS.out).mono ?_
  rintro e u2 ⟨p2, c2, rfl, q2, hb2⟩
  go_wp2_with fail
  refine (queryTermsS_any k f t lo hi ps p2 c2 D u2 (q2.base (Nat.zero_le _)) HS.out hf1 ht1).mono ?_
  rintro e u3 ⟨v3, rfl, ho3, hb3⟩
  obtain ⟨a3, c3, rfl, r3⟩ := owns_strRow ho3
  have B3 := B1.below (below_trans hb2 hb3) B1.lt
  have hw3 := below_trans hw1 (below_trans hb2 hb3)
  have hL := qterms_len D k f t lo hi ps
  have hlt3 := B3.lt
  have HR3 : Hid (∀ wx, Below u3.heap.size u3 wx → StrRow wx a3 (qterms D k f t lo hi ps)) := fun wx h => r3.below h
  clear k0 k1 k2 k3 k4 k5 B1 hb2 hb3 hw1 q2 ho3 r3
  have k0 := B3.cell 0
  have k1 := B3.cell 1
  have k2 := B3.cell 2
  have k3 := B3.cell 3
  have k4 := B3.cell 4
  have k5 := B3.cell 5
  simp at k0 k1 k2 k3 k4 k5
  go_wp2_with fail
  refine ((toQO_any D).1 k f t lo hi ps a c u3 (HA.out _ hw3) HS.out).mono ?_
  rintro e u4 ⟨p4, c4, fp, rfl, ⟨q4, hfp⟩, hb4⟩
  have hA4 : Below u4.heap.size u4 (u4.alloc (.cells #[.int .i64 k, .string f, .string t, .int .i64 lo, .int .i64 hi, .slice p4 ps.length c4] 29)) := (Below.refl _ _).alloc (Nat.le_refl _) _
  have q4a := q4.below hA4
  have hu34 := hb4.size
  have HFL : Hid (∀ b ∈ fp, u3.heap.size ≤ b ∧ b < u4.heap.size) := fun b hb => ⟨hfp b hb, q4.lt b hb⟩
  have B4 := (B3.below hb4 B3.lt).alloc (.cells #[.int .i64 k, .string f, .string t, .int .i64 lo, .int .i64 hi, .slice p4 ps.length c4] 29)
  have X4 := Blk.new u4 #[.int .i64 k, .string f, .string t, .int .i64 lo, .int .i64 hi, .slice p4 ps.length c4] 29
  have h34 : Below u3.heap.size u3 (u4.alloc (.cells #[.int .i64 k, .string f, .string t, .int .i64 lo, .int .i64 hi, .slice p4 ps.length c4] 29)) := below_trans hb4 hA4
  have hw4 := below_trans hw3 h34
  clear k0 k1 k2 k3 k4 k5 B3 hb4 q4 hA4 hfp
  go_wp2_with fail
  refine (queryTermsI_any k f t lo hi ps p4 c4 D _ (q4a.at (fun _ _ => Nat.zero_le _)) HS.out hf1 ht1 (HM.out _ hw4)).mono ?_
  rintro e u5 ⟨v5, rfl, ho5, hb5⟩
  have hbase5 : u4.heap.size + 1 ≤ u5.heap.size := by have := hb5.size; simpa using this
  have ho5' := ownsRow_mono (b' := u4.heap.size + 1) ho5 (by simp)
  obtain ⟨a5, c5, rfl, _⟩ := owns_strRow ho5'
  have q5 := q4a.below hb5
  have B5 := B4.below hb5 B4.lt
  have X5 := X4.below hb5 X4.lt
  have h35 := below_trans h34 hb5
  have hw5 := below_trans hw4 hb5
  generalize hLq : qterms D k f t lo hi ps = L at *
  have HLQ : Hid (qterms D k f t lo hi ps = L) := hLq
  clear hLq
  have HO5 : Hid (u5.ownsRow (u4.heap.size + 1) 9 1 (.slice a5 L.length c5) L.length (L.map Value.string)) := ho5'
  clear B4 X4 hb5 hw4 q4a ho5 ho5' h34
  go_wp2_with fail
  refine (eqStringS_same a5 a3 c5 c3 L _ (by omega) (strRow_of HO5.out) (HR3.out _ h35)).mono ?_
  rintro e u6 ⟨rfl, hb6⟩
  have HO6 : Hid (u6.ownsRow (u4.heap.size + 1) 9 1 (.slice a5 L.length c5) L.length (L.map Value.string)) := apps_keep HO5.out hb6
  have q6 := q5.below hb6
  have B6 := B5.below hb6 B5.lt
  have X6 := X5.below hb6 X5.lt
  have h36 := below_trans h35 hb6
  have hw6 := below_trans hw5 hb6
  have hsz6 : u4.heap.size + 1 ≤ u6.heap.size := by have := hb6.size; omega
  clear B5 X5 hb6 hw5 q5 h35 HO5
  have k0 := B6.cell 0
  have k1 := B6.cell 1
  have k2 := B6.cell 2
  have k3 := B6.cell 3
  have k4 := B6.cell 4
  have k5 := B6.cell 5
  have x0 := X6.cell 0
  have x1 := X6.cell 1
  have x2 := X6.cell 2
  have x3 := X6.cell 3
  have x4 := X6.cell 4
  have x5 := X6.cell 5
  simp at k0 k1 k2 k3 k4 k5 x0 x1 x2 x3 x4 x5
  have r6 := (HA.out _ hw6).drew
  have HQ6 : Hid (QOwn u6 D p4 c4 ps fp) := q6
  have hlB := B6.lt
  have hlX := X6.lt
  clear q6
  go_wp2_with fail
  go_region_with (first
    | (go_at_call 11; refine ((toQ_any D).1 k f t lo hi ps a c _ (by exact r6) HS.out).mono ?_; rintro e u7 ⟨p7, c7, rfl, q7, hb7d⟩; have hb7 : Below u6.heap.size u6 u7 := ⟨hb7d.os, hb7d.tape, hb7d.output, hb7d.size, hb7d.block⟩; clear hb7d; obtain ⟨hcl7, hfz7⟩ := bcell hb7; have q7b := (HQ6.out.below hb7).at (B := 0) (fun _ _ => Nat.zero_le _); have q7a := q7.base (Nat.zero_le _))
    | (go_at_call 13; refine ((eqQ_any D).1 k f t lo hi ps p4 p7 c4 c7 _ (by exact q7b) (by exact q7a) HS.out).mono ?_; rintro e u8 ⟨rfl, hb8d⟩; have hb8 : Below u7.heap.size u7 u8 := ⟨hb8d.os, hb8d.tape, hb8d.output, hb8d.size, hb8d.block⟩; clear hb8d))
  all_goals
    have hb68 : Below u6.heap.size u6 u8 := below_trans hb7 hb8
    have HO8 : Hid (u8.ownsRow (u4.heap.size + 1) 9 1 (.slice a5 L.length c5) L.length (L.map Value.string)) := apps_keep HO6.out hb68
    have HQ8 : Hid (QOwn u8 D p4 c4 ps fp) := HQ6.out.below hb68
    have B8 := B6.below hb68 B6.lt
    have X8 := X6.below hb68 X6.lt
    have h38 := below_trans h36 hb68
    have hw8 := below_trans hw6 hb68
    have hsz8 : u4.heap.size + 1 ≤ u8.heap.size := by have := hb68.size; omega
    clear B6 X6 hw6 h36 HO6 HQ6 k0 k1 k2 k3 k4 k5 x0 x1 x2 x3 x4 x5 q7a q7b q7 r6 hcl7 hfz7 hb7 hb8 hb68
    have x0 := X8.cell 0
    have x1 := X8.cell 1
    have x2 := X8.cell 2
    have x3 := X8.cell 3
    have x4 := X8.cell 4
    have x5 := X8.cell 5
    simp at x0 x1 x2 x3 x4 x5
    have HMK : Hid (Calls Tryd.prog 22 #[.agg #[.int .i64 k, .string f, .string t, .int .i64 lo, .int .i64 hi, .slice p4 ps.length c4], .int .i64 1] u8 fun e w' => ∃ n : Nat, e = .returned (.int .i64 (n : Int)) ∧ Touch fp u8 w') := by
      refine (markQ_any D 1 k lo hi f t ps p4 c4 fp u8 HQ8.out (Nat.le_refl _) HCN.out).mono ?_
      rintro e w' ⟨_, rfl, _, _, _, _, h⟩
      exact ⟨_, rfl, h⟩
    go_wp2_with fail
    refine HMK.out.mono ?_
    rintro e u9 ⟨n9, rfl, ht9⟩
    have h89 : Below u3.heap.size u8 u9 := ht9.below (fun b hb => (HFL.out b hb).1) h38.size
    have h39 : Below u3.heap.size u3 u9 := h38.trans h89
    have hw9 : Below w.heap.size w u9 := hw8.trans ⟨h89.os, h89.tape, h89.output, h89.size, fun b hb => h89.block b (by have := hw3.size; omega)⟩
    have HO9 : Hid (u9.ownsRow (u4.heap.size + 1) 9 1 (.slice a5 L.length c5) L.length (L.map Value.string)) := row_same HO8.out fun g hg => ht9.2 g (HO8.out.lt g hg).2 (fun hm => by have h1 := (HFL.out g hm).2; have h2 := (HO8.out.lt g hg).1; omega)
    have B9 : Blk u9 w.heap.size #[.int .i64 k, .string f, .string t, .int .i64 lo, .int .i64 hi, .slice a ps.length c] 24 := (ht9.2 w.heap.size B8.lt (fun hm => by have := (HFL.out _ hm).1; omega)).trans B8
    have hsz9 : u4.heap.size + 1 ≤ u9.heap.size := by have := h89.size; omega
    have hn9 : decide ((n9 : Int) < 0) = false := decide_eq_false (by omega)
    clear HO8 HQ8 B8 X8 h38 hw8 x0 x1 x2 x3 x4 x5 HMK ht9 h89
    go_wp2_with fail
    refine (eqStringS_same a5 a3 c5 c3 L _ (by omega) (strRow_of HO9.out) (HR3.out _ h39)).mono ?_
    rintro e u10 ⟨rfl, hb10⟩
    have HO10 : Hid (u10.ownsRow (u4.heap.size + 1) 9 1 (.slice a5 L.length c5) L.length (L.map Value.string)) := apps_keep HO9.out hb10
    have B10 := B9.below hb10 B9.lt
    have h310 := below_trans h39 hb10
    have hw10 := below_trans hw9 hb10
    clear HO9 B9 hb10 h39 hw9
    go_wp2_with fail
    refine (markStringS_any (u4.heap.size + 1) _ L.length 1 _ u10 (by simp) (by omega) (by decide) (Nat.le_refl _) HO10.out).mono ?_
    rintro e u11 ⟨rfl, ho11, hg11⟩
    have HO11 : Hid (StrRow u11 a5 (marksB 1 L.length)) := strRow_of (B := u4.heap.size + 1) (n := L.length) (c := c5) (by rw [marksB_len]; exact ho11)
    have hlo : ∀ j, (Value.slice a5 L.length c5).ownBlock = some j → u4.heap.size + 1 ≤ j := fun j hj => (HO10.out.lt j hj).1
    have h311 : Below u3.heap.size u3 u11 := h310.grown hg11 h310.size (fun j hj => by have := hlo j hj; omega)
    have hw11 : Below w.heap.size w u11 := hw10.grown hg11 hw10.size (fun j hj => by have := hlo j hj; omega)
    have B11 := B10.grown hg11 (fun e => by have := hlo _ e.symm; omega)
    clear HO10 B10 h310 hw10 hg11 ho11
    obtain ⟨mm, hmm⟩ : ∃ mm : Int, ((1 + L.length : Nat) : Int) = mm := ⟨_, rfl⟩
    have hm0 : decide (mm < 0) = false := decide_eq_false (by omega)
    have hmq : (mm != mm) = false := by simp
    have HHD : Hid (∀ wx, StrRow wx a5 (marksB 1 L.length) → Calls Tryd.prog 24 #[.slice a5 L.length c5, .int .i64 1] wx fun e w' => e = .returned (.int .i64 mm) ∧ Below wx.heap.size wx w') := fun wx h => by
      have := heldStringS_any a5 c5 L.length 1 wx (by omega) (by decide) (Nat.le_refl _) h
      rwa [hmm] at this
    rw [hmm]
    clear hmm
    go_wp2_with fail
    refine (HHD.out _ HO11.out).mono ?_
    rintro e u12 ⟨rfl, hb12⟩
    have HO12 : Hid (StrRow u12 a5 (marksB 1 L.length)) := HO11.out.below hb12
    have B12 := B11.below hb12 B11.lt
    have h312 := below_trans h311 hb12
    have hw12 := below_trans hw11 hb12
    clear HO11 B11 h311 hw11 hb12
    have k0 := B12.cell 0
    have k1 := B12.cell 1
    have k2 := B12.cell 2
    have k3 := B12.cell 3
    have k4 := B12.cell 4
    have k5 := B12.cell 5
    simp at k0 k1 k2 k3 k4 k5
    go_wp2_with fail
    refine ((toQ_any D).1 k f t lo hi ps a c u12 (HA.out _ hw12) HS.out).mono ?_
    rintro e u13 ⟨p13, c13, rfl, q13, hb13⟩
    have hw13 := below_trans hw12 hb13
    go_wp2_with fail
    refine (queryTermsI_any k f t lo hi ps p13 c13 D _ (q13.base (Nat.zero_le _)) HS.out hf1 ht1 (HM.out _ hw13)).mono ?_
    rintro e u14 ⟨v14, rfl, ho14, hb14⟩
    rw [HLQ.out] at ho14
    obtain ⟨a14, c14, rfl, r14⟩ := owns_strRow ho14
    have hb1214 := below_trans hb13 hb14
    have HO14 : Hid (StrRow u14 a5 (marksB 1 L.length)) := HO12.out.below hb1214
    have h314 := below_trans h312 hb1214
    have hw14 := below_trans hw12 hb1214
    clear HO12 B12 h312 hw12 hw13 hb13 hb14 hb1214 q13 ho14 k0 k1 k2 k3 k4 k5 HLQ
    go_wp2_with fail
    refine (eqStringS_same a14 a3 c14 c3 L _ (by omega) r14 (HR3.out _ h314)).mono ?_
    rintro e u15 ⟨rfl, hb15⟩
    have HO15 : Hid (StrRow u15 a5 (marksB 1 L.length)) := HO14.out.below hb15
    have hw15 := below_trans hw14 hb15
    clear HO14 h314 hw14 hb15 r14
    go_wp2_with fail
    refine (HHD.out _ HO15.out).mono ?_
    rintro e u16 ⟨rfl, hb16⟩
    have hw16 := below_trans hw15 hb16
    clear HO15 hw15 hb16 HHD
    go_wp2
    go_ret
    exact ⟨rfl, hw16⟩
end Go.Proofs.YtfakoalkbcnejaaDoor

/- The wrap of a card whose walk needs the world's shape. -/
namespace Go.Proofs.YtfakoalkbcnejaaDoor
variable {H : Type} {enc : TypeId × Value → H}
theorem wrap_shaped {a : Assume} {C : Checked} {os : Os} {f : FuncId} {fn : Func} {s : ChangeSpec} {conds : List PathCond} {apart fresh handsOn again : Bool} {X : World → Array Value → Prop}
    (hX : ∀ (w w' : World) (args : Array Value), w.heap = w'.heap → X w args → X w' args)
    (own : ownKnob C.prog.godebug = none) (started : os.Started) (noInit : C.prog.inits.idxOf? f = none) (hfn : C.prog.funcs[f]? = some fn)
    (witness : ∃ (w : World) (tape : Tape) (i : Input), w.os = os ∧ (w.forCall tape i).Shaped C.prog ∧ i.vars = [] ∧ Input.okWide C.prog (w.forCall tape i) .any w.heap.size f i ∧
      ((s.pre enc C.prog fn conds apart (w.forCall tape i).memory i.args ∧ X (w.forCall tape i).memory i.args) ∧ sizedMet enc C.prog fn (OpenSpec.ofChange s) apart (w.forCall tape i).memory i.args) ∧ a.holds C.prog (lone (Frame.enter C.prog f i.args .normal) [] (w.forCall tape i)))
    (walk : ∀ (W : World) (base : Nat) (args : Array Value) (ds gs : List (DataW H)) (before : List MemPlace),
      (∀ (j : Nat) t v, fn.params[j]? = some t → args[j]? = some v → Value.okWide C.prog W .any base t v) →
      DataW.Whole enc C.prog fn.params.toList s.vars apart W args.toList ds gs before → X W args → W.ShapedOpen C.prog →
      Calls C.prog f args W fun e W' => ∃ v, e = .returned v ∧ s.post enc C.prog fn apart fresh handsOn again W args v W') :
    ReturnsInHanded a C os f .any (fun w args => (s.pre enc C.prog fn conds apart w args ∧ X w args) ∧ sizedMet enc C.prog fn (OpenSpec.ofChange s) apart w args) (s.post enc C.prog fn apart fresh handsOn again) := by
  refine returnsInHanded_of_calls own started noInit witness ?_
  intro w tape i _ hsh _ hok hpre _
  obtain ⟨_, _, _, fn', hfn', _, _, _, _, hval⟩ := hok
  obtain rfl : fn' = fn := Option.some.inj (hfn'.symm.trans hfn)
  obtain ⟨⟨⟨ds, gs, before, hw, _⟩, hx⟩, _⟩ := hpre
  refine (walk (w.forCall tape i) w.heap.size i.args ds gs before hval (DataW.Whole.of_heap (w' := w.forCall tape i) (by rfl) hw) (hX _ _ _ (by rfl) hx) hsh).mono fun e W' ⟨v, he, hp⟩ => ?_
  subst he
  exact ChangeSpec.post_blind hp
end Go.Proofs.YtfakoalkbcnejaaDoor
