/- Common, Plain, Base, JoinPlain, CutPlain, Shelf, Leaf, StrRow, SplitAny, Shelf2, Flds, In, NameOk, Blk, FldsOk, FldsOk2, FldsOk3, Fidx, Cels, TextOk, DocForm, DocForm2, Dec, Figs, CutPat, DocOkPlain, TagsPlain, OwnStrs, Names, FigsI, NumTag, AssertC, Told, Clone, DocText, DocOkI, DocTold, L1Cut, in one text. -/
import Derived.WalkKit
import Derived.Below
import Derived.Test.YtjkimadnopeakaaGreatDoorRows
import Derived.ProofKit
import Derived.WalkSpells
import Derived.WalkLawsBesides
import Derived.WalkSmall
import Derived.OpenShut
import Derived.Deep.QuietTactic
import Derived.BigQuiet
import Derived.Deep.RegionWith
import Derived.Deep.DeepCutAuto
import Derived.Lib.Join
import Derived.Lib.SplitLaws
import Derived.Lib.IndexBytes
import Derived.Shelf.Small.Wraps
import Derived.Shelf.Strings.Search1
import Derived.Shelf.Strings.Search2
import Derived.Shelf.Strings.Search3
import Derived.Shelf.Strings.Count
import Derived.Shelf.LaysM
import Derived.Shelf.Strings.Shaped
import Derived.Shelf.Sort.Plain
import Derived.Shelf.Strings.Prefix
import Derived.Shelf.Strings.Split
import Derived.Shelf.Strings.SplitShaped
import Derived.Shelf.Unicode.DecodeSlow
import Derived.Shelf.Slices.Turned
import Derived.Shelf.Slices.Equal
import Derived.Shelf.Slices.CompactS
import Derived.Shelf.Slices.In.SortNone
import Derived.Test.YtjkimadnopeakaaGreatDoorProg
import Derived.Laws.IdiomStrings
import Derived.Lib.ItoaNum
import Derived.Lib.ItoaLen
import Derived.Shelf.RegionOpen
import Derived.Lib.SlicesCompact
import Derived.Sort.Grow
import Derived.Lib.RowBridge
import Derived.Stop.Asserts
import Derived.Lib.Strings
import Derived.Lib.BufferWrite
import Derived.Lib.UnsafeStr
import Derived.Laws.MakeOwn
/- What every text stands on: small facts on worlds. -/
namespace Go.Proofs.YtjkimadnopeakaaGreatDoor
open Go.RowKit

theorem below_trans {a b c : World} (h : Below a.heap.size a b) (k : Below b.heap.size b c) : Below a.heap.size a c := h.trans (k.mono h.size)
theorem cell_lt {w : World} {b o : Nat} {v : Value} (h : w.cell? ⟨b, o, none⟩ = some v) : b < w.heap.size := by
  rcases Nat.lt_or_ge b w.heap.size with h' | h'
  · exact h'
  · simp [World.cell?, Array.getElem?_eq_none h'] at h
theorem grown_cell (w : World) (g o : Nat) (v : Value) : w.grownBy (w.setCell ⟨g, o, none⟩ v) (some g) :=
  ⟨rfl, rfl, rfl, by simp [World.setCell], fun k hk hne => Below.heap_setCell _ _ _ _ (by intro e; apply hne; simp [e])⟩
theorem grown_none {w w' : World} (h : Below w.heap.size w w') : w.grownBy w' none := ⟨h.os, h.tape, h.output, h.size, fun k hk _ => h.block k hk⟩
theorem grown_of_below {a b : World} {r : Option Nat} (h : Below a.heap.size a b) : a.grownBy b r := ⟨h.os, h.tape, h.output, h.size, fun k hk _ => h.block k hk⟩
theorem grown_then {a b c : World} {r : Option Nat} (h : a.grownBy b r) (k : b.grownBy c r) : a.grownBy c r :=
  ⟨k.os.trans h.os, k.tape.trans h.tape, k.output.trans h.output, Nat.le_trans h.size k.size, fun i hi hn => (k.block i (by have := h.size; omega) hn).trans (h.block i hi hn)⟩
theorem ownsRow_mono {w : World} {b b' : Nat} {e : TypeId} {size : Nat} {v : Value} {n : Nat} {xs : List Value} (h : w.ownsRow b e size v n xs) (hb : b' ≤ b) : w.ownsRow b' e size v n xs := by
  refine ⟨h.1, ?_⟩
  rcases h.2 with h2 | ⟨g, cap, cur, hv, hg, r⟩
  · exact .inl h2
  · exact .inr ⟨g, cap, cur, hv, Nat.le_trans hb hg, r⟩
end Go.Proofs.YtjkimadnopeakaaGreatDoor

/- Plain mathematics on bytes and lists: nothing of the program. -/
namespace Go.Proofs.YtjkimadnopeakaaGreatDoor
open Go.RowKit

/-- The byte at a place, as a number; 0 past the end. -/
def byteAt (s : ByteArray) (k : Nat) : Int := ((s.data.toList.getD k 0).toNat : Int)
theorem byteAt_eq (s : ByteArray) (k : Nat) (h : k < s.size) : byteAt s k = ((s[k]'h).toNat : Int) := by
  unfold byteAt
  have h' : k < s.data.toList.length := by simpa using h
  rw [List.getD_eq_getElem?_getD, List.getElem?_eq_getElem h']
  rfl
theorem byteAt_bd (s : ByteArray) (k : Nat) : 0 ≤ byteAt s k ∧ byteAt s k ≤ 255 := by
  unfold byteAt
  have := (s.data.toList.getD k 0).toNat_lt
  omega

/-- All of the first k. -/
def allTo (f : Nat → Bool) : Nat → Bool
  | 0 => true
  | k + 1 => allTo f k && f k
theorem allTo_iff (f : Nat → Bool) (k : Nat) : allTo f k = true ↔ ∀ j, j < k → f j = true := by
  induction k with
  | zero => simp [allTo]
  | succ k ih =>
    simp only [allTo, Bool.and_eq_true, ih]
    constructor
    · rintro ⟨h1, h2⟩ j hj
      by_cases e : j = k
      · subst e; exact h2
      · exact h1 j (by omega)
    · intro h
      exact ⟨fun j hj => h j (by omega), h k (by omega)⟩
theorem allTo_false (f : Nat → Bool) (n k : Nat) (h : k < n) (hf : f k = false) : allTo f n = false := by
  cases e : allTo f n with
  | false => rfl
  | true => have := (allTo_iff f n).1 e k h; rw [hf] at this; cases this
theorem allTo_snoc (f : Nat → Bool) (k : Nat) (h : allTo f k = true) (hf : f k = true) : allTo f (k + 1) = true := by simp [allTo, h, hf]
theorem ret_bool {a b : Bool} (h : a = b) : Ending.returned (.bool a) = .returned (.bool b) := by rw [h]
theorem ret_int {k : IntKind} {a b : Int} (h : a = b) : Ending.returned (.int k a) = .returned (.int k b) := by rw [h]
theorem ret_string {a b : ByteArray} (h : a = b) : Ending.returned (.string a) = .returned (.string b) := by rw [h]
theorem addr_add0 (B j : Nat) : (⟨B, 0, none⟩ : Addr).add j = ⟨B, j, none⟩ := by
  unfold Addr.add
  by_cases h : j = 0
  · simp [h]
  · simp [h]
theorem cell_one0 (w : World) (v : Value) (t : TypeId) : ∀ j u, [v][j]? = some u → (w.alloc (.cells #[v] t)).cell? ((⟨w.heap.size, 0, none⟩ : Addr).add j) = some u := by
  intro j u hj
  match j, hj with
  | 0, hj => simp at hj; subst hj; simp [Addr.add]
theorem cells_new (w : World) (l : List Value) (t : TypeId) : ∀ j u, l[j]? = some u → (w.alloc (.cells l.toArray t)).cell? ((⟨w.heap.size, 0, none⟩ : Addr).add j) = some u := by
  intro j u hj
  rw [addr_add0, World.cell?_alloc_new]
  simpa using hj
end Go.Proofs.YtjkimadnopeakaaGreatDoor

/- What every text of this seat stands on. -/
namespace Go.Proofs.YtjkimadnopeakaaGreatDoor
open Go.RowKit

theorem addr_add (b o i : Nat) : (⟨b, o, none⟩ : Addr).add i = ⟨b, o + i, none⟩ := by
  unfold Addr.add
  by_cases e : i = 0
  · simp [e]
  · simp [e]

/-- The number at a place. -/
def nth (zs : List Int) (i : Nat) : Int := zs.getD i 0
/-- A slice of ints, as it is read. -/
def IntRow (w : World) (a : Option Addr) (zs : List Int) : Prop := 0 < zs.length → ∃ g off, a = some ⟨g, off, none⟩ ∧ g < w.heap.size ∧ ∀ i, i < zs.length → w.cell? ⟨g, off + i, none⟩ = some (.int .i64 (nth zs i))
theorem IntRow.below {w w' : World} {a : Option Addr} {zs : List Int} (h : IntRow w a zs) (hb : Below w.heap.size w w') : IntRow w' a zs := fun hp => by
  obtain ⟨g, off, e, hg, hc⟩ := h hp
  exact ⟨g, off, e, by have := hb.size; omega, fun i hi => by rw [hb.cell (p := ⟨g, off + i, none⟩) hg]; exact hc i hi⟩
theorem owns_intRow {w : World} {base : Nat} {e : TypeId} {v : Value} {zs : List Int} (h : w.ownsRow base e 1 v zs.length (zs.map (Value.int .i64))) :
    ∃ a cap, v = .slice a zs.length cap ∧ IntRow w a zs := by
  rcases h.2 with ⟨rfl, h0⟩ | ⟨g, cap, cur, rfl, hb, hg, r⟩
  · exact ⟨none, 0, by rw [h0], fun hp => by omega⟩
  · refine ⟨_, cap, rfl, fun hp => ⟨g, 0, rfl, lt_of_block hg, fun i hi => ?_⟩⟩
    rw [nth, Nat.zero_add, h.cellAt i (by omega), List.getElem?_map, List.getElem?_eq_getElem hi, List.getD_eq_getElem?_getD, List.getElem?_eq_getElem hi]
    rfl
/-- The ints that came in. -/
theorem ints_in {w : World} {a : Option Addr} {len cap : Nat} {zs : List Int} (h : (a = none ∧ len = 0 ∧ cap = 0 ∧ zs = []) ∨
    ∃ x, a = some x ∧ len ≤ cap ∧ cap ≤ maxLen ∧ zs.length = cap ∧ (∀ i, i < zs.length → w.cell? (x.add i) = some (.int .i64 (zs.getD i 0))) ∧ ∀ n ∈ zs, (Lit.int .i64 n).wf = true) :
    ∃ ys : List Int, ys.length = len ∧ len ≤ maxLen ∧ IntRow w a ys := by
  rcases h with ⟨rfl, rfl, rfl, rfl⟩ | ⟨x, rfl, h1, h2, h3, h4, _⟩
  · exact ⟨[], rfl, by decide, fun hp => by simp at hp⟩
  · refine ⟨zs.take len, by simp; omega, by omega, fun hp => ?_⟩
    have hl : (zs.take len).length = len := by simp; omega
    rw [hl] at hp
    obtain ⟨b, off, spot⟩ := x
    have hc0 := h4 0 (by omega)
    have hspot : spot = none := by simpa [Addr.add] using World.cell?_spot hc0
    subst hspot
    refine ⟨b, off, rfl, ?_, fun i hi => ?_⟩
    · exact cell_lt (o := off) (v := .int .i64 (zs.getD 0 0)) (by rw [← hc0, addr_add]; simp)
    · rw [hl] at hi
      rw [← addr_add, h4 i (by omega)]
      simp [nth, hi]
end Go.Proofs.YtjkimadnopeakaaGreatDoor

/- Texts joined: plain mathematics. -/
namespace Go.Proofs.YtjkimadnopeakaaGreatDoor
open Go.RowKit
theorem join_two (x y : List UInt8) (r : List (List UInt8)) (sep : List UInt8) : Lib.join (x :: y :: r) sep = x ++ sep ++ Lib.join (y :: r) sep := by
  simp [Lib.join, List.intercalate, List.intersperse]
theorem join_snoc (x sep : List UInt8) : ∀ (y : List UInt8) (xs : List (List UInt8)), Lib.join ((y :: xs) ++ [x]) sep = Lib.join (y :: xs) sep ++ sep ++ x
  | y, [] => by rw [List.cons_append, List.nil_append, join_two, Lib.join_one, Lib.join_one]
  | y, z :: zs => by
    have ih := join_snoc x sep z zs
    rw [List.cons_append] at ih
    rw [List.cons_append, List.cons_append, join_two, ih, join_two]
    simp
end Go.Proofs.YtjkimadnopeakaaGreatDoor

/- Texts cut at a byte: plain mathematics. -/
namespace Go.Proofs.YtjkimadnopeakaaGreatDoor
open Go.RowKit
set_option linter.unusedVariables false

theorem ba_ext {s t : ByteArray} (h : s.data.toList = t.data.toList) : s = t := by
  obtain ⟨⟨l⟩⟩ := s
  obtain ⟨⟨m⟩⟩ := t
  simp at h
  rw [h]
theorem ib_at (b : UInt8) : ∀ (l : List UInt8) (i : Nat), l[i]? = some b → (∀ j, j < i → l[j]? ≠ some b) → Lib.indexByte l b = i
  | [], i, h, _ => by simp at h
  | x :: t, 0, h, _ => by
    simp at h
    subst h
    simp [Lib.indexByte]
  | x :: t, i + 1, h, hn => by
    have hx : x ≠ b := fun e => hn 0 (by omega) (by simp [e])
    have ih := ib_at b t i (by simpa using h) (fun j hj => by have := hn (j + 1) (by omega); simpa using this)
    rw [Lib.indexByte, if_neg (by simpa using hx), ih, if_neg (by simp)]
    omega
theorem ib_no (b : UInt8) : ∀ (l : List UInt8), (∀ j, j < l.length → l[j]? ≠ some b) → Lib.indexByte l b = -1
  | [], _ => rfl
  | x :: t, hn => by
    have hx : x ≠ b := fun e => hn 0 (by simp) (by simp [e])
    have ih := ib_no b t (fun j hj => by have := hn (j + 1) (by simpa using hj); simpa using this)
    rw [Lib.indexByte, if_neg (by simpa using hx), ih, if_pos (by simp)]
theorem byteAt_some (s : ByteArray) (i : Nat) (b : UInt8) (hi : i < s.size) : byteAt s i = (b.toNat : Int) ↔ s.data.toList[i]? = some b := by
  have hl : i < s.data.toList.length := by simpa using hi
  unfold byteAt
  rw [List.getD_eq_getElem?_getD, List.getElem?_eq_getElem hl]
  simp only [Option.getD_some, Option.some.injEq]
  constructor
  · intro h
    exact UInt8.toNat_inj.1 (by omega)
  · intro h
    rw [h]
theorem indexB_at (s : ByteArray) (b : UInt8) (i : Nat) (hi : i < s.size) (hb : byteAt s i = (b.toNat : Int)) (hn : ∀ j, j < i → byteAt s j ≠ (b.toNat : Int)) : Lib.indexB s ⟨#[b]⟩ = i := by
  show Lib.index s.data.toList [b] = i
  rw [Lib.index_one]
  exact ib_at b _ i ((byteAt_some s i b hi).1 hb) (fun j hj e => hn j hj ((byteAt_some s j b (by omega)).2 e))
theorem indexB_no (s : ByteArray) (b : UInt8) (hn : ∀ j, j < s.size → byteAt s j ≠ (b.toNat : Int)) : Lib.indexB s ⟨#[b]⟩ = -1 := by
  show Lib.index s.data.toList [b] = -1
  rw [Lib.index_one]
  exact ib_no b _ (fun j hj e => hn j (by simpa using hj) ((byteAt_some s j b (by simpa using hj)).2 e))

/-- A text cut at a byte, so many times at most. -/
def cuts (b : UInt8) (k : Nat) (s : ByteArray) : List ByteArray := Lib.splitB ⟨#[b]⟩ 0 k s
theorem byteAt_drop (s : ByteArray) (f j : Nat) : byteAt (s.extract f s.size) j = byteAt s (f + j) := by
  unfold byteAt
  rw [Lib.extract_to_end, List.getD_eq_getElem?_getD, List.getD_eq_getElem?_getD, List.getElem?_drop]
theorem extract_two (s : ByteArray) (f i : Nat) (h : f ≤ i) (hi : i ≤ s.size) : (s.extract f s.size).extract 0 (i - f + 0) = s.extract f i := by
  apply ba_ext
  rw [Lib.extract_data, Lib.extract_to_end, Lib.extract_data]
  simp
theorem extract_rest (s : ByteArray) (f i : Nat) (h : f ≤ i) (hi : i < s.size) : (s.extract f s.size).extract (i - f + 1) (s.extract f s.size).size = s.extract (i + 1) s.size := by
  apply ba_ext
  rw [Lib.extract_to_end, Lib.extract_to_end, Lib.extract_to_end, List.drop_drop]
  congr 1
  omega
theorem cuts_hit (s : ByteArray) (b : UInt8) (k f i : Nat) (h : f ≤ i) (hi : i < s.size) (hb : byteAt s i = (b.toNat : Int)) (hn : ∀ j, f ≤ j → j < i → byteAt s j ≠ (b.toNat : Int)) :
    cuts b (k + 1) (s.extract f s.size) = s.extract f i :: cuts b k (s.extract (i + 1) s.size) := by
  have hs : (s.extract f s.size).size = s.size - f := by rw [ByteArray.size_extract]; omega
  have hix := indexB_at (s.extract f s.size) b (i - f) (by omega) (by rw [byteAt_drop, show f + (i - f) = i from by omega]; exact hb) (fun j hj => by rw [byteAt_drop]; exact hn (f + j) (by omega) (by omega))
  unfold cuts
  rw [Lib.splitB_hit _ _ _ _ _ hix, extract_two s f i h (by omega)]
  congr 1
  rw [show i - f + (⟨#[b]⟩ : ByteArray).size = i - f + 1 from rfl, extract_rest s f i h hi]
theorem cuts_miss (s : ByteArray) (b : UInt8) (k f : Nat) (hf : f ≤ s.size) (hn : ∀ j, f ≤ j → j < s.size → byteAt s j ≠ (b.toNat : Int)) : cuts b k (s.extract f s.size) = [s.extract f s.size] := by
  have hs : (s.extract f s.size).size = s.size - f := by rw [ByteArray.size_extract]; omega
  exact Lib.splitB_miss _ _ _ _ (indexB_no _ _ (fun j hj => by rw [byteAt_drop]; exact hn (f + j) (by omega) (by omega)))
theorem cuts_zero (s : ByteArray) (b : UInt8) : cuts b 0 s = [s] := rfl
theorem extract_all (s : ByteArray) : s.extract 0 s.size = s := by
  apply ba_ext
  rw [Lib.extract_to_end, List.drop_zero]
theorem cuts_len_le (b : UInt8) (k : Nat) (s : ByteArray) : (cuts b k s).length ≤ k + 1 := Lib.splitB_length_le _ _ _ _
theorem cuts_pos (b : UInt8) (k : Nat) (s : ByteArray) : 0 < (cuts b k s).length := by
  unfold cuts
  cases k with
  | zero => simp [Lib.splitB]
  | succ k => unfold Lib.splitB; split <;> simp
/-- How often a byte is in a text. -/
def manyB (b : UInt8) (s : ByteArray) : Nat := Lib.countB s ⟨#[b]⟩
theorem manyB_le (b : UInt8) (s : ByteArray) : manyB b s ≤ s.size := Lib.countB_le ⟨#[b]⟩ (Nat.le_refl 1) s.size s (Nat.le_refl _)
theorem cuts_enough (b : UInt8) : ∀ (k : Nat) (s : ByteArray), manyB b s ≤ k → cuts b k s = cuts b (manyB b s) s
  | 0, s, h => by
    have : manyB b s = 0 := by omega
    rw [this]
  | k + 1, s, h => by
    rcases Lib.indexB_cases s ⟨#[b]⟩ with hix | ⟨i, hix, hroom⟩
    · unfold cuts
      rw [Lib.splitB_miss _ _ _ _ hix, Lib.splitB_miss _ _ _ _ hix]
    · have hc := Lib.countB_hit s ⟨#[b]⟩ i (Nat.le_refl 1) hix
      have ih := cuts_enough b k (s.extract (i + (⟨#[b]⟩ : ByteArray).size) s.size) (by unfold manyB at h ⊢; omega)
      unfold manyB cuts at *
      rw [hc, Nat.add_comm 1, Lib.splitB_hit _ _ _ _ _ hix, Lib.splitB_hit _ _ _ _ _ hix, ih]
theorem cuts_full_len (b : UInt8) (s : ByteArray) : (cuts b (manyB b s) s).length = manyB b s + 1 := Lib.splitB_all ⟨#[b]⟩ (Nat.le_refl 1) 0 _ s rfl
theorem cuts_len_few (b : UInt8) : ∀ (k : Nat) (s : ByteArray), k ≤ manyB b s → (cuts b k s).length = k + 1
  | 0, s, h => rfl
  | k + 1, s, h => by
    rcases Lib.indexB_cases s ⟨#[b]⟩ with hix | ⟨i, hix, hroom⟩
    · have := Lib.countB_miss s ⟨#[b]⟩ hix
      unfold manyB at h
      omega
    · have hc := Lib.countB_hit s ⟨#[b]⟩ i (Nat.le_refl 1) hix
      have ih := cuts_len_few b k (s.extract (i + (⟨#[b]⟩ : ByteArray).size) s.size) (by unfold manyB at h ⊢; omega)
      unfold cuts at *
      rw [Lib.splitB_hit _ _ _ _ _ hix, List.length_cons, ih]
theorem join_cons (x : List UInt8) (r : List (List UInt8)) (sep : List UInt8) (h : 0 < r.length) : Lib.join (x :: r) sep = x ++ sep ++ Lib.join r sep := by
  match r, h with
  | y :: r, _ => exact join_two x y r sep
theorem join_cuts (b : UInt8) : ∀ (k : Nat) (s : ByteArray), Lib.join ((cuts b k s).map (·.data.toList)) [b] = s.data.toList
  | 0, s => by rw [cuts_zero]; exact Lib.join_one _ _
  | k + 1, s => by
    by_cases hex : ∃ i, i < s.size ∧ byteAt s i = (b.toNat : Int)
    · have hmin : ∃ i, i < s.size ∧ byteAt s i = (b.toNat : Int) ∧ ∀ j, j < i → byteAt s j ≠ (b.toNat : Int) := by
        obtain ⟨i, hi⟩ := hex
        induction i using Nat.strongRecOn with
        | ind i ih =>
          by_cases h : ∃ j, j < i ∧ byteAt s j = (b.toNat : Int)
          · obtain ⟨j, hj, hb⟩ := h
            exact ih j hj ⟨by omega, hb⟩
          · exact ⟨i, hi.1, hi.2, fun j hj e => h ⟨j, hj, e⟩⟩
      obtain ⟨i, hi, hb, hn⟩ := hmin
      have h := cuts_hit s b k 0 i (Nat.zero_le _) hi hb (fun j _ hj => hn j hj)
      rw [extract_all] at h
      have ih := join_cuts b k (s.extract (i + 1) s.size)
      rw [h, List.map_cons, join_cons _ _ _ (by simpa using cuts_pos _ _ _), ih, Lib.extract_to_end, Lib.extract_data]
      have hl : i < s.data.toList.length := by simpa using hi
      have hsi := (byteAt_some s i b hi).1 hb
      rw [List.getElem?_eq_getElem hl] at hsi
      have hd := List.drop_eq_getElem_cons hl
      rw [Option.some.inj hsi] at hd
      simp only [List.drop_zero, Nat.sub_zero, List.append_assoc, List.cons_append, List.nil_append]
      rw [← hd, List.take_append_drop]
    · have h := cuts_miss s b (k + 1) 0 (Nat.zero_le _) (fun j _ hj e => hex ⟨j, hj, e⟩)
      rw [extract_all] at h
      rw [h]
      exact Lib.join_one _ _
end Go.Proofs.YtjkimadnopeakaaGreatDoor

/- The contracts of Go's own library at this program: each is the kit's theorem, applied. -/
namespace Go.Proofs
open Go.Shelf
def Tryz.lays103_ren : Go.Shelf.Ren := ⟨fun | 103 => 155 | 210 => 164 | 206 => 121 | n => n, fun | 9 => 9 | 4 => 4 | 24 => 107 | 3 => 3 | n => n, fun | n => n⟩
theorem Tryz.lays103 : Go.Proofs.Lays.n103 Tryz.prog Tryz.lays103_ren := {
  mixed := by kernel_rfl
  f103 := Tryz.func155.trans (congrArg some (by kernel_rfl))
  f206 := Tryz.func121.trans (congrArg some (by kernel_rfl))
  f210 := Tryz.func164.trans (congrArg some (by kernel_rfl))
  t3 := Tryz.underlying3
  a3 := Tryz.isAgg3
  z3 := Tryz.sizeOf3
  v3 := Tryz.zeroValue3
  t4 := Tryz.underlying4
  a4 := Tryz.isAgg4
  z4 := Tryz.sizeOf4
  v4 := Tryz.zeroValue4
  t9 := Tryz.underlying9
  a9 := Tryz.isAgg9
  z9 := Tryz.sizeOf9
  v9 := Tryz.zeroValue9
  t24 := Tryz.underlying107
  a24 := Tryz.isAgg107
  z24 := Tryz.sizeOf107
  v24 := Tryz.zeroValue107 }
open Go.RowKit in
theorem Tryz.strings_CutPrefix (s p : ByteArray) (w : World) :
    Calls Tryz.prog 155 #[.string s, .string p] w fun e w' => e = .returned (.tuple #[.string ⟨(Lib.trimPrefix s.data.toList p.data.toList).toArray⟩, .bool (Lib.hasPrefix s.data.toList p.data.toList)]) ∧ w' = w := Any.strings_CutPrefix Tryz.lays103 s p w
def Tryz.lays99_ren : Go.Shelf.Ren := ⟨fun | 99 => 83 | 206 => 121 | n => n, fun | 9 => 9 | 4 => 4 | 3 => 3 | n => n, fun | n => n⟩
theorem Tryz.lays99 : Go.Proofs.Lays.n99 Tryz.prog Tryz.lays99_ren := {
  mixed := by kernel_rfl
  f99 := Tryz.func83.trans (congrArg some (by kernel_rfl))
  f206 := Tryz.func121.trans (congrArg some (by kernel_rfl))
  t3 := Tryz.underlying3
  a3 := Tryz.isAgg3
  z3 := Tryz.sizeOf3
  v3 := Tryz.zeroValue3
  t4 := Tryz.underlying4
  a4 := Tryz.isAgg4
  z4 := Tryz.sizeOf4
  v4 := Tryz.zeroValue4
  t9 := Tryz.underlying9
  a9 := Tryz.isAgg9
  z9 := Tryz.sizeOf9
  v9 := Tryz.zeroValue9 }
open Go.RowKit Go.Lib in
theorem Tryz.strings_HasPrefix (s p : ByteArray) (w : World) :
    Calls Tryz.prog 83 #[.string s, .string p] w fun e w' => e = .returned (.bool (Lib.hasPrefix s.data.toList p.data.toList)) ∧ w' = w := Any.strings_HasPrefix Tryz.lays99 s p w
def Tryz.lays146_ren : Go.Shelf.Ren := ⟨fun | 146 => 153 | 221 => 163 | 268 => 168 | 138 => 169 | 143 => 170 | 195 => 182 | 197 => 183 | 218 => 184 | 219 => 185 | 260 => 192 | 217 => 193 | 225 => 194 | 224 => 195 | 267 => 196 | 266 => 198 | 314 => 199 | n => n, fun | 9 => 9 | 31 => 60 | 3 => 3 | 4 => 4 | 0 => 0 | 105 => 183 | 21 => 21 | 5 => 5 | 46 => 169 | 119 => 195 | 139 => 198 | 138 => 197 | 146 => 199 | 51 => 180 | n => n, fun | 1 => 0 | 3 => 1 | 4 => 2 | n => n⟩
theorem Tryz.lays146 : Go.Proofs.Lays.n146 Tryz.prog Tryz.lays146_ren := {
  mixed := by kernel_rfl
  f138 := Tryz.func169.trans (congrArg some (by kernel_rfl))
  f143 := Tryz.func170.trans (congrArg some (by kernel_rfl))
  f146 := Tryz.func153.trans (congrArg some (by kernel_rfl))
  f195 := Tryz.func182.trans (congrArg some (by kernel_rfl))
  f197 := Tryz.func183.trans (congrArg some (by kernel_rfl))
  f217 := Tryz.func193.trans (congrArg some (by kernel_rfl))
  f218 := Tryz.func184.trans (congrArg some (by kernel_rfl))
  f219 := Tryz.func185.trans (congrArg some (by kernel_rfl))
  f221 := Tryz.func163.trans (congrArg some (by kernel_rfl))
  f224 := Tryz.func195.trans (congrArg some (by kernel_rfl))
  f225 := Tryz.func194.trans (congrArg some (by kernel_rfl))
  f260 := Tryz.func192.trans (congrArg some (by kernel_rfl))
  f266 := Tryz.func198.trans (congrArg some (by kernel_rfl))
  f267 := Tryz.func196.trans (congrArg some (by kernel_rfl))
  f268 := Tryz.func168.trans (congrArg some (by kernel_rfl))
  f314 := Tryz.func199.trans (congrArg some (by kernel_rfl))
  t0 := Tryz.underlying0
  a0 := Tryz.isAgg0
  z0 := Tryz.sizeOf0
  v0 := Tryz.zeroValue0
  t3 := Tryz.underlying3
  a3 := Tryz.isAgg3
  z3 := Tryz.sizeOf3
  v3 := Tryz.zeroValue3
  t4 := Tryz.underlying4
  a4 := Tryz.isAgg4
  z4 := Tryz.sizeOf4
  v4 := Tryz.zeroValue4
  t5 := Tryz.underlying5
  a5 := Tryz.isAgg5
  z5 := Tryz.sizeOf5
  v5 := Tryz.zeroValue5
  t9 := Tryz.underlying9
  a9 := Tryz.isAgg9
  z9 := Tryz.sizeOf9
  v9 := Tryz.zeroValue9
  t21 := Tryz.underlying21
  a21 := Tryz.isAgg21
  z21 := Tryz.sizeOf21
  v21 := Tryz.zeroValue21
  t31 := Tryz.underlying60
  a31 := Tryz.isAgg60
  z31 := Tryz.sizeOf60
  v31 := Tryz.zeroValue60
  t46 := Tryz.underlying169
  a46 := Tryz.isAgg169
  z46 := Tryz.sizeOf169
  v46 := Tryz.zeroValue169
  t51 := Tryz.underlying180
  a51 := Tryz.isAgg180
  z51 := Tryz.sizeOf180
  v51 := Tryz.zeroValue180
  t105 := Tryz.underlying183
  a105 := Tryz.isAgg183
  z105 := Tryz.sizeOf183
  v105 := Tryz.zeroValue183
  t119 := Tryz.underlying195
  a119 := Tryz.isAgg195
  z119 := Tryz.sizeOf195
  t138 := Tryz.underlying197
  a138 := Tryz.isAgg197
  z138 := Tryz.sizeOf197
  v138 := Tryz.zeroValue197
  t139 := Tryz.underlying198
  a139 := Tryz.isAgg198
  z139 := Tryz.sizeOf198
  v139 := Tryz.zeroValue198
  t146 := Tryz.underlying199
  a146 := Tryz.isAgg199
  z146 := Tryz.sizeOf199
  v146 := Tryz.zeroValue199
  g1 := by kernel_rfl
  g3 := by kernel_rfl
  g4 := by kernel_rfl }
open Go.RowKit Go.Lib in
theorem Tryz.strings_Split (s sep : ByteArray) (m : Int) (w : World) (hs : s.size < 4294967281) (hm : w.cell? ⟨0, 0, none⟩ = some (.int .i64 m)) (h1 : 1 ≤ sep.size) :
    Calls Tryz.prog 153 #[.string s, .string sep] w fun e w' =>
      e = .returned (.slice (some ⟨w.heap.size, 0, none⟩) (Lib.countB s sep + 1) (Lib.countB s sep + 1)) ∧ w' = w.alloc (.cells ((Lib.splitB sep 0 (Lib.countB s sep) s).map Value.string).toArray 9) := Any.strings_Split Tryz.lays146 (by kernel_rfl) s sep m w hs hm h1
def Tryz.laysM146_ren : Go.Shelf.Ren := ⟨fun | 146 => 153 | 221 => 163 | 268 => 168 | 138 => 169 | 143 => 170 | 195 => 182 | 197 => 183 | 218 => 184 | 219 => 185 | 260 => 192 | 217 => 193 | 225 => 194 | 224 => 195 | 267 => 196 | 266 => 198 | 314 => 199 | n => n, fun | 9 => 9 | 31 => 60 | 3 => 3 | 4 => 4 | 0 => 0 | 105 => 183 | 21 => 21 | 5 => 5 | 46 => 169 | 119 => 195 | 139 => 198 | 138 => 197 | 146 => 199 | 51 => 180 | n => n, fun | 1 => 0 | 3 => 1 | 4 => 2 | n => n⟩
theorem Tryz.laysM146 : Go.Proofs.LaysM.n146 Tryz.prog Tryz.laysM146_ren := {
  mixed := by kernel_rfl
  f138 := Tryz.func169.trans (congrArg some (by kernel_rfl))
  f143 := Tryz.func170.trans (congrArg some (by kernel_rfl))
  f146 := Tryz.func153.trans (congrArg some (by kernel_rfl))
  f195 := Tryz.func182.trans (congrArg some (by kernel_rfl))
  f197 := Tryz.func183.trans (congrArg some (by kernel_rfl))
  f217 := Tryz.func193.trans (congrArg some (by kernel_rfl))
  f218 := Tryz.func184.trans (congrArg some (by kernel_rfl))
  f219 := Tryz.func185.trans (congrArg some (by kernel_rfl))
  f221 := Tryz.func163.trans (congrArg some (by kernel_rfl))
  f224 := Tryz.func195.trans (congrArg some (by kernel_rfl))
  f225 := Tryz.func194.trans (congrArg some (by kernel_rfl))
  f260 := Tryz.func192.trans (congrArg some (by kernel_rfl))
  f266 := Tryz.func198.trans (congrArg some (by kernel_rfl))
  f267 := Tryz.func196.trans (congrArg some (by kernel_rfl))
  f268 := Tryz.func168.trans (congrArg some (by kernel_rfl))
  f314 := Tryz.func199.trans (congrArg some (by kernel_rfl))
  t0 := Tryz.underlying0
  a0 := Tryz.isAgg0
  z0 := Tryz.sizeOf0
  v0 := Tryz.zeroValue0
  t3 := Tryz.underlying3
  a3 := Tryz.isAgg3
  z3 := Tryz.sizeOf3
  v3 := Tryz.zeroValue3
  t4 := Tryz.underlying4
  a4 := Tryz.isAgg4
  z4 := Tryz.sizeOf4
  v4 := Tryz.zeroValue4
  t5 := Tryz.underlying5
  a5 := Tryz.isAgg5
  z5 := Tryz.sizeOf5
  v5 := Tryz.zeroValue5
  t9 := Tryz.underlying9
  a9 := Tryz.isAgg9
  z9 := Tryz.sizeOf9
  v9 := Tryz.zeroValue9
  t21 := Tryz.underlying21
  a21 := Tryz.isAgg21
  z21 := Tryz.sizeOf21
  v21 := Tryz.zeroValue21
  t31 := Tryz.underlying60
  a31 := Tryz.isAgg60
  z31 := Tryz.sizeOf60
  v31 := Tryz.zeroValue60
  t46 := Tryz.underlying169
  a46 := Tryz.isAgg169
  z46 := Tryz.sizeOf169
  v46 := Tryz.zeroValue169
  t51 := Tryz.underlying180
  a51 := Tryz.isAgg180
  z51 := Tryz.sizeOf180
  v51 := Tryz.zeroValue180
  t105 := Tryz.underlying183
  a105 := Tryz.isAgg183
  z105 := Tryz.sizeOf183
  v105 := Tryz.zeroValue183
  t119 := Tryz.underlying195
  a119 := Tryz.isAgg195
  z119 := Tryz.sizeOf195
  t138 := Tryz.underlying197
  a138 := Tryz.isAgg197
  z138 := Tryz.sizeOf197
  v138 := Tryz.zeroValue197
  t139 := Tryz.underlying198
  a139 := Tryz.isAgg198
  z139 := Tryz.sizeOf198
  v139 := Tryz.zeroValue198
  t146 := Tryz.underlying199
  a146 := Tryz.isAgg199
  z146 := Tryz.sizeOf199
  v146 := Tryz.zeroValue199
  g1 := by kernel_rfl
  g3 := by kernel_rfl
  g4 := by kernel_rfl
  i0 := by kernel_rfl
  i3 := by kernel_rfl
  i4 := by kernel_rfl
  i5 := by kernel_rfl
  i9 := by kernel_rfl
  i21 := by kernel_rfl
  i31 := by kernel_rfl
  i46 := by kernel_rfl
  i51 := by kernel_rfl
  i105 := by kernel_rfl
  i138 := by kernel_rfl
  i139 := by kernel_rfl
  i146 := by kernel_rfl
  m1 := by kernel_rfl
  s1_3 := fun w h => Go.Proofs.cell_of_shapedOpen_int (zero := #[.int .i64 0]) (t := 3) h (of_decide_eq_true (by kernel_rfl)) (by kernel_rfl) rfl (by kernel_rfl) (by kernel_rfl) Tryz.underlying3
  m3 := by kernel_rfl
  m4 := by kernel_rfl }
open Go.RowKit Go.Lib in
theorem Tryz.strings_Split_shaped (s sep : ByteArray) (w : World) (h : w.ShapedOpen Tryz.prog) (hs : s.size < 4294967281) (h1 : 1 ≤ sep.size) :
    Calls Tryz.prog 153 #[.string s, .string sep] w fun e w' =>
      e = .returned (.slice (some ⟨w.heap.size, 0, none⟩) (Lib.countB s sep + 1) (Lib.countB s sep + 1)) ∧ w' = w.alloc (.cells ((Lib.splitB sep 0 (Lib.countB s sep) s).map Value.string).toArray 9) := Any.strings_Split_shaped Tryz.laysM146 s sep w h hs h1
def Tryz.lays110_ren : Go.Shelf.Ren := ⟨fun | 110 => 87 | 109 => 123 | n => n, fun | 31 => 60 | 9 => 9 | 4 => 4 | 3 => 3 | 0 => 0 | n => n, fun | n => n⟩
theorem Tryz.lays110 : Go.Proofs.Lays.n110 Tryz.prog Tryz.lays110_ren := {
  mixed := by kernel_rfl
  f109 := Tryz.func123.trans (congrArg some (by kernel_rfl))
  f110 := Tryz.func87.trans (congrArg some (by kernel_rfl))
  t0 := Tryz.underlying0
  a0 := Tryz.isAgg0
  z0 := Tryz.sizeOf0
  v0 := Tryz.zeroValue0
  t3 := Tryz.underlying3
  a3 := Tryz.isAgg3
  z3 := Tryz.sizeOf3
  v3 := Tryz.zeroValue3
  t4 := Tryz.underlying4
  a4 := Tryz.isAgg4
  z4 := Tryz.sizeOf4
  v4 := Tryz.zeroValue4
  t9 := Tryz.underlying9
  a9 := Tryz.isAgg9
  z9 := Tryz.sizeOf9
  v9 := Tryz.zeroValue9
  t31 := Tryz.underlying60
  a31 := Tryz.isAgg60
  z31 := Tryz.sizeOf60
  v31 := Tryz.zeroValue60 }
open Go.Lib in
theorem Tryz.slices_Contains_string (b off n c : Nat) (zs : List ByteArray) (x : ByteArray) (w : World) (hz : n ≤ zs.length) (hbig : n ≤ 9223372036854775807) (hc : ∀ j, j < zs.length → w.cell? ⟨b, off + j, none⟩ = some (.string (zs.getD j ByteArray.empty))) :
    Calls Tryz.prog 87 #[.slice (some ⟨b, off, none⟩) n c, .string x] w fun e w' => e = .returned (.bool (Lib.containsS (zs.take n) x)) ∧ w' = w := Any.slices_Contains_string Tryz.lays110 b off n c zs x w hz hbig hc
open Go.Lib in
theorem Tryz.slices_Contains_string_empty (a : Option Addr) (c : Nat) (x : ByteArray) (w : World) :
    Calls Tryz.prog 87 #[.slice a 0 c, .string x] w fun e w' => e = .returned (.bool false) ∧ w' = w := Any.slices_Contains_string_empty Tryz.lays110 a c x w
def Tryz.lays193_ren : Go.Shelf.Ren := ⟨fun | 193 => 120 | n => n, fun | 31 => 60 | 9 => 9 | 4 => 4 | 3 => 3 | 0 => 0 | n => n, fun | n => n⟩
theorem Tryz.lays193 : Go.Proofs.Lays.n193 Tryz.prog Tryz.lays193_ren := {
  mixed := by kernel_rfl
  f193 := Tryz.func120.trans (congrArg some (by kernel_rfl))
  t0 := Tryz.underlying0
  a0 := Tryz.isAgg0
  z0 := Tryz.sizeOf0
  v0 := Tryz.zeroValue0
  t3 := Tryz.underlying3
  a3 := Tryz.isAgg3
  z3 := Tryz.sizeOf3
  v3 := Tryz.zeroValue3
  t4 := Tryz.underlying4
  a4 := Tryz.isAgg4
  z4 := Tryz.sizeOf4
  v4 := Tryz.zeroValue4
  t9 := Tryz.underlying9
  a9 := Tryz.isAgg9
  z9 := Tryz.sizeOf9
  v9 := Tryz.zeroValue9
  t31 := Tryz.underlying60
  a31 := Tryz.isAgg60
  z31 := Tryz.sizeOf60
  v31 := Tryz.zeroValue60 }
open Go.RowKit Go.Lib in
theorem Tryz.slices_Equal_string (b1 o1 n c b2 o2 m d : Nat) (xs ys : List ByteArray) (w : World) (hx : n ≤ xs.length) (hy : m ≤ ys.length) (hbig : n ≤ 9223372036854775807) (hbig2 : m ≤ 9223372036854775807) (hc1 : ∀ j, j < xs.length → w.cell? ⟨b1, o1 + j, none⟩ = some (.string (xs.getD j ByteArray.empty))) (hc2 : ∀ j, j < ys.length → w.cell? ⟨b2, o2 + j, none⟩ = some (.string (ys.getD j ByteArray.empty))) :
    Calls Tryz.prog 120 #[.slice (some ⟨b1, o1, none⟩) n c, .slice (some ⟨b2, o2, none⟩) m d] w fun e w' => e = .returned (.bool (decide (xs.take n = ys.take m))) ∧ ∃ q, w' = w.drewN q := Any.slices_Equal_string Tryz.lays193 b1 o1 n c b2 o2 m d xs ys w hx hy hbig hbig2 hc1 hc2
open Go.RowKit Go.Lib in
theorem Tryz.slices_Equal_string_empty (a1 a2 : Option Addr) (c m d : Nat) (w : World) (hbig2 : m ≤ 9223372036854775807) :
    Calls Tryz.prog 120 #[.slice a1 0 c, .slice a2 m d] w fun e w' => e = .returned (.bool (decide (m = 0))) ∧ w' = w := Any.slices_Equal_string_empty Tryz.lays193 a1 a2 c m d w hbig2
end Go.Proofs

/- Contracts of the small functions on bytes: each answers as the Bool function beside it and leaves the world as it was. -/
namespace Go.Proofs.YtjkimadnopeakaaGreatDoor
open Go.RowKit

def greatB (n : Int) : Bool := decide (65 ≤ n) && decide (n ≤ 90)
def smallB (n : Int) : Bool := decide (97 ≤ n) && decide (n ≤ 122)
def figureB (n : Int) : Bool := decide (48 ≤ n) && decide (n ≤ 57)
def lowI (n : Int) : Int := if greatB n then n + 32 else n
theorem lowI_yes (n : Int) (h1 : 65 ≤ n) (h2 : n ≤ 90) : lowI n = n + 32 := by simp [lowI, greatB, h1, h2]
theorem lowI_no (n : Int) (h : n < 65 ∨ 90 < n) : lowI n = n := by
  unfold lowI
  rw [if_neg]
  simp [greatB]
  omega

theorem isGreat_any (n : Int) (w : World) :
    Calls Tryz.prog 154 #[.int .u8 n] w fun e w' => e = .returned (.bool (greatB n)) ∧ w = w' := by
  by_cases h1 : 65 ≤ n <;> by_cases h2 : n ≤ 90
  all_goals
    go_enter Tryz.func154, Tryz.ntmps154
    go_wp2
    go_ret
    exact ⟨by simp [greatB, h1, h2], rfl⟩

theorem isSmall_any (n : Int) (w : World) :
    Calls Tryz.prog 136 #[.int .u8 n] w fun e w' => e = .returned (.bool (smallB n)) ∧ w = w' := by
  by_cases h1 : 97 ≤ n <;> by_cases h2 : n ≤ 122
  all_goals
    go_enter Tryz.func136, Tryz.ntmps136
    go_wp2
    go_ret
    exact ⟨by simp [smallB, h1, h2], rfl⟩

theorem isFigure_any (n : Int) (w : World) :
    Calls Tryz.prog 135 #[.int .u8 n] w fun e w' => e = .returned (.bool (figureB n)) ∧ w = w' := by
  by_cases h1 : 48 ≤ n <;> by_cases h2 : n ≤ 57
  all_goals
    go_enter Tryz.func135, Tryz.ntmps135
    go_wp2
    go_ret
    exact ⟨by simp [figureB, h1, h2], rfl⟩
end Go.Proofs.YtjkimadnopeakaaGreatDoor

/- Rows of strings: what is read, compared, marked and held. -/
namespace Go.Proofs.YtjkimadnopeakaaGreatDoor
open Go.RowKit

/-- A slice of strings, as it is read. -/
def StrRow (w : World) (a : Option Addr) (ss : List ByteArray) : Prop := 0 < ss.length → ∃ g, a = some ⟨g, 0, none⟩ ∧ g < w.heap.size ∧ ∀ i, i < ss.length → w.cell? ⟨g, i, none⟩ = some (.string (ss.getD i ⟨#[]⟩))
theorem StrRow.below {w w' : World} {a : Option Addr} {ss : List ByteArray} (h : StrRow w a ss) (hb : Below w.heap.size w w') : StrRow w' a ss := fun hp => by
  obtain ⟨g, e, hg, hc⟩ := h hp
  exact ⟨g, e, by have := hb.size; omega, fun i hi => by rw [hb.cell (p := ⟨g, i, none⟩) hg]; exact hc i hi⟩
theorem owns_strRow {w : World} {base : Nat} {e : TypeId} {v : Value} {ss : List ByteArray} (h : w.ownsRow base e 1 v ss.length (ss.map Value.string)) :
    ∃ a cap, v = .slice a ss.length cap ∧ StrRow w a ss := by
  rcases h.2 with ⟨rfl, h0⟩ | ⟨g, cap, cur, rfl, hb, hg, r⟩
  · exact ⟨none, 0, by rw [h0], fun hp => by omega⟩
  · refine ⟨_, cap, rfl, fun hp => ⟨g, rfl, lt_of_block hg, fun i hi => ?_⟩⟩
    rw [h.cellAt i (by omega), List.getElem?_map, List.getElem?_eq_getElem hi, List.getD_eq_getElem?_getD, List.getElem?_eq_getElem hi]
    rfl

end Go.Proofs.YtjkimadnopeakaaGreatDoor

/- strings.Split at one byte. -/
namespace Go.Proofs.YtjkimadnopeakaaGreatDoor
open Go.RowKit
set_option linter.unusedVariables false

/-- The cell of internal/bytealg.MaxLen holds an int. -/
def MaxL (w : World) : Prop := ∃ m, w.cell? ⟨0, 0, none⟩ = some (.int .i64 m)
theorem MaxL.below {w w' : World} (h : MaxL w) (hb : Below w.heap.size w w') : MaxL w' := by
  obtain ⟨m, hm⟩ := h
  exact ⟨m, (hb.cell (p := ⟨0, 0, none⟩) (cell_lt hm)).trans hm⟩
theorem split_any (s : ByteArray) (b : UInt8) (w : World) (hs : s.size ≤ 1048576) (hm : MaxL w) :
    Calls Tryz.prog 153 #[.string s, .string ⟨#[b]⟩] w fun e w' => ∃ g, e = .returned (.slice (some ⟨g, 0, none⟩) (manyB b s + 1) (manyB b s + 1)) ∧ StrRow w' (some ⟨g, 0, none⟩) (cuts b (manyB b s) s) ∧ Below w.heap.size w w' := by
  obtain ⟨m, hm⟩ := hm
  refine (Tryz.strings_Split s ⟨#[b]⟩ m w (by omega) hm (Nat.le_refl 1)).mono ?_
  rintro e w' ⟨rfl, rfl⟩
  refine ⟨w.heap.size, rfl, fun hp => ⟨w.heap.size, rfl, by simp, fun i hi => ?_⟩, (Below.refl _ w).alloc (Nat.le_refl _) _⟩
  rw [World.cell?_alloc_new]
  show (((cuts b (manyB b s) s).map Value.string).toArray)[i]? = _
  rw [List.getElem?_toArray, List.getElem?_map, List.getElem?_eq_getElem hi, List.getD_eq_getElem?_getD, List.getElem?_eq_getElem hi]
  rfl
end Go.Proofs.YtjkimadnopeakaaGreatDoor

/- The contracts of Go's own library at this program: each is the kit's theorem, applied. -/
namespace Go.Proofs
open Go.Shelf
def Tryz.lays190_ren : Go.Shelf.Ren := ⟨fun | 190 => 157 | 125 => 166 | 258 => 165 | 128 => 180 | 129 => 181 | 302 => 171 | 303 => 172 | 304 => 173 | 305 => 174 | 306 => 175 | 307 => 176 | 308 => 177 | 309 => 178 | 310 => 179 | 333 => 186 | 329 => 187 | 330 => 188 | 334 => 189 | 335 => 190 | 336 => 191 | 344 => 197 | n => n, fun | 31 => 60 | 9 => 9 | 3 => 3 | 46 => 169 | 0 => 0 | 51 => 180 | 53 => 182 | 4 => 4 | 183 => 174 | 182 => 173 | 131 => 64 | 5 => 5 | 218 => 186 | 222 => 190 | 228 => 192 | 229 => 193 | n => n, fun | n => n⟩
theorem Tryz.lays190 : Go.Proofs.Lays.n190 Tryz.prog Tryz.lays190_ren := {
  mixed := by kernel_rfl
  f125 := Tryz.func166.trans (congrArg some (by kernel_rfl))
  f128 := Tryz.func180.trans (congrArg some (by kernel_rfl))
  f129 := Tryz.func181.trans (congrArg some (by kernel_rfl))
  f190 := Tryz.func157.trans (congrArg some (by kernel_rfl))
  f258 := Tryz.func165.trans (congrArg some (by kernel_rfl))
  f302 := Tryz.func171.trans (congrArg some (by kernel_rfl))
  f303 := Tryz.func172.trans (congrArg some (by kernel_rfl))
  f304 := Tryz.func173.trans (congrArg some (by kernel_rfl))
  f305 := Tryz.func174.trans (congrArg some (by kernel_rfl))
  f306 := Tryz.func175.trans (congrArg some (by kernel_rfl))
  f307 := Tryz.func176.trans (congrArg some (by kernel_rfl))
  f308 := Tryz.func177.trans (congrArg some (by kernel_rfl))
  f309 := Tryz.func178.trans (congrArg some (by kernel_rfl))
  f310 := Tryz.func179.trans (congrArg some (by kernel_rfl))
  f329 := Tryz.func187.trans (congrArg some (by kernel_rfl))
  f330 := Tryz.func188.trans (congrArg some (by kernel_rfl))
  f333 := Tryz.func186.trans (congrArg some (by kernel_rfl))
  f334 := Tryz.func189.trans (congrArg some (by kernel_rfl))
  f335 := Tryz.func190.trans (congrArg some (by kernel_rfl))
  f336 := Tryz.func191.trans (congrArg some (by kernel_rfl))
  f344 := Tryz.func197.trans (congrArg some (by kernel_rfl))
  t0 := Tryz.underlying0
  a0 := Tryz.isAgg0
  z0 := Tryz.sizeOf0
  v0 := Tryz.zeroValue0
  t3 := Tryz.underlying3
  a3 := Tryz.isAgg3
  z3 := Tryz.sizeOf3
  v3 := Tryz.zeroValue3
  t4 := Tryz.underlying4
  a4 := Tryz.isAgg4
  z4 := Tryz.sizeOf4
  v4 := Tryz.zeroValue4
  t5 := Tryz.underlying5
  a5 := Tryz.isAgg5
  z5 := Tryz.sizeOf5
  v5 := Tryz.zeroValue5
  t9 := Tryz.underlying9
  a9 := Tryz.isAgg9
  z9 := Tryz.sizeOf9
  v9 := Tryz.zeroValue9
  t31 := Tryz.underlying60
  a31 := Tryz.isAgg60
  z31 := Tryz.sizeOf60
  v31 := Tryz.zeroValue60
  t46 := Tryz.underlying169
  a46 := Tryz.isAgg169
  z46 := Tryz.sizeOf169
  v46 := Tryz.zeroValue169
  t51 := Tryz.underlying180
  a51 := Tryz.isAgg180
  z51 := Tryz.sizeOf180
  v51 := Tryz.zeroValue180
  t53 := Tryz.underlying182
  a53 := Tryz.isAgg182
  z53 := Tryz.sizeOf182
  v53 := Tryz.zeroValue182
  t131 := Tryz.underlying64
  a131 := Tryz.isAgg64
  z131 := Tryz.sizeOf64
  v131 := Tryz.zeroValue64
  t182 := Tryz.underlying173
  a182 := Tryz.isAgg173
  z182 := Tryz.sizeOf173
  v182 := Tryz.zeroValue173
  t183 := Tryz.underlying174
  a183 := Tryz.isAgg174
  z183 := Tryz.sizeOf174
  v183 := Tryz.zeroValue174
  t218 := Tryz.underlying186
  a218 := Tryz.isAgg186
  z218 := Tryz.sizeOf186
  v218 := Tryz.zeroValue186
  t222 := Tryz.underlying190
  a222 := Tryz.isAgg190
  z222 := Tryz.sizeOf190
  v222 := Tryz.zeroValue190
  t228 := Tryz.underlying192
  a228 := Tryz.isAgg192
  z228 := Tryz.sizeOf192
  v228 := Tryz.zeroValue192
  t229 := Tryz.underlying193
  a229 := Tryz.isAgg193
  z229 := Tryz.sizeOf193
  v229 := Tryz.zeroValue193 }
open Go.Sort Go.RowKit in
theorem Tryz.slices_Sort_string (blk off cap : Nat) (ss : List (List UInt8)) (w : World) (hH : Holds encStr w blk off ss.toArray) (hblk : blk < w.heap.size) (hsz : ss.length < 4611686018427387904) :
    Calls Tryz.prog 157 #[.slice (some ⟨blk, off, none⟩) ss.length cap] w fun e w' =>
      e = .returned (.tuple #[]) ∧ ∃ n os, w' = grow (putRow encStr (Sort.ahead w n) blk off (ss.mergeSort fun x y => decide (x ≤ y)).toArray) os := Any.slices_Sort_string Tryz.lays190 blk off cap ss w hH hblk hsz
def Tryz.lays194_ren : Go.Shelf.Ren := ⟨fun | 194 => 158 | n => n, fun | 31 => 60 | 9 => 9 | 3 => 3 | 4 => 4 | 0 => 0 | n => n, fun | n => n⟩
theorem Tryz.lays194 : Go.Proofs.Lays.n194 Tryz.prog Tryz.lays194_ren := {
  mixed := by kernel_rfl
  f194 := Tryz.func158.trans (congrArg some (by kernel_rfl))
  t0 := Tryz.underlying0
  a0 := Tryz.isAgg0
  z0 := Tryz.sizeOf0
  v0 := Tryz.zeroValue0
  t3 := Tryz.underlying3
  a3 := Tryz.isAgg3
  z3 := Tryz.sizeOf3
  v3 := Tryz.zeroValue3
  t4 := Tryz.underlying4
  a4 := Tryz.isAgg4
  z4 := Tryz.sizeOf4
  v4 := Tryz.zeroValue4
  t9 := Tryz.underlying9
  a9 := Tryz.isAgg9
  z9 := Tryz.sizeOf9
  v9 := Tryz.zeroValue9
  t31 := Tryz.underlying60
  a31 := Tryz.isAgg60
  z31 := Tryz.sizeOf60
  v31 := Tryz.zeroValue60 }
open Go.RowKit Go.Lib Go.Sort in
theorem Tryz.slices_Compact_string (blk off cap : Nat) (zs : List (List UInt8)) (w : World) (hH : Holds encStr w blk off zs.toArray) (hsz : zs.length ≤ 9223372036854775807) (hcap : zs.length ≤ cap) :
    Calls Tryz.prog 158 #[.slice (some ⟨blk, off, none⟩) zs.length cap] w fun e w' => e = .returned (.slice (some ⟨blk, off, none⟩) (Lib.compact zs).length cap) ∧ ∃ q, w' = putRow encStr (Sort.ahead w q) blk off (Lib.compact zs ++ List.replicate (zs.length - (Lib.compact zs).length) []).toArray := Any.slices_Compact_string Tryz.lays194 blk off cap zs w hH hsz hcap
open Go.RowKit Go.Lib Go.Sort in
theorem Tryz.slices_Compact_string_empty (a : Option Addr) (cap : Nat) (w : World) :
    Calls Tryz.prog 158 #[.slice a 0 cap] w fun e w' => e = .returned (.slice a 0 cap) ∧ w' = w := Any.slices_Compact_string_empty Tryz.lays194 a cap w
open Go.RowKit Go.Sort in
theorem Tryz.slices_Sort_string_none (p : Option Addr) (cap : Nat) (w : World) :
    Calls Tryz.prog 157 #[.slice p 0 cap] w fun e w' => e = .returned (.tuple #[]) ∧ w' = w := Any.slices_Sort_string_none Tryz.lays190 p cap w
end Go.Proofs

/- Slices of fields: how they are read, copied, held against each other. -/
namespace Go.Proofs.YtjkimadnopeakaaGreatDoor
open Go.RowKit

structure Fld where
  name : ByteArray
  kind : Int
  weight : Int
instance : Inhabited Fld := ⟨⟨⟨#[]⟩, 0, 0⟩⟩
def fat (fs : List Fld) (i : Nat) : Fld := fs.getD i default
theorem fat_get (fs : List Fld) (k : Nat) (h : k < fs.length) : fat fs k = fs[k] := by unfold fat; rw [List.getD_eq_getElem?_getD, List.getElem?_eq_getElem h]; rfl
def Fld.val (f : Fld) : Value := .agg #[.string f.name, .int .i64 f.kind, .int .i64 f.weight]
def Fld.cells (f : Fld) : List Value := [.string f.name, .int .i64 f.kind, .int .i64 f.weight]
def fldCells (fs : List Fld) : List Value := fs.flatMap Fld.cells
/-- A slice of fields, as it is read. -/
def FldRow (w : World) (a : Option Addr) (fs : List Fld) : Prop := 0 < fs.length → ∃ g off, a = some ⟨g, off, none⟩ ∧ g < w.heap.size ∧ ∀ i, i < fs.length →
  w.cell? ⟨g, off + i * 3, none⟩ = some (.string (fat fs i).name) ∧ w.cell? ⟨g, off + i * 3 + 1, none⟩ = some (.int .i64 (fat fs i).kind) ∧ w.cell? ⟨g, off + i * 3 + 2, none⟩ = some (.int .i64 (fat fs i).weight)
theorem FldRow.below {w w' : World} {a : Option Addr} {fs : List Fld} (h : FldRow w a fs) (hb : Below w.heap.size w w') : FldRow w' a fs := fun hp => by
  obtain ⟨g, off, e, hg, hc⟩ := h hp
  refine ⟨g, off, e, by have := hb.size; omega, fun i hi => ?_⟩
  obtain ⟨c0, c1, c2⟩ := hc i hi
  exact ⟨(hb.cell (p := ⟨g, off + i * 3, none⟩) hg).trans c0, (hb.cell (p := ⟨g, off + i * 3 + 1, none⟩) hg).trans c1, (hb.cell (p := ⟨g, off + i * 3 + 2, none⟩) hg).trans c2⟩

theorem toField_any (n : ByteArray) (k x : Int) (w : World) :
    Calls Tryz.prog 40 #[.agg #[.string n, .int .i64 k, .int .i64 x]] w fun e w' => e = .returned (.agg #[.string n, .int .i64 k, .int .i64 x]) ∧ Below w.heap.size w w' := by
  go_enter Tryz.func40, Tryz.ntmps40
  go_wp2
  exact bodyPost_ret (v := .agg #[.string n, .int .i64 k, .int .i64 x]) (by simp [results, Tryz.results40, go_sem]) rfl ⟨rfl, (((Below.refl _ w).alloc (Nat.le_refl _) _).alloc (by simp) _).alloc (by simp; omega) _⟩

theorem infoFld : (Tryz.prog.info? 72).map (fun i => (i.zero, i.size, i.bytes)) = some (some (.agg #[.string ⟨#[]⟩, .int .i64 0, .int .i64 0]), 3, 32) := by kernel_rfl

/-- The first k of a row's elements are these fields. -/
def FldTo (xs : List Value) (fs : List Fld) (k : Nat) : Prop := ∀ i, i < k → xs[i * 3]? = some (.string (fat fs i).name) ∧ xs[i * 3 + 1]? = some (.int .i64 (fat fs i).kind) ∧ xs[i * 3 + 2]? = some (.int .i64 (fat fs i).weight)
theorem FldTo.set {xs : List Value} {fs : List Fld} {k : Nat} (h : FldTo xs fs k) (hk : k * 3 + 2 < xs.length) :
    FldTo (((xs.set (k * 3) (.string (fat fs k).name)).set (k * 3 + 1) (.int .i64 (fat fs k).kind)).set (k * 3 + 2) (.int .i64 (fat fs k).weight)) fs (k + 1) := by
  intro i hi
  by_cases e : i = k
  · subst e
    refine ⟨?_, ?_, ?_⟩
    · rw [List.getElem?_set_ne (by omega), List.getElem?_set_ne (by omega), List.getElem?_set_self (by omega)]
    · rw [List.getElem?_set_ne (by omega), List.getElem?_set_self (by simp; omega)]
    · rw [List.getElem?_set_self (by simp; omega)]
  · obtain ⟨h0, h1, h2⟩ := h i (by omega)
    refine ⟨?_, ?_, ?_⟩
    · rw [List.getElem?_set_ne (by omega), List.getElem?_set_ne (by omega), List.getElem?_set_ne (by omega)]; exact h0
    · rw [List.getElem?_set_ne (by omega), List.getElem?_set_ne (by omega), List.getElem?_set_ne (by omega)]; exact h1
    · rw [List.getElem?_set_ne (by omega), List.getElem?_set_ne (by omega), List.getElem?_set_ne (by omega)]; exact h2
theorem owns_fldRow {w : World} {base : Nat} {e : TypeId} {v : Value} {fs : List Fld} {xs : List Value} (h : w.ownsRow base e 3 v fs.length xs) (ht : FldTo xs fs fs.length) :
    ∃ a cap, v = .slice a fs.length cap ∧ fs.length ≤ cap ∧ (a = none → cap = 0) ∧ FldRow w a fs := by
  have hx := h.1
  rcases h.2 with ⟨rfl, h0⟩ | ⟨g, cap, cur, rfl, hb, hg, hc, _⟩
  · exact ⟨none, 0, by rw [h0], by omega, fun _ => rfl, fun hp => by omega⟩
  · refine ⟨_, cap, rfl, hc, (fun h => by cases h), fun hp => ⟨g, 0, rfl, lt_of_block hg, fun i hi => ?_⟩⟩
    obtain ⟨h0, h1, h2⟩ := ht i hi
    refine ⟨?_, ?_, ?_⟩
    · rw [Nat.zero_add, h.cellAt _ (by omega)]; exact h0
    · rw [Nat.zero_add, h.cellAt _ (by omega)]; exact h1
    · rw [Nat.zero_add, h.cellAt _ (by omega)]; exact h2

set_option maxHeartbeats 1000000 in
theorem toFieldS_any (a : Option Addr) (cap : Nat) (fs : List Fld) (w : World) (hz : fs.length ≤ 1048576) (hr : FldRow w a fs) :
    Calls Tryz.prog 14 #[.slice a fs.length cap] w fun e w' => ∃ v xs, e = .returned v ∧ w'.ownsRow w.heap.size 72 3 v fs.length xs ∧ FldTo xs fs fs.length ∧ Below w.heap.size w w' := by
  obtain ⟨i0, hi, hz0, hz1, hz2⟩ := info_parts infoFld
  go_enter Tryz.func14, Tryz.ntmps14
  go_wp2_with (refine wpList_make_full _ rfl _ _ 33 rfl w.heap.size 72 i0 (.agg #[.string ⟨#[]⟩, .int .i64 0, .int .i64 0]) 3 Tryz.underlying33 hi hz0 hz1 .i64 .i64 _ _ fs.length rfl rfl rfl rfl (by rw [hz2]; omega) (by unfold maxLen; omega) (Nat.le_refl _) ?_; intro w1 hown1 hgrow1)
  have hb1 : Below w.heap.size w w1 := (Below.refl _ w).grown hgrow1 (Nat.le_refl _) (fun j hj => by cases hj)
  generalize (madeCells (Value.agg #[.string ⟨#[]⟩, .int .i64 0, .int .i64 0]).cells (fs.length * 3)).toList = x0 at hown1
  have HO : Hid (w1.ownsRow w.heap.size 72 3 (.slice (some ⟨w.heap.size, 0, none⟩) fs.length fs.length) fs.length x0) := hown1
  clear hown1 hgrow1
  go_wp2
  go_loopw [4] (fun i wr => ∃ (k : Nat) (xs : List Value), k ≤ fs.length ∧ i = .int .i64 k ∧ wr.ownsRow w.heap.size 72 3 (.slice (some ⟨w.heap.size, 0, none⟩) fs.length fs.length) fs.length xs ∧ FldTo xs fs k ∧ Below w.heap.size w wr) (fun i _ => fs.length - (intOf i).toNat)
  case atStart => exact ⟨0, x0, Nat.zero_le _, rfl, HO.out, fun i hi => by omega, hb1⟩
  case round =>
    clear HO
    obtain ⟨k, xs, hk, rfl, hown, hto, hbel⟩ := hrel
    by_cases hlt : k < fs.length
    · obtain ⟨g, off, rfl, hg, hc⟩ := (hr.below hbel) (by omega)
      obtain ⟨c0, c1, c2⟩ := hc k hlt
      have hxl := hown.1
      have HN : Hid (FldTo (((xs.set (k * 3) (.string (fat fs k).name)).set (k * 3 + 1) (.int .i64 (fat fs k).kind)).set (k * 3 + 2) (.int .i64 (fat fs k).weight)) fs (k + 1)) := hto.set (by omega)
      generalize (fat fs k).name = nm at *
      generalize (fat fs k).kind = kd at *
      generalize (fat fs k).weight = wt at *
      have HOW : Hid (wr.ownsRow w.heap.size 72 3 (.slice (some ⟨w.heap.size, 0, none⟩) fs.length fs.length) fs.length xs) := hown
      clear hr hc hto hown
      go_wp2_with fail
      refine (toField_any nm kd wt _).mono ?_
      rintro e w2 ⟨rfl, hb2⟩
      have ho2 := HOW.out.kept (grown_none hb2) (Classical.em _)
      obtain ⟨ho3, hg3⟩ := ho2.stored (k * 3) (.string nm)
      obtain ⟨ho4, hg4⟩ := ho3.stored (k * 3 + 1) (.int .i64 kd)
      obtain ⟨ho5, hg5⟩ := ho4.stored (k * 3 + 2) (.int .i64 wt)
      have d0 := ho2.cellAt (k * 3) (by omega)
      have d1 := ho2.cellAt (k * 3 + 1) (by omega)
      have d2 := ho2.cellAt (k * 3 + 2) (by omega)
      rw [List.getElem?_eq_getElem (by omega)] at d0 d1 d2
      have f0 := ho2.frozenAt (k * 3)
      have f1 := ho2.frozenAt (k * 3 + 1)
      have f2 := ho2.frozenAt (k * 3 + 2)
      generalize xs[k * 3] = o0 at d0
      generalize xs[k * 3 + 1] = o1 at d1
      generalize xs[k * 3 + 2] = o2 at d2
      have hb5 : Below w.heap.size w ((((w2.setCell ⟨w.heap.size, k * 3, none⟩ (.string nm)).setCell ⟨w.heap.size, k * 3 + 1, none⟩ (.int .i64 kd)).setCell ⟨w.heap.size, k * 3 + 2, none⟩ (.int .i64 wt))) :=
        (((hbel.trans (hb2.mono hbel.size)).setCell (Nat.le_refl _) _).setCell (Nat.le_refl _) _).setCell (Nat.le_refl _) _
      clear ho2 ho3 ho4 hg3 hg4 hg5 HOW
      have HO5 : Hid ((((w2.setCell ⟨w.heap.size, k * 3, none⟩ (.string nm)).setCell ⟨w.heap.size, k * 3 + 1, none⟩ (.int .i64 kd)).setCell ⟨w.heap.size, k * 3 + 2, none⟩ (.int .i64 wt)).ownsRow w.heap.size 72 3 (.slice (some ⟨w.heap.size, 0, none⟩) fs.length fs.length) fs.length (((xs.set (k * 3) (.string nm)).set (k * 3 + 1) (.int .i64 kd)).set (k * 3 + 2) (.int .i64 wt))) := ho5
      have HB5 : Hid (Below w.heap.size w ((((w2.setCell ⟨w.heap.size, k * 3, none⟩ (.string nm)).setCell ⟨w.heap.size, k * 3 + 1, none⟩ (.int .i64 kd)).setCell ⟨w.heap.size, k * 3 + 2, none⟩ (.int .i64 wt)))) := hb5
      clear ho5 hb5
      go_wp2
      go_roundw
      case rel => exact ⟨k + 1, _, by omega, by go_num, HO5.out, HN.out, HB5.out⟩
      case measure => simp [intOf]; omega
    · have hkl : k = fs.length := by omega
      subst hkl
      clear hr
      go_wp2
      go_ret
      exact ⟨_, xs, rfl, hown, hto, hbel⟩
end Go.Proofs.YtjkimadnopeakaaGreatDoor

/- spec.l1In. -/
namespace Go.Proofs.YtjkimadnopeakaaGreatDoor
open Go.RowKit

def inB (n a b : Int) : Bool := decide (a ≤ n) && decide (n ≤ b)
theorem l1In_any (n a b : Int) (w : World) :
    Calls Tryz.prog 99 #[.int .i64 n, .int .i64 a, .int .i64 b] w fun e w' => e = .returned (.bool (inB n a b)) ∧ w' = w := by
  by_cases h1 : a ≤ n <;> by_cases h2 : n ≤ b
  all_goals
    go_enter Tryz.func99, Tryz.ntmps99
    go_wp2
    go_ret
    exact ⟨by simp [inB, h1, h2], rfl⟩
end Go.Proofs.YtjkimadnopeakaaGreatDoor

/- Contracts of impl.NameOk and spec.NameOk. -/
namespace Go.Proofs.YtjkimadnopeakaaGreatDoor
open Go.RowKit

def okB (n : Int) : Bool := smallB n || figureB n
def nameI (s : ByteArray) : Bool := !s.toList.isEmpty && decide ((s.size : Int) ≤ 8) && !figureB (byteAt s 0) && allTo (fun j => okB (byteAt s j)) s.size

theorem toList_size (s : ByteArray) : s.toList.length = s.size := by rw [ByteArray.toList_eq]; simp
theorem isEmpty_size (s : ByteArray) (h : s.toList.isEmpty = false) : 0 < s.size := by
  rw [← toList_size]
  cases hs : s.toList with
  | nil => rw [hs] at h; simp at h
  | cons a b => simp

set_option maxHeartbeats 400000 in
theorem nameI_any (s : ByteArray) (w : World) (hs : s.size ≤ maxLen) :
    Calls Tryz.prog 105 #[.string s] w fun e w' => e = .returned (.bool (nameI s)) ∧ w = w' := by
  unfold maxLen at hs
  cases he : s.toList.isEmpty with
  | true =>
    go_enter Tryz.func105, Tryz.ntmps105
    go_wp2
    go_ret
    exact ⟨by simp [nameI, he], rfl⟩
  | false =>
    have hp := isEmpty_size s he
    by_cases h8 : 8 < (s.size : Int)
    · go_enter Tryz.func105, Tryz.ntmps105
      go_wp2
      go_ret
      exact ⟨ret_bool (by simp [nameI, he]; omega), rfl⟩
    · have h8' : (s.size : Int) ≤ 8 := by omega
      have hb0 := byteAt_eq s 0 hp
      cases hf : figureB ((s[0]'hp).toNat : Int) with
      | true =>
        clear hb0
        go_enter Tryz.func105, Tryz.ntmps105
        go_wp2_with (go_at_call 135; refine (isFigure_any _ _).mono ?_; rintro e w' ⟨rfl, rfl⟩)
        go_ret
        exact ⟨ret_bool (by simp [nameI, byteAt_eq s 0 hp, hf]), rfl⟩
      | false =>
        clear hb0
        go_enter Tryz.func105, Tryz.ntmps105
        go_wp2_with (go_at_call 135; refine (isFigure_any _ _).mono ?_; rintro e w' ⟨rfl, rfl⟩)
        go_loop [18] (fun i => ∃ k : Nat, k ≤ s.size ∧ i = .int .i64 k ∧ allTo (fun j => okB (byteAt s j)) k = true) (fun i => s.size - (intOf i).toNat)
        case atStart => exact ⟨0, Nat.zero_le _, rfl, rfl⟩
        case round =>
          obtain ⟨k, hk, rfl, ha⟩ := hrel
          by_cases hlt : k < s.size
          · cases h1 : smallB ((s[k]'hlt).toNat : Int) <;> cases h2 : figureB ((s[k]'hlt).toNat : Int)
            all_goals
              go_wp2_with (first | (go_at_call 136; refine (isSmall_any _ _).mono ?_; rintro e w' ⟨rfl, rfl⟩) | (go_at_call 135; refine (isFigure_any _ _).mono ?_; rintro e w' ⟨rfl, rfl⟩))
            · go_ret
              exact ⟨ret_bool (by rw [nameI, allTo_false _ _ k hlt (by simp [okB, byteAt_eq s k hlt, h1, h2])]; simp), rfl⟩
            all_goals
              go_round
              case rel => exact ⟨k + 1, by omega, by go_num, allTo_snoc _ _ ha (by simp [okB, byteAt_eq s k hlt, h1, h2])⟩
              case measure => simp [intOf]; omega
          · have hk' : k = s.size := by omega
            subst hk'
            go_wp2
            go_ret
            exact ⟨ret_bool (by simp [nameI, he, h8', byteAt_eq s 0 hp, hf, ha]), rfl⟩

def okS (s : ByteArray) (j : Nat) : Bool := smallB (byteAt s j) || ((j : Int) != 0 && figureB (byteAt s j))
def nameS (s : ByteArray) : Bool := allTo (okS s) s.size && inB s.size 1 8

set_option maxHeartbeats 400000 in
theorem nameS_any (s : ByteArray) (w : World) (hs : s.size ≤ maxLen) :
    Calls Tryz.prog 100 #[.string s] w fun e w' => e = .returned (.bool (nameS s)) ∧ w = w' := by
  unfold maxLen at hs
  go_enter Tryz.func100, Tryz.ntmps100
  go_wp2
  go_loop [3] (fun i => ∃ k : Nat, k ≤ s.size ∧ i = .int .i64 k ∧ allTo (okS s) k = true) (fun i => s.size - (intOf i).toNat)
  case atStart => exact ⟨0, Nat.zero_le _, rfl, rfl⟩
  case round =>
    obtain ⟨k, hk, rfl, ha⟩ := hrel
    by_cases hlt : k < s.size
    · have hb := byteAt_eq s k hlt
      have hbd := byteAt_bd s k
      rw [hb] at hbd
      have HB : Hid (byteAt s k = ((s[k]'hlt).toNat : Int)) := hb
      clear hb
      rcases (show (97 ≤ ((s[k]'hlt).toNat : Int) ∧ ((s[k]'hlt).toNat : Int) ≤ 122) ∨ (((s[k]'hlt).toNat : Int) < 97 ∧ k = 0) ∨ (122 < ((s[k]'hlt).toNat : Int) ∧ k = 0) ∨ (¬ k = 0 ∧ ((s[k]'hlt).toNat : Int) < 48) ∨ (¬ k = 0 ∧ 48 ≤ ((s[k]'hlt).toNat : Int) ∧ ((s[k]'hlt).toNat : Int) ≤ 57) ∨ (¬ k = 0 ∧ 57 < ((s[k]'hlt).toNat : Int) ∧ ((s[k]'hlt).toNat : Int) < 97) ∨ (¬ k = 0 ∧ 122 < ((s[k]'hlt).toNat : Int)) from by omega) with ⟨h1, h2⟩ | ⟨h1, rfl⟩ | ⟨h1, rfl⟩ | ⟨h0, h1⟩ | ⟨h0, h1, h2⟩ | ⟨h0, h1, h2⟩ | ⟨h0, h1⟩
      · go_wp2
        go_round
        case rel => exact ⟨k + 1, by omega, by go_num, allTo_snoc _ _ ha (by simp [okS, HB.out, smallB, h1, h2])⟩
        case measure => simp [intOf]; omega
      · go_wp2
        go_ret
        exact ⟨ret_bool (by rw [nameS, allTo_false _ _ 0 hlt (by simp [okS, HB.out, smallB]; omega)]; simp), rfl⟩
      · have d1 : decide (((s[0]'hlt).toNat : Int) ≤ 122) = false := by simp; omega
        go_wp2
        go_ret
        exact ⟨ret_bool (by rw [nameS, allTo_false _ _ 0 hlt (by simp [okS, HB.out, smallB]; omega)]; simp), rfl⟩
      · have d0 : ((k : Int) == 0) = false := by simp; omega
        go_wp2
        go_ret
        exact ⟨ret_bool (by rw [nameS, allTo_false _ _ k hlt (by simp [okS, HB.out, smallB, figureB]; omega)]; simp), rfl⟩
      · have d0 : ((k : Int) == 0) = false := by simp; omega
        have d2 : decide (((s[k]'hlt).toNat : Int) < 48) = false := by simp; omega
        have d3 : decide (57 < ((s[k]'hlt).toNat : Int)) = false := by simp; omega
        go_wp2
        go_round
        case rel => exact ⟨k + 1, by omega, by go_num, allTo_snoc _ _ ha (by simp [okS, HB.out, figureB, h1, h2, h0])⟩
        case measure => simp [intOf]; omega
      · have d0 : ((k : Int) == 0) = false := by simp; omega
        go_wp2
        go_ret
        exact ⟨ret_bool (by rw [nameS, allTo_false _ _ k hlt (by simp [okS, HB.out, smallB, figureB]; omega)]; simp), rfl⟩
      · have d0 : ((k : Int) == 0) = false := by simp; omega
        have d1 : decide (((s[k]'hlt).toNat : Int) ≤ 122) = false := by simp; omega
        have d3 : decide (57 < ((s[k]'hlt).toNat : Int)) = true := by simp; omega
        go_wp2
        go_ret
        exact ⟨ret_bool (by rw [nameS, allTo_false _ _ k hlt (by simp [okS, HB.out, smallB, figureB]; omega)]; simp), rfl⟩
    · have hk' : k = s.size := by omega
      subst hk'
      go_wp2_with (go_at_call 99; refine (l1In_any _ _ _ _).mono ?_; rintro e w' ⟨rfl, rfl⟩)
      go_ret
      exact ⟨ret_bool (by simp [nameS, ha]), rfl⟩
/-- Both answer the same. -/
theorem name_same (s : ByteArray) : nameI s = nameS s := by
  rw [Bool.eq_iff_iff]
  have hL := toList_size s
  simp only [nameI, nameS, inB, Bool.and_eq_true, allTo_iff, okB, okS, Bool.or_eq_true, decide_eq_true_eq, Bool.not_eq_true']
  constructor
  · rintro ⟨⟨⟨h1, h2⟩, h3⟩, h4⟩
    have := isEmpty_size s h1
    refine ⟨fun j hj => ?_, by omega, by omega⟩
    rcases h4 j hj with h | h
    · exact .inl h
    · by_cases e : j = 0
      · subst e; rw [h3] at h; cases h
      · exact .inr ⟨by simpa using e, h⟩
  · rintro ⟨h1, h2, h3⟩
    have hp : 0 < s.size := by omega
    have h0 := h1 0 hp
    simp only [Int.ofNat_zero, bne_self_eq_false, Bool.false_eq_true, false_and, or_false] at h0
    refine ⟨⟨⟨?_, by omega⟩, ?_⟩, fun j hj => ?_⟩
    · cases hs : s.toList with
      | nil => rw [hs] at hL; simp at hL; omega
      | cons a b => rfl
    · simp only [smallB, figureB, Bool.and_eq_true, decide_eq_true_eq] at h0 ⊢
      simp; omega
    · rcases h1 j hj with h | ⟨_, h⟩
      · exact .inl h
      · exact .inr h
end Go.Proofs.YtjkimadnopeakaaGreatDoor

/- A block of the call's own, with what it holds. -/
namespace Go.Proofs.YtjkimadnopeakaaGreatDoor
open Go.RowKit
theorem bcell {W w1 : World} (hb : Below W.heap.size W w1) : (∀ b o, b < W.heap.size → w1.cell? ⟨b, o, none⟩ = W.cell? ⟨b, o, none⟩) ∧ (∀ b o, b < W.heap.size → w1.frozen? ⟨b, o, none⟩ = W.frozen? ⟨b, o, none⟩) :=
  ⟨fun b o h => hb.cell (p := ⟨b, o, none⟩) h, fun b o h => hb.frozen (p := ⟨b, o, none⟩) h⟩
def Blk (w : World) (B : Nat) (C : Array Value) (t : TypeId) : Prop := w.heap[B]? = some (.cells C t (0, 0))
theorem Blk.new (w : World) (C : Array Value) (t : TypeId) : Blk (w.alloc (.cells C t)) w.heap.size C t := heap_alloc_new w _
theorem Blk.lt {w : World} {B : Nat} {C : Array Value} {t : TypeId} (h : Blk w B C t) : B < w.heap.size := lt_of_block h
theorem Blk.below {w w' : World} {B n : Nat} {C : Array Value} {t : TypeId} (h : Blk w B C t) (hb : Below n w w') (hn : B < n) : Blk w' B C t := (hb.block B hn).trans h
theorem Blk.cell {w : World} {B : Nat} {C : Array Value} {t : TypeId} (h : Blk w B C t) (j : Nat) : w.cell? ⟨B, j, none⟩ = C[j]? := by
  unfold Blk at h
  simp [World.cell?, h]
theorem Blk.frozen {w : World} {B : Nat} {C : Array Value} {t : TypeId} (h : Blk w B C t) (j : Nat) : w.frozen? ⟨B, j, none⟩ = false := by
  unfold Blk at h
  simp [World.frozen?, h]
theorem Blk.set {w : World} {B : Nat} {C : Array Value} {t : TypeId} (h : Blk w B C t) (j : Nat) (v : Value) : Blk (w.setCell ⟨B, j, none⟩ v) B (C.setIfInBounds j v) t := by
  unfold Blk at h ⊢
  simp only [World.setCell, Array.getElem?_modify, if_true, h]
  rfl
theorem Blk.alloc {w : World} {B : Nat} {C : Array Value} {t : TypeId} (h : Blk w B C t) (o : Obj) : Blk (w.alloc o) B C t := by
  have := h.lt
  unfold Blk at h ⊢
  rw [Below.heap_alloc w o B this]
  exact h
theorem Blk.other {w : World} {B : Nat} {C : Array Value} {t : TypeId} (h : Blk w B C t) {p : Addr} (hp : B ≠ p.block) (v : Value) : Blk (w.setCell p v) B C t := by
  unfold Blk at h ⊢
  rw [Below.heap_setCell _ _ _ _ hp]
  exact h
theorem Blk.over {w w0 w' : World} {B n : Nat} {C : Array Value} {t : TypeId} (h : Blk w B C t) (hb : Below n w0 w') (hn : B < n) (hh : w0.heap = w.heap) : Blk w' B C t := by
  refine (hb.block B hn).trans ?_
  rw [hh]
  exact h
theorem below_drew {n : Nat} {a b : World} (h : Below n a b) : Below n a b.drew := h.trans ⟨rfl, rfl, rfl, Nat.le_refl _, fun _ _ => rfl⟩
theorem Blk.grown {w w' : World} {B : Nat} {C : Array Value} {t : TypeId} {r : Option Nat} (h : Blk w B C t) (hg : w.grownBy w' r) (hn : some B ≠ r) : Blk w' B C t := (hg.block B h.lt hn).trans h
end Go.Proofs.YtjkimadnopeakaaGreatDoor

/- FieldsOk of the program and of the model: the parts. -/
namespace Go.Proofs.YtjkimadnopeakaaGreatDoor
open Go.RowKit

/-- A field's weight goes with its kind. -/
def wOk (k x : Int) : Bool := if k == 1 then decide (1 ≤ x) && decide (x ≤ 9) else if k == 2 then x == 0 else if k == 3 then x == 0 else false
theorem weightOk_any (n : ByteArray) (k x : Int) (w : World) :
    Calls Tryz.prog 106 #[.agg #[.string n, .int .i64 k, .int .i64 x]] w fun e w' => e = .returned (.bool (wOk k x)) ∧ Below w.heap.size w w' := by
  go_enter Tryz.func106, Tryz.ntmps106
  go_wp2
  all_goals
    go_ret
    refine ⟨ret_bool ?_, (Below.refl _ w).alloc (Nat.le_refl _) _⟩
    simp_all [wOk]
  all_goals omega

/-- None of the first k has the name. -/
def noneTo (fs : List Fld) (n : ByteArray) (k : Nat) : Bool := allTo (fun j => !((fat fs j).name.toList == n.toList)) k
theorem noneTo_snoc {fs : List Fld} {n : ByteArray} {k : Nat} (h : noneTo fs n k = true) (h2 : ((fat fs k).name.toList == n.toList) = false) : noneTo fs n (k + 1) = true := allTo_snoc _ k h (by simp [h2])
theorem noneTo_not {fs : List Fld} {n : ByteArray} {k j : Nat} (h : k < j) (h2 : ((fat fs k).name.toList == n.toList) = true) : noneTo fs n j = false := allTo_false _ _ k h (by simp [h2])
/-- The place of the first of a name, or -1. -/
def FPos (fs : List Fld) (n : ByteArray) (p : Int) : Prop := (∃ k : Nat, k < fs.length ∧ p = k ∧ ((fat fs k).name.toList == n.toList) = true ∧ noneTo fs n k = true) ∨ (p = -1 ∧ noneTo fs n fs.length = true)
/-- The first of a name, or nothing. -/
def FoundF (fs : List Fld) (n : ByteArray) (f : Fld) (b : Bool) : Prop := (b = true ∧ ∃ k : Nat, k < fs.length ∧ f = fat fs k ∧ ((fat fs k).name.toList == n.toList) = true ∧ noneTo fs n k = true) ∨ (b = false ∧ f = default ∧ noneTo fs n fs.length = true)

set_option maxHeartbeats 400000 in
theorem l2Field_any (a : Option Addr) (cap : Nat) (fs : List Fld) (n : ByteArray) (w : World) (hz : fs.length ≤ 1048576) (hr : FldRow w a fs) :
    Calls Tryz.prog 51 #[.slice a fs.length cap, .string n] w fun e w' => ∃ p : Int, e = .returned (.int .i64 p) ∧ FPos fs n p ∧ w' = w := by
  go_enter Tryz.func51, Tryz.ntmps51
  go_wp2
  go_loop [5] (fun i => ∃ k : Nat, k ≤ fs.length ∧ i = .int .i64 k ∧ noneTo fs n k = true) (fun i => fs.length - (intOf i).toNat)
  case atStart => exact ⟨0, Nat.zero_le _, rfl, rfl⟩
  case round =>
    obtain ⟨k, hk, rfl, hn⟩ := hrel
    have HN : Hid (noneTo fs n k = true) := hn
    clear hn
    by_cases hlt : k < fs.length
    · obtain ⟨g, off, rfl, hg, hc⟩ := hr (by omega)
      obtain ⟨c0, c1, c2⟩ := hc k hlt
      cases he : ((fat fs k).name.toList == n.toList) with
      | true =>
        have HF : Hid (FPos fs n k) := .inl ⟨k, hlt, rfl, he, HN.out⟩
        generalize (fat fs k).name = nm at *
        clear hr hc c1 c2
        go_wp2
        go_ret
        exact ⟨k, rfl, HF.out, rfl⟩
      | false =>
        have HS : Hid (noneTo fs n (k + 1) = true) := noneTo_snoc HN.out he
        generalize (fat fs k).name = nm at *
        clear hr hc c1 c2
        go_wp2
        go_round
        case rel => exact ⟨k + 1, by omega, by go_num, HS.out⟩
        case measure => simp [intOf]; omega
    · have hkl : k = fs.length := by omega
      subst hkl
      clear hr
      go_wp2
      go_ret
      exact ⟨-1, rfl, .inr ⟨rfl, HN.out⟩, rfl⟩

set_option maxHeartbeats 1000000 in
theorem fieldOf_any (a : Option Addr) (cap : Nat) (fs : List Fld) (n : ByteArray) (w : World) (hz : fs.length ≤ 1048576) (hr : FldRow w a fs) :
    Calls Tryz.prog 64 #[.slice a fs.length cap, .string n] w fun e w' => ∃ (f : Fld) (b : Bool), e = .returned (.tuple #[.agg #[.string f.name, .int .i64 f.kind, .int .i64 f.weight], .bool b]) ∧ FoundF fs n f b ∧ Below w.heap.size w w' := by
  have hb0 : Below w.heap.size w (w.alloc (.cells #[.string ⟨#[]⟩, .int .i64 0, .int .i64 0] 72)) := (Below.refl _ w).alloc (Nat.le_refl _) _
  have r0 := hr.below hb0
  have HB0 : Hid (Below w.heap.size w (w.alloc (.cells #[.string ⟨#[]⟩, .int .i64 0, .int .i64 0] 72))) := hb0
  clear hr hb0
  go_enter Tryz.func64, Tryz.ntmps64
  go_wp2
  go_loopw [10] (fun i wr => ∃ k : Nat, k ≤ fs.length ∧ i = .int .i64 k ∧ noneTo fs n k = true ∧ Below (w.alloc (.cells #[.string ⟨#[]⟩, .int .i64 0, .int .i64 0] 72)).heap.size (w.alloc (.cells #[.string ⟨#[]⟩, .int .i64 0, .int .i64 0] 72)) wr) (fun i _ => fs.length - (intOf i).toNat)
  case atStart => exact ⟨0, Nat.zero_le _, rfl, rfl, Below.refl _ _⟩
  case round =>
    obtain ⟨k, hk, rfl, hn, hbel⟩ := hrel
    have HN : Hid (noneTo fs n k = true) := hn
    clear hn
    have hblk : Blk wr w.heap.size #[.string ⟨#[]⟩, .int .i64 0, .int .i64 0] 72 := (Blk.new w _ _).below hbel (by simp)
    have d0 : wr.cell? ⟨w.heap.size, 0, none⟩ = some (.string ⟨#[]⟩) := hblk.cell 0
    have d1 : wr.cell? ⟨w.heap.size, 1, none⟩ = some (.int .i64 0) := hblk.cell 1
    have d2 : wr.cell? ⟨w.heap.size, 2, none⟩ = some (.int .i64 0) := hblk.cell 2
    have f0 := hblk.frozen 0
    have f1 := hblk.frozen 1
    have f2 := hblk.frozen 2
    clear hblk
    have hsz := hbel.size
    rw [World.size_alloc] at hsz
    have hsl : w.heap.size < wr.heap.size := by omega
    have hbw : Below w.heap.size w wr := HB0.out.trans (hbel.mono (by simp))
    by_cases hlt : k < fs.length
    · obtain ⟨g, off, rfl, hg, hc⟩ := (r0.below hbel) (by omega)
      obtain ⟨c0, c1, c2⟩ := hc k hlt
      cases he : ((fat fs k).name.toList == n.toList) with
      | true =>
        have HF : Hid (FoundF fs n (fat fs k) true) := .inl ⟨rfl, k, hlt, rfl, he, HN.out⟩
        generalize fat fs k = fd at *
        obtain ⟨nm, kd, wt⟩ := fd
        simp only at c0 c1 c2 he
        clear r0 hc HB0 HN
        go_wp2
        refine bodyPost_ret (v := .tuple #[.agg #[.string nm, .int .i64 kd, .int .i64 wt], .bool true]) (by simp [results, Tryz.results64, go_sem, d0, d1, d2, hsl]) rfl ⟨⟨nm, kd, wt⟩, true, rfl, HF.out, ?_⟩
        exact (((hbw.setCell (Nat.le_refl _) _).setCell (Nat.le_refl _) _).setCell (Nat.le_refl _) _).alloc (by simp; omega) _
      | false =>
        have HS : Hid (noneTo fs n (k + 1) = true) := noneTo_snoc HN.out he
        generalize fat fs k = fd at *
        obtain ⟨nm, kd, wt⟩ := fd
        simp only at c0 c1 c2 he
        clear r0 hc HB0 HN
        go_wp2
        go_roundw
        case rel => exact ⟨k + 1, by omega, by go_num, HS.out, hbel.alloc (by simp; omega) _⟩
        case measure => simp [intOf]; omega
    · have hkl : k = fs.length := by omega
      subst hkl
      clear r0 HB0
      go_wp2
      refine bodyPost_ret (v := .tuple #[.agg #[.string ⟨#[]⟩, .int .i64 0, .int .i64 0], .bool false]) (by simp [results, Tryz.results64, go_sem, d0, d1, d2]) rfl ⟨⟨⟨#[]⟩, 0, 0⟩, false, rfl, .inr ⟨rfl, rfl, HN.out⟩, ?_⟩
      exact ((hbw.setCell (Nat.le_refl _) _).setCell (Nat.le_refl _) _).setCell (Nat.le_refl _) _
end Go.Proofs.YtjkimadnopeakaaGreatDoor

/- FieldsOk of the program and of the model. -/
namespace Go.Proofs.YtjkimadnopeakaaGreatDoor
open Go.RowKit

theorem allTo_congr {f g : Nat → Bool} {k : Nat} (h : ∀ j, j < k → f j = g j) : allTo f k = allTo g k := by
  induction k with
  | zero => rfl
  | succ k ih => simp only [allTo]; rw [ih (fun j hj => h j (by omega)), h k (by omega)]
theorem fat_take (fs : List Fld) (k j : Nat) (h : j < k) (hk : k ≤ fs.length) : fat (fs.take k) j = fat fs j := by
  rw [fat_get _ _ (by simp; omega), fat_get _ _ (by omega)]
  simp
theorem noneTo_take (fs : List Fld) (n : ByteArray) (k : Nat) (hk : k ≤ fs.length) : noneTo (fs.take k) n k = noneTo fs n k := allTo_congr fun j hj => by rw [fat_take fs k j hj hk]
theorem FldRow.take {w : World} {a : Option Addr} {fs : List Fld} (h : FldRow w a fs) (k : Nat) (hk : k ≤ fs.length) : FldRow w a (fs.take k) := fun hp => by
  have hl : (fs.take k).length = k := by simp; omega
  rw [hl] at hp
  obtain ⟨g, off, e, hg, hc⟩ := h (by omega)
  refine ⟨g, off, e, hg, fun i hi => ?_⟩
  rw [hl] at hi
  rw [fat_take fs k i hi hk]
  exact hc i (by omega)
theorem fieldOf_to (a : Option Addr) (cap : Nat) (fs : List Fld) (n : ByteArray) (k : Nat) (w : World) (hk : k ≤ fs.length) (hz : fs.length ≤ 1048576) (hr : FldRow w a fs) :
    Calls Tryz.prog 64 #[.slice a k cap, .string n] w fun e w' => ∃ (f : Fld), e = .returned (.tuple #[.agg #[.string f.name, .int .i64 f.kind, .int .i64 f.weight], .bool (!noneTo fs n k)]) ∧ Below w.heap.size w w' := by
  have hl : (fs.take k).length = k := by simp; omega
  have h := fieldOf_any a cap (fs.take k) n w (by rw [hl]; omega) (hr.take k hk)
  rw [hl] at h
  refine h.mono ?_
  rintro e w' ⟨f, b, rfl, hf, hb⟩
  refine ⟨f, ?_, hb⟩
  have e2 : b = !noneTo fs n k := by
    rcases hf with ⟨rfl, j, hj, _, h2, _⟩ | ⟨rfl, _, h2⟩
    · rw [hl] at hj
      rw [fat_take fs k j hj hk] at h2
      rw [noneTo_not hj h2]
      rfl
    · rw [hl, noneTo_take fs n k hk] at h2
      rw [h2]
      rfl
  rw [e2]

def fldOk (fs : List Fld) (i : Nat) : Bool := noneTo fs (fat fs i).name i && nameI (fat fs i).name && wOk (fat fs i).kind (fat fs i).weight
def fieldsB (fs : List Fld) : Bool := decide (1 ≤ fs.length) && decide (fs.length ≤ 4) && allTo (fldOk fs) fs.length
theorem fieldsB_no (fs : List Fld) (k : Nat) (h : k < fs.length) (hf : fldOk fs k = false) : fieldsB fs = false := by
  unfold fieldsB
  rw [allTo_false _ _ k h hf]
  simp
def FldsSmall (fs : List Fld) : Prop := ∀ i, i < fs.length → (fat fs i).name.size ≤ 1048576

set_option maxHeartbeats 2000000 in
theorem fieldsI_any (a : Option Addr) (cap : Nat) (fs : List Fld) (w : World) (hz : fs.length ≤ 1048576) (hcap : fs.length ≤ cap) (hsm : FldsSmall fs) (hr : FldRow w a fs) :
    Calls Tryz.prog 61 #[.slice a fs.length cap] w fun e w' => e = .returned (.bool (fieldsB fs)) ∧ Below w.heap.size w w' := by
  by_cases h0 : fs.length = 0
  · have HB : Hid (fieldsB fs = false) := by unfold Hid fieldsB; simp [h0]
    have d0 : ((fs.length : Int) == 0) = true := by simp [h0]
    clear hr hsm h0
    go_enter Tryz.func61, Tryz.ntmps61
    go_wp2
    go_ret
    exact ⟨ret_bool HB.out.symm, Below.refl _ _⟩
  have d0 : ((fs.length : Int) == 0) = false := by rw [beq_eq_false_iff_ne]; omega
  by_cases h4 : 4 < (fs.length : Int)
  · have HB : Hid (fieldsB fs = false) := by unfold Hid fieldsB; rw [show decide (fs.length ≤ 4) = false from by simp; omega]; simp
    clear hr hsm h0
    go_enter Tryz.func61, Tryz.ntmps61
    go_wp2
    go_ret
    exact ⟨ret_bool HB.out.symm, Below.refl _ _⟩
  have d4 : decide (4 < (fs.length : Int)) = false := by simpa using h4
  go_enter Tryz.func61, Tryz.ntmps61
  go_wp2
  go_loopw [17] (fun i wr => ∃ k : Nat, k ≤ fs.length ∧ i = .int .i64 k ∧ allTo (fldOk fs) k = true ∧ Below w.heap.size w wr) (fun i _ => fs.length - (intOf i).toNat)
  case atStart => exact ⟨0, Nat.zero_le _, rfl, rfl, Below.refl _ _⟩
  case round =>
    obtain ⟨k, hk, rfl, ha, hbel⟩ := hrel
    have HA : Hid (allTo (fldOk fs) k = true) := ha
    clear ha
    have hsz := hbel.size
    by_cases hlt : k < fs.length
    · have hki : (k : Int) ≤ (cap : Int) := by omega
      have hkl : (k : Int) < (fs.length : Int) := by omega
      have r1 := hr.below hbel
      obtain ⟨g, off, rfl, hg, hc⟩ := r1 (by omega)
      obtain ⟨c0, c1, c2⟩ := hc k hlt
      have hs := hsm k hlt
      have HNO : Hid (fldOk fs k = false → fieldsB fs = false) := fieldsB_no fs k hlt
      have HFO : Hid (fldOk fs k = (noneTo fs (fat fs k).name k && nameI (fat fs k).name && wOk (fat fs k).kind (fat fs k).weight)) := rfl
      generalize fat fs k = fd at *
      obtain ⟨nm, kd, wt⟩ := fd
      simp only at c0 c1 c2 hs HFO
      have r2 := r1.below ((Below.refl _ wr).alloc (Nat.le_refl _) (.cells #[.string nm, .int .i64 kd, .int .i64 wt] 72))
      clear hr hc hsm r1 h0 h4
      have r3 := r2.below ((Below.refl _ _).alloc (Nat.le_refl _) (.cells #[.string ⟨#[]⟩, .int .i64 0, .int .i64 0] 72))
      have hbW : Below w.heap.size w (wr.alloc (.cells #[.string nm, .int .i64 kd, .int .i64 wt] 72)) := hbel.alloc hsz _
      have B1 : Blk (wr.alloc (.cells #[.string nm, .int .i64 kd, .int .i64 wt] 72)) wr.heap.size #[.string nm, .int .i64 kd, .int .i64 wt] 72 := Blk.new _ _ _
      go_wp2
      go_cut [6] (fun tw wx => tw = .bool (!noneTo fs nm k) ∧ Blk wx wr.heap.size #[.string nm, .int .i64 kd, .int .i64 wt] 72 ∧ Below w.heap.size w wx)
      case first =>
        go_region_with (go_at_call 64; refine (fieldOf_to (some ⟨g, off, none⟩) cap fs nm k _ (by omega) (by omega) (by first | exact r2 | exact r3)).mono ?_; rintro e w2 ⟨f2, rfl, hb2⟩; obtain ⟨hcl, hfz⟩ := bcell hb2; have hz2 : wr.heap.size + 1 ≤ w2.heap.size := by have := hb2.size; simp at this; omega)
        all_goals
          go_wp2_with fail
          go_meet
          case rel =>
            refine ⟨rfl, ?_, ?_⟩
            · first
              | exact (B1.over hb2 (by simp) rfl).alloc _
              | exact ((((B1.alloc _).over hb2 (by simp; omega) rfl).other (Nat.ne_of_lt (Nat.lt_succ_self _)) _).other (Nat.ne_of_lt (Nat.lt_succ_self _)) _).other (Nat.ne_of_lt (Nat.lt_succ_self _)) _
            · first
              | exact ((below_drew hbW).trans (hb2.mono (by simp; omega))).alloc (by omega) _
              | exact ((((below_drew (hbW.alloc (by simp; omega) _)).trans (hb2.mono (by simp; omega))).setCell (Nat.le_succ_of_le hsz) _).setCell (Nat.le_succ_of_le hsz) _).setCell (Nat.le_succ_of_le hsz) _
      case rest =>
        obtain ⟨rfl, hblk, hbx⟩ := hcut
        have e0 : wc.cell? ⟨wr.heap.size, 0, none⟩ = some (.string nm) := hblk.cell 0
        have e1 : wc.cell? ⟨wr.heap.size, 1, none⟩ = some (.int .i64 kd) := hblk.cell 1
        have e2 : wc.cell? ⟨wr.heap.size, 2, none⟩ = some (.int .i64 wt) := hblk.cell 2
        have hlx := hblk.lt
        clear r2 r3 hbW B1 hblk c0 c1 c2 hbel
        cases h1 : noneTo fs nm k with
        | false =>
          have hb : Hid (fieldsB fs = false) := HNO.out (by rw [HFO.out, h1]; rfl)
          go_wp2
          go_ret
          exact ⟨ret_bool hb.out.symm, hbx⟩
        | true =>
          go_wp2_with fail
          refine (nameI_any nm _ (by unfold maxLen; omega)).mono ?_
          rintro e w3 ⟨rfl, rfl⟩
          cases h2 : nameI nm with
          | false =>
            have hb : Hid (fieldsB fs = false) := HNO.out (by rw [HFO.out, h1, h2]; rfl)
            go_wp2
            go_ret
            exact ⟨ret_bool hb.out.symm, hbx⟩
          | true =>
            go_wp2_with fail
            refine (weightOk_any nm kd wt _).mono ?_
            rintro e w4 ⟨rfl, hb4⟩
            have hbx4 : Below w.heap.size w w4 := hbx.trans (hb4.mono hbx.size)
            clear e0 e1 e2
            cases h3 : wOk kd wt with
            | false =>
              have hb : Hid (fieldsB fs = false) := HNO.out (by rw [HFO.out, h1, h2, h3]; rfl)
              go_wp2
              go_ret
              exact ⟨ret_bool hb.out.symm, hbx4⟩
            | true =>
              have HS : Hid (allTo (fldOk fs) (k + 1) = true) := allTo_snoc _ k HA.out (by rw [HFO.out, h1, h2, h3]; rfl)
              go_wp2
              go_roundw
              case rel => exact ⟨k + 1, by omega, by go_num, HS.out, hbx4⟩
              case measure => simp [intOf]; omega
    · have hkl : k = fs.length := by omega
      subst hkl
      have HB : Hid (fieldsB fs = true) := by unfold Hid fieldsB; rw [HA.out]; simp; omega
      clear hr hsm
      go_wp2
      go_ret
      exact ⟨ret_bool HB.out.symm, hbel⟩
end Go.Proofs.YtjkimadnopeakaaGreatDoor

/- FieldsOk of the model; how great fields are; two slices of the same fields are the same. -/
namespace Go.Proofs.YtjkimadnopeakaaGreatDoor
open Go.RowKit

theorem wOk_ways (kd wt : Int) :
    ((kd == 1) = true ∧ inB wt 1 9 = true ∧ inB kd 2 3 = false ∧ wOk kd wt = true) ∨ ((kd == 1) = true ∧ inB wt 1 9 = false ∧ inB kd 2 3 = false ∧ wOk kd wt = false) ∨
    ((kd == 1) = false ∧ inB kd 2 3 = true ∧ (wt == 0) = true ∧ wOk kd wt = true) ∨ ((kd == 1) = false ∧ inB kd 2 3 = true ∧ (wt == 0) = false ∧ wOk kd wt = false) ∨
    ((kd == 1) = false ∧ inB kd 2 3 = false ∧ wOk kd wt = false) := by
  by_cases h1 : kd = 1
  · subst h1
    by_cases h2 : 1 ≤ wt ∧ wt ≤ 9
    · exact .inl ⟨rfl, by simp [inB, h2], rfl, by simp [wOk, h2]⟩
    · refine .inr (.inl ⟨rfl, ?_, rfl, ?_⟩)
      · simp [inB]; omega
      · simp [wOk]; omega
  · have e1 : (kd == 1) = false := by simpa using h1
    by_cases h2 : kd = 2 ∨ kd = 3
    · have e2 : inB kd 2 3 = true := by simp [inB]; omega
      by_cases h3 : wt = 0
      · refine .inr (.inr (.inl ⟨e1, e2, by simpa using h3, ?_⟩))
        rcases h2 with rfl | rfl <;> simp [wOk, h3]
      · refine .inr (.inr (.inr (.inl ⟨e1, e2, by simpa using h3, ?_⟩)))
        rcases h2 with rfl | rfl <;> simp [wOk, h3]
    · have n2 : kd ≠ 2 := fun h => h2 (.inl h)
      have n3 : kd ≠ 3 := fun h => h2 (.inr h)
      refine .inr (.inr (.inr (.inr ⟨e1, ?_, ?_⟩)))
      · simp [inB]; omega
      · simp [wOk, h1, n2, n3]
theorem fpos_at (fs : List Fld) (k : Nat) (p : Int) (h : FPos fs (fat fs k).name p) (hk : k < fs.length) : (p != (k : Int)) = !noneTo fs (fat fs k).name k := by
  rcases h with ⟨j, hj, rfl, h1, h2⟩ | ⟨rfl, h2⟩
  · rcases Nat.lt_trichotomy j k with h | h | h
    · rw [noneTo_not h h1]
      have : (j : Int) ≠ (k : Int) := by omega
      simp [this]
    · subst h
      rw [h2]
      simp
    · rw [noneTo_not h (by simp)] at h2
      cases h2
  · rw [noneTo_not hk (by simp)] at h2
    cases h2

set_option maxHeartbeats 2000000 in
theorem fieldsS_any (a : Option Addr) (cap : Nat) (fs : List Fld) (w : World) (hz : fs.length ≤ 1048576) (hsm : FldsSmall fs) (hr : FldRow w a fs) :
    Calls Tryz.prog 53 #[.slice a fs.length cap] w fun e w' => e = .returned (.bool (fieldsB fs)) ∧ Below w.heap.size w w' := by
  go_enter Tryz.func53, Tryz.ntmps53
  go_wp2
  go_loopw [3] (fun i wr => ∃ k : Nat, k ≤ fs.length ∧ i = .int .i64 k ∧ allTo (fldOk fs) k = true ∧ Below w.heap.size w wr) (fun i _ => fs.length - (intOf i).toNat)
  case atStart => exact ⟨0, Nat.zero_le _, rfl, rfl, Below.refl _ _⟩
  case round =>
    obtain ⟨k, hk, rfl, ha, hbel⟩ := hrel
    have HA : Hid (allTo (fldOk fs) k = true) := ha
    clear ha
    have hsz := hbel.size
    by_cases hlt : k < fs.length
    · have hkl : (k : Int) < (fs.length : Int) := by omega
      have r1 := hr.below hbel
      obtain ⟨g, off, rfl, hg, hc⟩ := r1 (by omega)
      obtain ⟨c0, c1, c2⟩ := hc k hlt
      have hs := hsm k hlt
      have HNO : Hid (fldOk fs k = false → fieldsB fs = false) := fieldsB_no fs k hlt
      have HFO : Hid (fldOk fs k = (noneTo fs (fat fs k).name k && nameI (fat fs k).name && wOk (fat fs k).kind (fat fs k).weight)) := rfl
      have HFP : Hid (∀ p, FPos fs (fat fs k).name p → (p != (k : Int)) = !noneTo fs (fat fs k).name k) := fun p h => fpos_at fs k p h hlt
      generalize fat fs k = fd at *
      obtain ⟨nm, kd, wt⟩ := fd
      simp only at c0 c1 c2 hs HFO HFP
      have r2 := r1.below ((Below.refl _ wr).alloc (Nat.le_refl _) (.cells #[.string nm, .int .i64 kd, .int .i64 wt] 72))
      have hb2 : Below w.heap.size w (wr.alloc (.cells #[.string nm, .int .i64 kd, .int .i64 wt] 72)) := hbel.alloc hsz _
      clear hr hc hsm r1
      have hnm := name_same nm
      have HNM : Hid (nameI nm = nameS nm) := hnm
      clear hnm
      rcases wOk_ways kd wt with ⟨w1, w2, w3, w4⟩ | ⟨w1, w2, w3, w4⟩ | ⟨w1, w2, w3, w4⟩ | ⟨w1, w2, w3, w4⟩ | ⟨w1, w2, w4⟩
      all_goals
        have HW := w4
        have HW4 : Hid (wOk kd wt = _) := HW
        clear HW w4
        go_wp2_with (go_at_call 99; refine (l1In_any _ _ _ _).mono ?_; rintro e w5 ⟨rfl, rfl⟩)
        refine (nameS_any nm _ (by unfold maxLen; omega)).mono ?_
        rintro e w5 ⟨rfl, rfl⟩
        cases h2 : nameS nm with
        | false =>
          have hb : Hid (fieldsB fs = false) := HNO.out (by rw [HFO.out, HNM.out, h2]; simp)
          go_wp2
          go_ret
          exact ⟨ret_bool hb.out.symm, hb2⟩
        | true =>
          go_wp2_with fail
          refine (l2Field_any (some ⟨g, off, none⟩) cap fs nm _ (by omega) r2).mono ?_
          rintro e w5 ⟨p, rfl, hp, rfl⟩
          have hpe := HFP.out p hp
          clear r2 hp
          cases h1 : noneTo fs nm k with
          | false =>
            have hb : Hid (fieldsB fs = false) := HNO.out (by rw [HFO.out, h1]; rfl)
            rw [h1] at hpe
            go_wp2
            go_ret
            exact ⟨ret_bool hb.out.symm, hb2⟩
          | true =>
            rw [h1] at hpe
            first
            | (have HS : Hid (allTo (fldOk fs) (k + 1) = true) := allTo_snoc _ k HA.out (by rw [HFO.out, HNM.out, h1, h2, HW4.out]; rfl)
               go_wp2
               go_roundw
               case rel => exact ⟨k + 1, by omega, by go_num, HS.out, hb2⟩
               case measure => simp [intOf]; omega)
            | (have hb : Hid (fieldsB fs = false) := HNO.out (by rw [HFO.out, HW4.out]; simp)
               go_wp2
               go_ret
               exact ⟨ret_bool hb.out.symm, hb2⟩)
    · have hkl : k = fs.length := by omega
      subst hkl
      have HB : Hid (fieldsB fs = inB fs.length 1 4) := by
        unfold Hid fieldsB inB
        rw [HA.out, Bool.and_true]
        congr 1
        · exact decide_eq_decide.2 (by omega)
        · exact decide_eq_decide.2 (by omega)
      clear hr hsm
      go_wp2_with (go_at_call 99; refine (l1In_any _ _ _ _).mono ?_; rintro e w5 ⟨rfl, rfl⟩)
      go_ret
      exact ⟨ret_bool HB.out.symm, hbel⟩

theorem szField_any (n : ByteArray) (k x : Int) (left : Int) (w : World) (hn : n.size ≤ maxLen) (h0 : 0 ≤ left) (h1 : left ≤ 1048576) :
    Calls Tryz.prog 36 #[.agg #[.string n, .int .i64 k, .int .i64 x], .int .i64 left] w fun e w' => ∃ r : Int, e = .returned (.int .i64 r) ∧ r ≤ left ∧ (0 ≤ r → (n.size : Int) ≤ left) ∧ Below w.heap.size w w' := by
  unfold maxLen at hn
  by_cases hlt : left - (n.size : Int) < 0
  · go_enter Tryz.func36, Tryz.ntmps36
    go_wp2
    go_ret
    exact ⟨-1, rfl, by omega, fun h => by omega, (Below.refl _ w).alloc (Nat.le_refl _) _⟩
  · have hd : decide (left - (n.size : Int) < 0) = false := by simpa using hlt
    go_enter Tryz.func36, Tryz.ntmps36
    go_wp2
    go_ret
    exact ⟨left - n.size, rfl, by omega, fun h => by omega, (Below.refl _ w).alloc (Nat.le_refl _) _⟩

set_option maxHeartbeats 1000000 in
theorem szFieldS_any (a : Option Addr) (cap : Nat) (fs : List Fld) (w : World) (hz : fs.length ≤ maxLen) (hsm : ∀ i, i < fs.length → (fat fs i).name.size ≤ maxLen) (hr : FldRow w a fs) :
    Calls Tryz.prog 10 #[.slice a fs.length cap, .int .i64 1048576] w fun e w' => ∃ r : Int, e = .returned (.int .i64 r) ∧ (0 ≤ r → fs.length ≤ 1048576 ∧ FldsSmall fs) ∧ Below w.heap.size w w' := by
  unfold maxLen at hz
  by_cases hbig : 1048576 - (fs.length : Int) < 0
  · clear hr hsm
    go_enter Tryz.func10, Tryz.ntmps10
    go_wp2
    go_ret
    exact ⟨-1, rfl, fun h => by omega, Below.refl _ _⟩
  have hbd : decide (1048576 - (fs.length : Int) < 0) = false := by simpa using hbig
  go_enter Tryz.func10, Tryz.ntmps10
  go_wp2
  go_loopw [1, 5] (fun l i wr => ∃ (k : Nat) (left : Int), k ≤ fs.length ∧ i = .int .i64 k ∧ l = .int .i64 left ∧ 0 ≤ left ∧ left ≤ 1048576 ∧ (∀ j, j < k → (fat fs j).name.size ≤ 1048576) ∧ Below w.heap.size w wr) (fun _ i _ => fs.length - (intOf i).toNat)
  case atStart => exact ⟨0, 1048576 - fs.length, Nat.zero_le _, rfl, rfl, by omega, by omega, fun j hj => by omega, Below.refl _ _⟩
  case round =>
    obtain ⟨k, left, hk, rfl, rfl, hl0, hl1, hj, hbel⟩ := hrel
    have HJ : Hid (∀ j, j < k → (fat fs j).name.size ≤ 1048576) := hj
    clear hj
    by_cases hlt : k < fs.length
    · have hkl : (k : Int) < (fs.length : Int) := by omega
      obtain ⟨g, off, rfl, hg, hc⟩ := (hr.below hbel) (by omega)
      obtain ⟨c0, c1, c2⟩ := hc k hlt
      have hs := hsm k hlt
      have HJK : Hid ((fat fs k).name.size ≤ 1048576 → ∀ j, j < k + 1 → (fat fs j).name.size ≤ 1048576) := fun h j hj => by
        by_cases e : j = k
        · subst e; exact h
        · exact HJ.out j (by omega)
      generalize fat fs k = fd at *
      obtain ⟨nm, kd, wt⟩ := fd
      simp only at c0 c1 c2 hs HJK
      clear hr hc hsm
      go_wp2_with fail
      refine (szField_any nm kd wt left _ hs hl0 hl1).mono ?_
      rintro e w2 ⟨r, rfl, hr1, hr2, hb2⟩
      have hb3 := hbel.trans (hb2.mono hbel.size)
      clear c0 c1 c2
      by_cases hneg : r < 0
      · go_wp2
        go_ret
        exact ⟨-1, rfl, fun h => by omega, hb3⟩
      · have hnd : decide (r < 0) = false := by simpa using hneg
        go_wp2
        go_roundw
        case rel => exact ⟨k + 1, r, by omega, by go_num, rfl, by omega, by omega, HJK.out (by have := hr2 (by omega); omega), hb3⟩
        case measure => simp [intOf]; omega
    · have hkl : k = fs.length := by omega
      subst hkl
      clear hr hsm
      go_wp2
      go_ret
      exact ⟨left, rfl, fun _ => ⟨by omega, HJ.out⟩, hbel⟩

theorem eqField_same (t : ByteArray) (x y : Int) (w : World) :
    Calls Tryz.prog 44 #[.agg #[.string t, .int .i64 x, .int .i64 y], .agg #[.string t, .int .i64 x, .int .i64 y]] w fun e w' => e = .returned (.bool true) ∧ Below w.heap.size w w' := by
  go_enter Tryz.func44, Tryz.ntmps44
  go_wp2
  go_ret
  exact ⟨rfl, ((Below.refl _ w).alloc (Nat.le_refl _) _).alloc (by simp) _⟩

set_option maxHeartbeats 1000000 in
theorem eqFieldS_same (a b : Option Addr) (ca cb : Nat) (fs : List Fld) (w : World) (hl : fs.length ≤ 1099511627) (ha : FldRow w a fs) (hb : FldRow w b fs) :
    Calls Tryz.prog 18 #[.slice a fs.length ca, .slice b fs.length cb] w fun e w' => e = .returned (.bool true) ∧ Below w.heap.size w w' := by
  go_enter Tryz.func18, Tryz.ntmps18
  go_wp2
  go_loopw [5] (fun i wr => ∃ k : Nat, k ≤ fs.length ∧ i = .int .i64 k ∧ Below w.heap.size w wr) (fun i _ => fs.length - (intOf i).toNat)
  case atStart => exact ⟨0, Nat.zero_le _, rfl, Below.refl _ _⟩
  case round =>
    obtain ⟨k, hk, rfl, hbel⟩ := hrel
    by_cases hlt : k < fs.length
    · obtain ⟨g1, o1, rfl, hg1, hc1⟩ := (ha.below hbel) (by omega)
      obtain ⟨g2, o2, rfl, hg2, hc2⟩ := (hb.below hbel) (by omega)
      obtain ⟨r0, r1, r2⟩ := hc1 k hlt
      obtain ⟨s0, s1, s2⟩ := hc2 k hlt
      clear ha hb hc1 hc2
      generalize fat fs k = fd at *
      obtain ⟨t, x, y⟩ := fd
      simp only at r0 r1 r2 s0 s1 s2
      go_wp2
      go_region_with (go_at_call 44; refine (eqField_same t x y _).mono ?_; rintro e w2 ⟨rfl, hb2d⟩; have hb2 : Below wr.heap.size wr w2 := ⟨hb2d.os, hb2d.tape, hb2d.output, hb2d.size, hb2d.block⟩; clear hb2d)
      all_goals
        go_wp2
        go_roundw
        case rel => exact ⟨k + 1, by omega, by go_num, hbel.trans (hb2.mono hbel.size)⟩
        case measure => simp [intOf]; omega
    · clear ha hb
      go_wp2
      go_ret
      exact ⟨rfl, hbel⟩
end Go.Proofs.YtjkimadnopeakaaGreatDoor

/- Which field has a name. -/
namespace Go.Proofs.YtjkimadnopeakaaGreatDoor
open Go.RowKit
set_option linter.unusedVariables false

def fidx (fs : List Fld) (n : ByteArray) : Nat := fs.findIdx fun f => f.name.toList == n.toList
theorem noneTo_at {fs : List Fld} {n : ByteArray} {k : Nat} (h : noneTo fs n k = true) (j : Nat) (hj : j < k) : ((fat fs j).name.toList == n.toList) = false := by
  have := (allTo_iff _ _).1 h j hj
  simpa using this
theorem fidx_at {fs : List Fld} {n : ByteArray} {k : Nat} (hk : k < fs.length) (h1 : ((fat fs k).name.toList == n.toList) = true) (h2 : noneTo fs n k = true) : fidx fs n = k := by
  unfold fidx
  rw [List.findIdx_eq hk]
  rw [fat_get _ _ hk] at h1
  refine ⟨h1, fun j hj => ?_⟩
  have := noneTo_at h2 j hj
  rw [fat_get _ _ (by omega)] at this
  exact this
theorem fidx_none {fs : List Fld} {n : ByteArray} (h : noneTo fs n fs.length = true) : fidx fs n = fs.length := by
  unfold fidx
  rw [List.findIdx_eq_length]
  intro f hf
  obtain ⟨j, hj, rfl⟩ := List.getElem_of_mem hf
  have := noneTo_at h j hj
  rw [fat_get _ _ hj] at this
  exact this
theorem fpos_idx {fs : List Fld} {n : ByteArray} {p : Int} (h : FPos fs n p) : (∃ k : Nat, p = k ∧ k < fs.length ∧ fidx fs n = k) ∨ (p = -1 ∧ fidx fs n = fs.length) := by
  rcases h with ⟨k, hk, rfl, h1, h2⟩ | ⟨rfl, h2⟩
  · exact .inl ⟨k, rfl, hk, fidx_at hk h1 h2⟩
  · exact .inr ⟨rfl, fidx_none h2⟩
theorem found_idx {fs : List Fld} {n : ByteArray} {f : Fld} {b : Bool} (h : FoundF fs n f b) : (b = true ∧ fidx fs n < fs.length ∧ f = fat fs (fidx fs n)) ∨ (b = false ∧ fidx fs n = fs.length) := by
  rcases h with ⟨rfl, k, hk, rfl, h1, h2⟩ | ⟨rfl, _, h2⟩
  · refine .inl ⟨rfl, ?_⟩
    rw [fidx_at hk h1 h2]
    exact ⟨hk, rfl⟩
  · exact .inr ⟨rfl, fidx_none h2⟩
end Go.Proofs.YtjkimadnopeakaaGreatDoor

/- Slices of cells: how they are read, copied, measured, held against each other; documents. -/
namespace Go.Proofs.YtjkimadnopeakaaGreatDoor
open Go.RowKit

structure Cel where
  name : ByteArray
  text : ByteArray
instance : Inhabited Cel := ⟨⟨⟨#[]⟩, ⟨#[]⟩⟩⟩
def cat (cs : List Cel) (i : Nat) : Cel := cs.getD i default
theorem cat_get (cs : List Cel) (k : Nat) (h : k < cs.length) : cat cs k = cs[k] := by unfold cat; rw [List.getD_eq_getElem?_getD, List.getElem?_eq_getElem h]; rfl
/-- A slice of cells, as it is read. -/
def CelRow (w : World) (a : Option Addr) (cs : List Cel) : Prop := 0 < cs.length → ∃ g off, a = some ⟨g, off, none⟩ ∧ g < w.heap.size ∧ ∀ i, i < cs.length →
  w.cell? ⟨g, off + i * 2, none⟩ = some (.string (cat cs i).name) ∧ w.cell? ⟨g, off + i * 2 + 1, none⟩ = some (.string (cat cs i).text)
theorem CelRow.below {w w' : World} {a : Option Addr} {cs : List Cel} (h : CelRow w a cs) (hb : Below w.heap.size w w') : CelRow w' a cs := fun hp => by
  obtain ⟨g, off, e, hg, hc⟩ := h hp
  refine ⟨g, off, e, by have := hb.size; omega, fun i hi => ?_⟩
  obtain ⟨c0, c1⟩ := hc i hi
  exact ⟨(hb.cell (p := ⟨g, off + i * 2, none⟩) hg).trans c0, (hb.cell (p := ⟨g, off + i * 2 + 1, none⟩) hg).trans c1⟩
theorem CelRow.set {w : World} {a : Option Addr} {cs : List Cel} (h : CelRow w a cs) {p : Addr} (hne : ∀ x, a = some x → x.block ≠ p.block) (v : Value) : CelRow (w.setCell p v) a cs := fun hp => by
  obtain ⟨g, off, e, hg, hc⟩ := h hp
  have hn : g ≠ p.block := hne _ e
  refine ⟨g, off, e, by simpa [World.setCell] using hg, fun i hi => ?_⟩
  obtain ⟨c0, c1⟩ := hc i hi
  exact ⟨(World.cell?_of_block (Below.heap_setCell _ _ _ _ hn)).trans c0, (World.cell?_of_block (Below.heap_setCell _ _ _ _ hn)).trans c1⟩
def CelsSmall (cs : List Cel) : Prop := ∀ i, i < cs.length → (cat cs i).name.size ≤ 1048576 ∧ (cat cs i).text.size ≤ 1048576

theorem toCell_any (n t : ByteArray) (w : World) :
    Calls Tryz.prog 77 #[.agg #[.string n, .string t]] w fun e w' => e = .returned (.agg #[.string n, .string t]) ∧ Below w.heap.size w w' := by
  go_enter Tryz.func77, Tryz.ntmps77
  go_wp2
  exact bodyPost_ret (v := .agg #[.string n, .string t]) (by simp [results, Tryz.results77, go_sem]) rfl ⟨rfl, (((Below.refl _ w).alloc (Nat.le_refl _) _).alloc (by simp) _).alloc (by simp; omega) _⟩

theorem infoCel : (Tryz.prog.info? 59).map (fun i => (i.zero, i.size, i.bytes)) = some (some (.agg #[.string ⟨#[]⟩, .string ⟨#[]⟩]), 2, 32) := by kernel_rfl
/-- The first k of a row's elements are these cells. -/
def CelTo (xs : List Value) (cs : List Cel) (k : Nat) : Prop := ∀ i, i < k → xs[i * 2]? = some (.string (cat cs i).name) ∧ xs[i * 2 + 1]? = some (.string (cat cs i).text)
theorem CelTo.set {xs : List Value} {cs : List Cel} {k : Nat} (h : CelTo xs cs k) (hk : k * 2 + 1 < xs.length) :
    CelTo ((xs.set (k * 2) (.string (cat cs k).name)).set (k * 2 + 1) (.string (cat cs k).text)) cs (k + 1) := by
  intro i hi
  by_cases e : i = k
  · subst e
    refine ⟨?_, ?_⟩
    · rw [List.getElem?_set_ne (by omega), List.getElem?_set_self (by omega)]
    · rw [List.getElem?_set_self (by simp; omega)]
  · obtain ⟨h0, h1⟩ := h i (by omega)
    refine ⟨?_, ?_⟩
    · rw [List.getElem?_set_ne (by omega), List.getElem?_set_ne (by omega)]; exact h0
    · rw [List.getElem?_set_ne (by omega), List.getElem?_set_ne (by omega)]; exact h1
theorem owns_celRow {w : World} {base : Nat} {e : TypeId} {v : Value} {cs : List Cel} {xs : List Value} (h : w.ownsRow base e 2 v cs.length xs) (ht : CelTo xs cs cs.length) :
    ∃ a cap, v = .slice a cs.length cap ∧ cs.length ≤ cap ∧ (a = none → cap = 0) ∧ (∀ x, a = some x → base ≤ x.block) ∧ CelRow w a cs := by
  have hx := h.1
  rcases h.2 with ⟨rfl, h0⟩ | ⟨g, cap, cur, rfl, hb, hg, hc, _⟩
  · exact ⟨none, 0, by rw [h0], by omega, fun _ => rfl, (fun _ e => by cases e), fun hp => by omega⟩
  · refine ⟨_, cap, rfl, hc, (fun h => by cases h), (fun x e => by cases e; exact hb), fun hp => ⟨g, 0, rfl, lt_of_block hg, fun i hi => ?_⟩⟩
    obtain ⟨h0, h1⟩ := ht i hi
    refine ⟨?_, ?_⟩
    · rw [Nat.zero_add, h.cellAt _ (by omega)]; exact h0
    · rw [Nat.zero_add, h.cellAt _ (by omega)]; exact h1

set_option maxHeartbeats 1000000 in
theorem toCellS_any (a : Option Addr) (cap : Nat) (cs : List Cel) (w : World) (hz : cs.length ≤ 1048576) (hr : CelRow w a cs) :
    Calls Tryz.prog 41 #[.slice a cs.length cap] w fun e w' => ∃ v xs, e = .returned v ∧ w'.ownsRow w.heap.size 59 2 v cs.length xs ∧ CelTo xs cs cs.length ∧ Below w.heap.size w w' := by
  obtain ⟨i0, hi, hz0, hz1, hz2⟩ := info_parts infoCel
  go_enter Tryz.func41, Tryz.ntmps41
  go_wp2_with (refine wpList_make_full _ rfl _ _ 35 rfl w.heap.size 59 i0 (.agg #[.string ⟨#[]⟩, .string ⟨#[]⟩]) 2 Tryz.underlying35 hi hz0 hz1 .i64 .i64 _ _ cs.length rfl rfl rfl rfl (by rw [hz2]; omega) (by unfold maxLen; omega) (Nat.le_refl _) ?_; intro w1 hown1 hgrow1)
  have hb1 : Below w.heap.size w w1 := (Below.refl _ w).grown hgrow1 (Nat.le_refl _) (fun j hj => by cases hj)
  generalize (madeCells (Value.agg #[.string ⟨#[]⟩, .string ⟨#[]⟩]).cells (cs.length * 2)).toList = x0 at hown1
  have HO : Hid (w1.ownsRow w.heap.size 59 2 (.slice (some ⟨w.heap.size, 0, none⟩) cs.length cs.length) cs.length x0) := hown1
  clear hown1 hgrow1
  go_wp2
  go_loopw [4] (fun i wr => ∃ (k : Nat) (xs : List Value), k ≤ cs.length ∧ i = .int .i64 k ∧ wr.ownsRow w.heap.size 59 2 (.slice (some ⟨w.heap.size, 0, none⟩) cs.length cs.length) cs.length xs ∧ CelTo xs cs k ∧ Below w.heap.size w wr) (fun i _ => cs.length - (intOf i).toNat)
  case atStart => exact ⟨0, x0, Nat.zero_le _, rfl, HO.out, fun i hi => by omega, hb1⟩
  case round =>
    clear HO
    obtain ⟨k, xs, hk, rfl, hown, hto, hbel⟩ := hrel
    by_cases hlt : k < cs.length
    · obtain ⟨g, off, rfl, hg, hc⟩ := (hr.below hbel) (by omega)
      obtain ⟨c0, c1⟩ := hc k hlt
      have hxl := hown.1
      have HN : Hid (CelTo ((xs.set (k * 2) (.string (cat cs k).name)).set (k * 2 + 1) (.string (cat cs k).text)) cs (k + 1)) := hto.set (by omega)
      generalize cat cs k = cl at *
      obtain ⟨nm, tx⟩ := cl
      simp only at c0 c1 HN
      have HOW : Hid (wr.ownsRow w.heap.size 59 2 (.slice (some ⟨w.heap.size, 0, none⟩) cs.length cs.length) cs.length xs) := hown
      clear hr hc hto hown
      go_wp2_with fail
      refine (toCell_any nm tx _).mono ?_
      rintro e w2 ⟨rfl, hb2⟩
      have ho2 := HOW.out.kept (grown_none hb2) (Classical.em _)
      obtain ⟨ho3, hg3⟩ := ho2.stored (k * 2) (.string nm)
      obtain ⟨ho4, hg4⟩ := ho3.stored (k * 2 + 1) (.string tx)
      have d0 := ho2.cellAt (k * 2) (by omega)
      have d1 := ho2.cellAt (k * 2 + 1) (by omega)
      rw [List.getElem?_eq_getElem (by omega)] at d0 d1
      have f0 := ho2.frozenAt (k * 2)
      have f1 := ho2.frozenAt (k * 2 + 1)
      generalize xs[k * 2] = o0 at d0
      generalize xs[k * 2 + 1] = o1 at d1
      have HB4 : Hid (Below w.heap.size w ((w2.setCell ⟨w.heap.size, k * 2, none⟩ (.string nm)).setCell ⟨w.heap.size, k * 2 + 1, none⟩ (.string tx))) :=
        ((hbel.trans (hb2.mono hbel.size)).setCell (Nat.le_refl _) _).setCell (Nat.le_refl _) _
      have HO4 : Hid (((w2.setCell ⟨w.heap.size, k * 2, none⟩ (.string nm)).setCell ⟨w.heap.size, k * 2 + 1, none⟩ (.string tx)).ownsRow w.heap.size 59 2 (.slice (some ⟨w.heap.size, 0, none⟩) cs.length cs.length) cs.length ((xs.set (k * 2) (.string nm)).set (k * 2 + 1) (.string tx))) := ho4
      clear ho2 ho3 ho4 hg3 hg4 HOW
      go_wp2
      go_roundw
      case rel => exact ⟨k + 1, _, by omega, by go_num, HO4.out, HN.out, HB4.out⟩
      case measure => simp [intOf]; omega
    · have hkl : k = cs.length := by omega
      subst hkl
      clear hr
      go_wp2
      go_ret
      exact ⟨_, xs, rfl, hown, hto, hbel⟩

theorem szCell_any (n t : ByteArray) (left : Int) (w : World) (hn : n.size ≤ maxLen) (ht : t.size ≤ maxLen) (h0 : 0 ≤ left) (h1 : left ≤ 1048576) :
    Calls Tryz.prog 75 #[.agg #[.string n, .string t], .int .i64 left] w fun e w' => ∃ r : Int, e = .returned (.int .i64 r) ∧ r ≤ left ∧ (0 ≤ r → (n.size : Int) ≤ left ∧ (t.size : Int) ≤ left) ∧ Below w.heap.size w w' := by
  unfold maxLen at hn ht
  by_cases hlt : left - (n.size : Int) < 0
  · go_enter Tryz.func75, Tryz.ntmps75
    go_wp2
    go_ret
    exact ⟨-1, rfl, by omega, fun h => by omega, (Below.refl _ w).alloc (Nat.le_refl _) _⟩
  · have hd : decide (left - (n.size : Int) < 0) = false := by simpa using hlt
    by_cases hlt2 : left - (n.size : Int) - (t.size : Int) < 0
    · go_enter Tryz.func75, Tryz.ntmps75
      go_wp2
      go_ret
      exact ⟨-1, rfl, by omega, fun h => by omega, (Below.refl _ w).alloc (Nat.le_refl _) _⟩
    · have hd2 : decide (left - (n.size : Int) - (t.size : Int) < 0) = false := by simpa using hlt2
      go_enter Tryz.func75, Tryz.ntmps75
      go_wp2
      go_ret
      exact ⟨left - n.size - t.size, rfl, by omega, fun h => by omega, (Below.refl _ w).alloc (Nat.le_refl _) _⟩

set_option maxHeartbeats 1000000 in
theorem szCellS_any (a : Option Addr) (cap : Nat) (cs : List Cel) (left0 : Int) (w : World) (h0 : 0 ≤ left0) (h1 : left0 ≤ 1048576) (hz : cs.length ≤ maxLen) (hsm : ∀ i, i < cs.length → (cat cs i).name.size ≤ maxLen ∧ (cat cs i).text.size ≤ maxLen) (hr : CelRow w a cs) :
    Calls Tryz.prog 37 #[.slice a cs.length cap, .int .i64 left0] w fun e w' => ∃ r : Int, e = .returned (.int .i64 r) ∧ r ≤ left0 ∧ (0 ≤ r → cs.length ≤ 1048576 ∧ CelsSmall cs) ∧ Below w.heap.size w w' := by
  unfold maxLen at hz
  by_cases hbig : left0 - (cs.length : Int) < 0
  · clear hr hsm
    go_enter Tryz.func37, Tryz.ntmps37
    go_wp2
    go_ret
    exact ⟨-1, rfl, by omega, fun h => by omega, Below.refl _ _⟩
  have hbd : decide (left0 - (cs.length : Int) < 0) = false := by simpa using hbig
  go_enter Tryz.func37, Tryz.ntmps37
  go_wp2
  go_loopw [1, 5] (fun l i wr => ∃ (k : Nat) (left : Int), k ≤ cs.length ∧ i = .int .i64 k ∧ l = .int .i64 left ∧ 0 ≤ left ∧ left ≤ left0 ∧ (∀ j, j < k → (cat cs j).name.size ≤ 1048576 ∧ (cat cs j).text.size ≤ 1048576) ∧ Below w.heap.size w wr) (fun _ i _ => cs.length - (intOf i).toNat)
  case atStart => exact ⟨0, left0 - cs.length, Nat.zero_le _, rfl, rfl, by omega, by omega, fun j hj => by omega, Below.refl _ _⟩
  case round =>
    obtain ⟨k, left, hk, rfl, rfl, hl0, hl1, hj, hbel⟩ := hrel
    have HJ : Hid (∀ j, j < k → (cat cs j).name.size ≤ 1048576 ∧ (cat cs j).text.size ≤ 1048576) := hj
    clear hj
    by_cases hlt : k < cs.length
    · have hkl : (k : Int) < (cs.length : Int) := by omega
      obtain ⟨g, off, rfl, hg, hc⟩ := (hr.below hbel) (by omega)
      obtain ⟨c0, c1⟩ := hc k hlt
      have hs := hsm k hlt
      have HJK : Hid ((cat cs k).name.size ≤ 1048576 ∧ (cat cs k).text.size ≤ 1048576 → ∀ j, j < k + 1 → (cat cs j).name.size ≤ 1048576 ∧ (cat cs j).text.size ≤ 1048576) := fun h j hj => by
        by_cases e : j = k
        · subst e; exact h
        · exact HJ.out j (by omega)
      generalize cat cs k = cl at *
      obtain ⟨nm, tx⟩ := cl
      simp only at c0 c1 hs HJK
      obtain ⟨hs1, hs2⟩ := hs
      clear hr hc hsm
      go_wp2_with fail
      refine (szCell_any nm tx left _ hs1 hs2 hl0 (by omega)).mono ?_
      rintro e w2 ⟨r, rfl, hr1, hr2, hb2⟩
      have hb3 := hbel.trans (hb2.mono hbel.size)
      clear c0 c1
      by_cases hneg : r < 0
      · go_wp2
        go_ret
        exact ⟨-1, rfl, by omega, fun h => by omega, hb3⟩
      · have hnd : decide (r < 0) = false := by simpa using hneg
        go_wp2
        go_roundw
        case rel => exact ⟨k + 1, r, by omega, by go_num, rfl, by omega, by omega, HJK.out (by have := hr2 (by omega); omega), hb3⟩
        case measure => simp [intOf]; omega
    · have hkl : k = cs.length := by omega
      subst hkl
      clear hr hsm
      go_wp2
      go_ret
      exact ⟨left, rfl, by omega, fun _ => ⟨by omega, HJ.out⟩, hbel⟩

theorem eqCell_same (n t : ByteArray) (w : World) :
    Calls Tryz.prog 90 #[.agg #[.string n, .string t], .agg #[.string n, .string t]] w fun e w' => e = .returned (.bool true) ∧ Below w.heap.size w w' := by
  go_enter Tryz.func90, Tryz.ntmps90
  go_wp2
  go_ret
  exact ⟨rfl, ((Below.refl _ w).alloc (Nat.le_refl _) _).alloc (by simp) _⟩

set_option maxHeartbeats 1000000 in
theorem eqCellS_same (a b : Option Addr) (ca cb : Nat) (cs : List Cel) (w : World) (hl : cs.length ≤ 1099511627) (ha : CelRow w a cs) (hb : CelRow w b cs) :
    Calls Tryz.prog 45 #[.slice a cs.length ca, .slice b cs.length cb] w fun e w' => e = .returned (.bool true) ∧ Below w.heap.size w w' := by
  go_enter Tryz.func45, Tryz.ntmps45
  go_wp2
  go_loopw [5] (fun i wr => ∃ k : Nat, k ≤ cs.length ∧ i = .int .i64 k ∧ Below w.heap.size w wr) (fun i _ => cs.length - (intOf i).toNat)
  case atStart => exact ⟨0, Nat.zero_le _, rfl, Below.refl _ _⟩
  case round =>
    obtain ⟨k, hk, rfl, hbel⟩ := hrel
    by_cases hlt : k < cs.length
    · obtain ⟨g1, o1, rfl, hg1, hc1⟩ := (ha.below hbel) (by omega)
      obtain ⟨g2, o2, rfl, hg2, hc2⟩ := (hb.below hbel) (by omega)
      obtain ⟨r0, r1⟩ := hc1 k hlt
      obtain ⟨s0, s1⟩ := hc2 k hlt
      clear ha hb hc1 hc2
      generalize cat cs k = cl at *
      obtain ⟨n, t⟩ := cl
      simp only at r0 r1 s0 s1
      go_wp2
      go_region_with (go_at_call 90; refine (eqCell_same n t _).mono ?_; rintro e w2 ⟨rfl, hb2d⟩; have hb2 : Below wr.heap.size wr w2 := ⟨hb2d.os, hb2d.tape, hb2d.output, hb2d.size, hb2d.block⟩; clear hb2d)
      all_goals
        go_wp2
        go_roundw
        case rel => exact ⟨k + 1, by omega, by go_num, hbel.trans (hb2.mono hbel.size)⟩
        case measure => simp [intOf]; omega
    · clear ha hb
      go_wp2
      go_ret
      exact ⟨rfl, hbel⟩

/-- A document, as it is handed on: its key, and where its cells lie. -/
def docV (key : ByteArray) (a : Option Addr) (n cap : Nat) : Value := .agg #[.string key, .slice a n cap]

theorem toDoc_any (key : ByteArray) (a : Option Addr) (cap : Nat) (cs : List Cel) (w : World) (hz : cs.length ≤ 1048576) (hr : CelRow w a cs) :
    Calls Tryz.prog 15 #[.agg #[.string key, .slice a cs.length cap]] w fun e w' => ∃ p c, e = .returned (.agg #[.string key, .slice p cs.length c]) ∧ cs.length ≤ c ∧ (p = none → c = 0) ∧ (∀ x, p = some x → w.heap.size ≤ x.block) ∧ CelRow w' p cs ∧ Below w.heap.size w w' := by
  have hb0 : Below w.heap.size w (((w.alloc (.cells #[.string key, .slice a cs.length cap] 25)).alloc (.cells #[.string ⟨#[]⟩, .slice none 0 0] 37)).alloc (.cells #[.string key, .slice none 0 0] 37)) := (((Below.refl _ w).alloc (Nat.le_refl _) _).alloc (by simp) _).alloc (by simp; omega) _
  have r0 := hr.below hb0
  clear hr
  have HB0 : Hid (Below w.heap.size w (((w.alloc (.cells #[.string key, .slice a cs.length cap] 25)).alloc (.cells #[.string ⟨#[]⟩, .slice none 0 0] 37)).alloc (.cells #[.string key, .slice none 0 0] 37))) := hb0
  clear hb0
  go_enter Tryz.func15, Tryz.ntmps15
  go_wp2_with fail
  refine (toCellS_any a cap cs _ hz r0).mono ?_
  rintro e w2 ⟨v, xs, rfl, ho, ht, hb2⟩
  obtain ⟨p, c, rfl, hc, hpn, hbb, hrow⟩ := owns_celRow ho ht
  have HBB : Hid (∀ x, p = some x → w.heap.size + 3 ≤ x.block) := fun x e => by have := hbb x e; simp at this; omega
  clear hbb
  obtain ⟨hcl, hfz⟩ := bcell hb2
  have hz2 : w.heap.size + 3 ≤ w2.heap.size := by have := hb2.size; simp at this; omega
  have hbw : Below w.heap.size w w2 := HB0.out.trans (hb2.mono (by simp; omega))
  clear HB0 ho ht r0 hb2
  have HR : Hid (CelRow w2 p cs) := hrow
  clear hrow
  go_wp2
  refine bodyPost_ret (v := .agg #[.string key, .slice p cs.length c]) (by simp [results, Tryz.results15, go_sem, hcl]) rfl ⟨p, c, rfl, hc, hpn, (fun x e => by have := HBB.out x e; omega), ?_, ?_⟩
  · exact ((HR.out.set (fun x e => by have := HBB.out x e; show x.block ≠ w.heap.size + 1 + 1; omega) _).set (fun x e => by have := HBB.out x e; show x.block ≠ w.heap.size + 1; omega) _).set (fun x e => by have := HBB.out x e; show x.block ≠ w.heap.size + 1; omega) _
  · exact ((hbw.setCell (by show w.heap.size ≤ w.heap.size + 1 + 1; omega) _).setCell (by show w.heap.size ≤ w.heap.size + 1; omega) _).setCell (by show w.heap.size ≤ w.heap.size + 1; omega) _

theorem szDoc_any (key : ByteArray) (a : Option Addr) (cap : Nat) (cs : List Cel) (w : World) (hk : key.size ≤ maxLen) (hz : cs.length ≤ maxLen) (hsm : ∀ i, i < cs.length → (cat cs i).name.size ≤ maxLen ∧ (cat cs i).text.size ≤ maxLen) (hr : CelRow w a cs) :
    Calls Tryz.prog 11 #[.agg #[.string key, .slice a cs.length cap], .int .i64 1048576] w fun e w' => ∃ r : Int, e = .returned (.int .i64 r) ∧ (0 ≤ r → key.size ≤ 1048576 ∧ cs.length ≤ 1048576 ∧ CelsSmall cs) ∧ Below w.heap.size w w' := by
  unfold maxLen at hk
  by_cases hlt : 1048576 - (key.size : Int) < 0
  · clear hr hsm
    go_enter Tryz.func11, Tryz.ntmps11
    go_wp2
    go_ret
    exact ⟨-1, rfl, fun h => by omega, (Below.refl _ w).alloc (Nat.le_refl _) _⟩
  · have hd : decide (1048576 - (key.size : Int) < 0) = false := by simpa using hlt
    have hb0 : Below w.heap.size w (w.alloc (.cells #[.string key, .slice a cs.length cap] 25)) := (Below.refl _ w).alloc (Nat.le_refl _) _
    have r0 := hr.below hb0
    clear hr
    go_enter Tryz.func11, Tryz.ntmps11
    go_wp2_with fail
    refine (szCellS_any a cap cs (1048576 - key.size) _ (by omega) (by omega) hz hsm r0).mono ?_
    rintro e w2 ⟨r, rfl, hr1, hr2, hb2⟩
    have hb3 : Below w.heap.size w w2 := hb0.trans (hb2.mono (by simp))
    clear r0 hsm
    by_cases hneg : r < 0
    · go_wp2
      go_ret
      exact ⟨-1, rfl, fun h => by omega, hb3⟩
    · have hnd : decide (r < 0) = false := by simpa using hneg
      go_wp2
      go_ret
      exact ⟨r, rfl, fun h => ⟨by omega, hr2 h⟩, hb3⟩

theorem eqDoc_same (key : ByteArray) (a b : Option Addr) (ca cb : Nat) (cs : List Cel) (w : World) (hl : cs.length ≤ 1099511627) (ha : CelRow w a cs) (hb : CelRow w b cs) :
    Calls Tryz.prog 19 #[.agg #[.string key, .slice a cs.length ca], .agg #[.string key, .slice b cs.length cb]] w fun e w' => e = .returned (.bool true) ∧ Below w.heap.size w w' := by
  have hb0 : Below w.heap.size w ((w.alloc (.cells #[.string key, .slice a cs.length ca] 37)).alloc (.cells #[.string key, .slice b cs.length cb] 37)) := ((Below.refl _ w).alloc (Nat.le_refl _) _).alloc (by simp) _
  have a0 := ha.below hb0
  have b0 := hb.below hb0
  clear ha hb
  go_enter Tryz.func19, Tryz.ntmps19
  go_wp2_with fail
  refine (eqCellS_same a b ca cb cs _ hl a0 b0).mono ?_
  rintro e w2 ⟨rfl, hb2⟩
  have hb3 : Below w.heap.size w w2 := hb0.trans (hb2.mono (by simp; omega))
  clear a0 b0
  go_wp2
  go_ret
  exact ⟨rfl, hb3⟩
end Go.Proofs.YtjkimadnopeakaaGreatDoor

/- Which texts may stand in a cell: impl.isPlain, impl.textOk, spec.l2Text. -/
namespace Go.Proofs.YtjkimadnopeakaaGreatDoor
open Go.RowKit

def seenB (s : ByteArray) (j : Nat) : Bool := decide (32 ≤ byteAt s j) && decide (byteAt s j ≤ 126)
/-- A text may stand in a cell. -/
def textB (s : ByteArray) : Bool := decide ((s.size : Int) ≤ 60) && allTo (seenB s) s.size
theorem textB_no (s : ByteArray) (k : Nat) (h : k < s.size) (hf : seenB s k = false) : textB s = false := by
  unfold textB
  rw [allTo_false _ _ k h hf]
  simp

def plainB (s : ByteArray) : Bool := allTo (seenB s) s.size

set_option maxHeartbeats 1000000 in
theorem isPlain_any (s : ByteArray) (w : World) (hs : s.size ≤ maxLen) :
    Calls Tryz.prog 137 #[.string s] w fun e w' => e = .returned (.bool (plainB s)) ∧ w' = w := by
  unfold maxLen at hs
  go_enter Tryz.func137, Tryz.ntmps137
  go_wp2
  go_loop [6] (fun i => ∃ k : Nat, k ≤ s.size ∧ i = .int .i64 k ∧ allTo (seenB s) k = true) (fun i => s.size - (intOf i).toNat)
  case atStart => exact ⟨0, Nat.zero_le _, rfl, rfl⟩
  case round =>
    obtain ⟨k, hk, rfl, ha⟩ := hrel
    have HA : Hid (allTo (seenB s) k = true) := ha
    clear ha
    by_cases hlt : k < s.size
    · have HS : Hid (seenB s k = (decide (32 ≤ ((s[k]'hlt).toNat : Int)) && decide (((s[k]'hlt).toNat : Int) ≤ 126))) := by unfold Hid seenB; rw [byteAt_eq s k hlt]
      have HNO : Hid (seenB s k = false → plainB s = false) := fun h => allTo_false _ _ k hlt h
      by_cases h1 : ((s[k]'hlt).toNat : Int) < 32
      · have hb : Hid (plainB s = false) := HNO.out (by rw [HS.out]; simp; omega)
        go_wp2
        go_ret
        exact ⟨ret_bool hb.out.symm, rfl⟩
      have d1 : decide (((s[k]'hlt).toNat : Int) < 32) = false := by simpa using h1
      by_cases h2 : 126 < ((s[k]'hlt).toNat : Int)
      · have hb : Hid (plainB s = false) := HNO.out (by rw [HS.out]; simp; omega)
        go_wp2
        go_ret
        exact ⟨ret_bool hb.out.symm, rfl⟩
      have d2 : decide (126 < ((s[k]'hlt).toNat : Int)) = false := by simpa using h2
      have HN : Hid (allTo (seenB s) (k + 1) = true) := allTo_snoc _ k HA.out (by rw [HS.out]; simp; omega)
      go_wp2
      go_round
      case rel => exact ⟨k + 1, by omega, by go_num, HN.out⟩
      case measure => simp [intOf]; omega
    · have hkl : k = s.size := by omega
      subst hkl
      have hb : Hid (plainB s = true) := HA.out
      go_wp2
      go_ret
      exact ⟨ret_bool hb.out.symm, rfl⟩
theorem textOk_any (s : ByteArray) (w : World) (hs : s.size ≤ maxLen) :
    Calls Tryz.prog 108 #[.string s] w fun e w' => e = .returned (.bool (textB s)) ∧ w' = w := by
  by_cases h60 : (s.size : Int) ≤ 60
  · have HB : Hid (textB s = plainB s) := by unfold Hid textB plainB; simp [h60]
    go_enter Tryz.func108, Tryz.ntmps108
    go_wp2_with fail
    refine (isPlain_any s _ hs).mono ?_
    rintro e w1 ⟨rfl, rfl⟩
    go_wp2
    go_ret
    exact ⟨ret_bool HB.out.symm, rfl⟩
  · have HB : Hid (textB s = false) := by unfold Hid textB; simp [h60]
    unfold maxLen at hs
    go_enter Tryz.func108, Tryz.ntmps108
    go_wp2
    go_ret
    exact ⟨ret_bool HB.out.symm, rfl⟩

set_option maxHeartbeats 1000000 in
theorem l2Text_any (s : ByteArray) (w : World) (hs : s.size ≤ maxLen) :
    Calls Tryz.prog 98 #[.string s] w fun e w' => e = .returned (.bool (textB s)) ∧ w' = w := by
  unfold maxLen at hs
  go_enter Tryz.func98, Tryz.ntmps98
  go_wp2
  go_loop [3] (fun i => ∃ k : Nat, k ≤ s.size ∧ i = .int .i64 k ∧ allTo (seenB s) k = true) (fun i => s.size - (intOf i).toNat)
  case atStart => exact ⟨0, Nat.zero_le _, rfl, rfl⟩
  case round =>
    obtain ⟨k, hk, rfl, ha⟩ := hrel
    have HA : Hid (allTo (seenB s) k = true) := ha
    clear ha
    by_cases hlt : k < s.size
    · have HS : Hid (seenB s k = inB ((s[k]'hlt).toNat : Int) 32 126) := by unfold Hid seenB inB; rw [byteAt_eq s k hlt]
      have HNO : Hid (seenB s k = false → textB s = false) := textB_no s k hlt
      have hbb := byteAt_bd s k
      rw [byteAt_eq s k hlt] at hbb
      obtain ⟨hb0, hb1⟩ := hbb
      cases h1 : inB ((s[k]'hlt).toNat : Int) 32 126 with
      | false =>
        have hb : Hid (textB s = false) := HNO.out (by rw [HS.out, h1])
        go_wp2_with fail
        refine (l1In_any ((s[k]'hlt).toNat : Int) 32 126 _).mono ?_
        rintro e w5 ⟨rfl, rfl⟩
        rw [h1]
        go_wp2
        go_ret
        exact ⟨ret_bool hb.out.symm, rfl⟩
      | true =>
        have HN : Hid (allTo (seenB s) (k + 1) = true) := allTo_snoc _ k HA.out (by rw [HS.out, h1])
        go_wp2_with fail
        refine (l1In_any ((s[k]'hlt).toNat : Int) 32 126 _).mono ?_
        rintro e w5 ⟨rfl, rfl⟩
        rw [h1]
        go_wp2
        go_round
        case rel => exact ⟨k + 1, by omega, by go_num, HN.out⟩
        case measure => simp [intOf]; omega
    · have hkl : k = s.size := by omega
      subst hkl
      have hb : Hid (textB s = decide ((s.size : Int) ≤ 60)) := by unfold Hid textB; rw [HA.out]; simp
      go_wp2
      go_ret
      exact ⟨ret_bool hb.out.symm, rfl⟩
end Go.Proofs.YtjkimadnopeakaaGreatDoor

/- The form of a document: docHasForm and l2Form. -/
namespace Go.Proofs.YtjkimadnopeakaaGreatDoor
open Go.RowKit

end Go.Proofs.YtjkimadnopeakaaGreatDoor

/- docHasForm and l2Form answer the same. -/
namespace Go.Proofs.YtjkimadnopeakaaGreatDoor
open Go.RowKit

/-- A cell stands behind the one ahead. -/
def ordB (cs : List Cel) (k : Nat) : Bool := decide (k = 0) || Op.bytesLess (cat cs (k - 1)).name.toList (cat cs k).name.toList
def celOk (cs : List Cel) (k : Nat) : Bool := ordB cs k && nameI (cat cs k).name && textB (cat cs k).text
def formB (key : ByteArray) (cs : List Cel) : Bool := nameI key && decide (cs.length ≤ 4) && allTo (celOk cs) cs.length
theorem formB_no (key : ByteArray) (cs : List Cel) (k : Nat) (h : k < cs.length) (hf : celOk cs k = false) : formB key cs = false := by
  unfold formB
  rw [allTo_false _ _ k h hf]
  simp

set_option maxHeartbeats 2000000 in
theorem form_any (key : ByteArray) (a : Option Addr) (cap : Nat) (cs : List Cel) (w : World) (hk : key.size ≤ 1048576) (hz : cs.length ≤ 1048576) (hsm : CelsSmall cs) (hr : CelRow w a cs) :
    Calls Tryz.prog 63 #[.agg #[.string key, .slice a cs.length cap]] w fun e w' => e = .returned (.bool (formB key cs)) ∧ Below w.heap.size w w' := by
  have hb0 : Below w.heap.size w (w.alloc (.cells #[.string key, .slice a cs.length cap] 37)) := (Below.refl _ w).alloc (Nat.le_refl _) _
  cases hn : nameI key with
  | false =>
    have HB : Hid (formB key cs = false) := by unfold Hid formB; rw [hn]; rfl
    clear hr hsm
    go_enter Tryz.func63, Tryz.ntmps63
    go_wp2_with fail
    refine (nameI_any key _ (by unfold maxLen; omega)).mono ?_
    rintro e w5 ⟨rfl, rfl⟩
    rw [hn]
    go_wp2
    go_ret
    exact ⟨ret_bool HB.out.symm, hb0⟩
  | true =>
    by_cases h4 : 4 < (cs.length : Int)
    · have HB : Hid (formB key cs = false) := by unfold Hid formB; rw [show decide (cs.length ≤ 4) = false from by simp; omega]; simp
      clear hr hsm
      go_enter Tryz.func63, Tryz.ntmps63
      go_wp2_with fail
      refine (nameI_any key _ (by unfold maxLen; omega)).mono ?_
      rintro e w5 ⟨rfl, rfl⟩
      rw [hn]
      go_wp2
      go_ret
      exact ⟨ret_bool HB.out.symm, hb0⟩
    have d4 : decide (4 < (cs.length : Int)) = false := by simpa using h4
    have B0 := Blk.new w #[.string key, .slice a cs.length cap] 37
    have HB0 : Hid (Blk (w.alloc (.cells #[.string key, .slice a cs.length cap] 37)) w.heap.size #[.string key, .slice a cs.length cap] 37) := B0
    have HN : Hid (nameI key = true) := hn
    clear B0
    go_enter Tryz.func63, Tryz.ntmps63
    go_wp2_with fail
    refine (nameI_any key _ (by unfold maxLen; omega)).mono ?_
    rintro e w5 ⟨rfl, rfl⟩
    rw [hn]
    clear hn
    go_wp2
    go_loopw [18] (fun i wr => ∃ k : Nat, k ≤ cs.length ∧ i = .int .i64 k ∧ allTo (celOk cs) k = true ∧ Blk wr w.heap.size #[.string key, .slice a cs.length cap] 37 ∧ Below w.heap.size w wr) (fun i _ => cs.length - (intOf i).toNat)
    case atStart => exact ⟨0, Nat.zero_le _, rfl, rfl, HB0.out, hb0⟩
    case round =>
      clear HB0 hb0
      obtain ⟨k, hkk, rfl, ha, hblk, hbel⟩ := hrel
      have HA : Hid (allTo (celOk cs) k = true) := ha
      clear ha
      have hsz := hbel.size
      have hbl := hblk.lt
      by_cases hlt : k < cs.length
      · have hkl : (k : Int) < (cs.length : Int) := by omega
        obtain ⟨g, off, rfl, hg, hc⟩ := (hr.below hbel) (by omega)
        obtain ⟨c0, c1⟩ := hc k hlt
        obtain ⟨hs0, hs1⟩ := hsm k hlt
        have e1 : wr.cell? ⟨w.heap.size, 1, none⟩ = some (.slice (some ⟨g, off, none⟩) cs.length cap) := hblk.cell 1
        have HBK : Hid (Blk wr w.heap.size #[.string key, .slice (some ⟨g, off, none⟩) cs.length cap] 37) := hblk
        have HNO : Hid (celOk cs k = false → formB key cs = false) := formB_no key cs k hlt
        have HCO : Hid (celOk cs k = (ordB cs k && nameI (cat cs k).name && textB (cat cs k).text)) := rfl
        have hbA : Below w.heap.size w (wr.alloc (.cells #[.string (cat cs k).name, .string (cat cs k).text] 59)) := hbel.alloc hsz _
        have HBA : Hid (Blk (wr.alloc (.cells #[.string (cat cs k).name, .string (cat cs k).text] 59)) w.heap.size #[.string key, .slice (some ⟨g, off, none⟩) cs.length cap] 37) := HBK.out.alloc _
        clear hblk HBK
        cases ho : ordB cs k with
        | false =>
          have hb : Hid (formB key cs = false) := HNO.out (by rw [HCO.out, ho]; rfl)
          obtain ⟨j, rfl⟩ : ∃ j, k = j + 1 := ⟨k - 1, by cases k with | zero => simp [ordB] at ho | succ j => simp⟩
          have ho' : Op.bytesLess (cat cs j).name.toList (cat cs (j + 1)).name.toList = false := by simpa [ordB] using ho
          have p0 := (hc j (by omega)).1
          have i1 : (j : Int) + 1 < (cs.length : Int) := by omega
          have i2 : (j : Int) < (cs.length : Int) := by omega
          have i3 : (0 : Int) < (j : Int) + 1 := by omega
          generalize (cat cs j).name = pn at *
          generalize cat cs (j + 1) = cl at *
          obtain ⟨nm, tx⟩ := cl
          simp only at c0 c1 hs0 hs1 ho' HBA hbA
          clear hr hc hsm ho HCO HNO HA HBA
          go_wp2
          go_quiet (fail)
          go_wp2
          go_ret
          exact ⟨ret_bool hb.out.symm, below_drewN hbA _⟩
        | true =>
          have fin : ∀ b : Bool, nameI (cat cs k).name = true → textB (cat cs k).text = b → celOk cs k = b := fun b h1 h2 => by rw [HCO.out, ho, h1, h2]; simp
          have FIN : Hid (∀ b : Bool, nameI (cat cs k).name = true → textB (cat cs k).text = b → celOk cs k = b) := fin
          have HNN : Hid (nameI (cat cs k).name = false → celOk cs k = false) := fun h => by rw [HCO.out, h]; simp
          clear fin HCO
          rcases Nat.eq_zero_or_pos k with rfl | hkp
          · generalize cat cs 0 = cl at *
            obtain ⟨nm, tx⟩ := cl
            simp only [Nat.zero_mul, Nat.add_zero] at c0 c1 hs0 hs1 HBA hbA FIN HNN
            clear hr hc hsm ho
            have i3 : decide ((0 : Int) < ((0 : Nat) : Int)) = false := by simp
            go_wp2
            go_quiet (fail)
            go_wp2_with fail
            refine (nameI_any nm _ (by unfold maxLen; omega)).mono ?_
            rintro e w5 ⟨rfl, rfl⟩
            cases h1 : nameI nm with
            | false =>
              have hb : Hid (formB key cs = false) := HNO.out (HNN.out h1)
              go_wp2
              go_ret
              exact ⟨ret_bool hb.out.symm, below_drewN hbA _⟩
            | true =>
              go_wp2_with fail
              refine (textOk_any tx _ (by unfold maxLen; omega)).mono ?_
              rintro e w5 ⟨rfl, rfl⟩
              cases h2 : textB tx with
              | false =>
                have hb : Hid (formB key cs = false) := HNO.out (FIN.out _ h1 h2)
                go_wp2
                go_ret
                exact ⟨ret_bool hb.out.symm, below_drewN hbA _⟩
              | true =>
                have HS : Hid (allTo (celOk cs) (0 + 1) = true) := allTo_snoc _ 0 HA.out (FIN.out _ h1 h2)
                go_wp2
                go_roundw
                case rel => exact ⟨0 + 1, by omega, by go_num, HS.out, HBA.out, below_drewN hbA _⟩
                case measure => simp [intOf]; omega
          · obtain ⟨j, rfl⟩ : ∃ j, k = j + 1 := ⟨k - 1, by omega⟩
            have ho' : Op.bytesLess (cat cs j).name.toList (cat cs (j + 1)).name.toList = true := by simpa [ordB] using ho
            have p0 := (hc j (by omega)).1
            have i1 : (j : Int) + 1 < (cs.length : Int) := by omega
            have i2 : (j : Int) < (cs.length : Int) := by omega
            have i3 : (0 : Int) < (j : Int) + 1 := by omega
            generalize (cat cs j).name = pn at *
            generalize cat cs (j + 1) = cl at *
            obtain ⟨nm, tx⟩ := cl
            simp only at c0 c1 hs0 hs1 ho' HBA hbA FIN HNN
            clear hr hc hsm ho
            go_wp2
            go_quiet (fail)
            go_wp2_with fail
            refine (nameI_any nm _ (by unfold maxLen; omega)).mono ?_
            rintro e w5 ⟨rfl, rfl⟩
            cases h1 : nameI nm with
            | false =>
              have hb : Hid (formB key cs = false) := HNO.out (HNN.out h1)
              go_wp2
              go_ret
              exact ⟨ret_bool hb.out.symm, below_drewN hbA _⟩
            | true =>
              go_wp2_with fail
              refine (textOk_any tx _ (by unfold maxLen; omega)).mono ?_
              rintro e w5 ⟨rfl, rfl⟩
              cases h2 : textB tx with
              | false =>
                have hb : Hid (formB key cs = false) := HNO.out (FIN.out _ h1 h2)
                go_wp2
                go_ret
                exact ⟨ret_bool hb.out.symm, below_drewN hbA _⟩
              | true =>
                have HS : Hid (allTo (celOk cs) (j + 1 + 1) = true) := allTo_snoc _ (j + 1) HA.out (FIN.out _ h1 h2)
                go_wp2
                go_roundw
                case rel => exact ⟨j + 1 + 1, by omega, by go_num, HS.out, HBA.out, below_drewN hbA _⟩
                case measure => simp [intOf]; omega
      · have hkl : k = cs.length := by omega
        subst hkl
        have hb : Hid (formB key cs = true) := by unfold Hid formB; rw [HA.out, HN.out]; simp; omega
        clear hr hsm hblk
        go_wp2
        go_ret
        exact ⟨ret_bool hb.out.symm, hbel⟩
end Go.Proofs.YtjkimadnopeakaaGreatDoor

/- spec.l1Dec writes a number in decimals. -/
namespace Go.Proofs.YtjkimadnopeakaaGreatDoor
open Go.RowKit

def digD (k : Nat) : UInt8 := UInt8.ofNat (48 + k)
def decS (n : Nat) : ByteArray := ⟨(Lib.decDigits n).toArray⟩
theorem decS_small (n : Nat) (h : n < 10) : decS n = ⟨#[digD n]⟩ := by unfold decS; rw [Lib.decDigits_one h]; rfl
theorem decS_big (n : Nat) (h : ¬ n < 10) : decS n = decS (n / 10) ++ ⟨#[digD (n % 10)]⟩ := by
  unfold decS
  rw [Lib.decDigits, dif_neg h]
  apply ByteArray.ext
  simp [digD]
theorem decS_size (n : Nat) (h : n ≤ 999999999) : (decS n).size ≤ 20 := by
  have h1 : (decS n).size = (Lib.decDigits n).length := by simp [decS, ByteArray.size]
  rw [h1, Lib.decDigits_length]
  exact Lib.nDigits_le20 n (by omega)
theorem dig_toNat (k : Nat) (h : k < 10) : ((digD k).toNat : Int) = 48 + (k : Int) := by
  unfold digD
  rw [UInt8.toNat_ofNat']
  omega
/-- A slice of one byte as a string. -/
theorem back_one (W : World) (B C k : Nat) (hk : k < 10) (h : W.cell? ⟨B, 0, none⟩ = some (.int .u8 (48 + (k : Int)))) :
    (convert 47 9 (.slice (some ⟨B, 0, none⟩) 1 C)).run Tryz.prog W = .ok (.string ⟨#[digD k]⟩) W := by
  have hb := run_convert_bytes_back (P := Tryz.prog) W 47 9 5 ⟨B, 0, none⟩ C [digD k] Tryz.underlying47 Tryz.underlying5 Tryz.underlying9 (by
    intro i hi
    have hi0 : i = 0 := by simpa using hi
    subst hi0
    rw [addr_add0, h]
    simp [dig_toNat k hk])
  simpa using hb

end Go.Proofs.YtjkimadnopeakaaGreatDoor

/- Figures: l1Figures and figuresGet read the same numbers; a number in decimals is read back. -/
namespace Go.Proofs.YtjkimadnopeakaaGreatDoor
open Go.RowKit
set_option linter.unusedVariables false

/-- The number that the first k figures are. -/
def figN (s : ByteArray) : Nat → Nat
  | 0 => 0
  | k + 1 => 10 * figN s k + (byteAt s k - 48).toNat
def figsTo (s : ByteArray) (k : Nat) : Bool := allTo (fun j => figureB (byteAt s j)) k
def figB (s : ByteArray) : Bool := decide (1 ≤ s.size) && decide (s.size ≤ 9) && !(decide (1 < s.size) && decide (byteAt s 0 = 48)) && figsTo s s.size
def numB (s : ByteArray) : Nat := figN s s.size
theorem figureB_iff (n : Int) : figureB n = true ↔ 48 ≤ n ∧ n ≤ 57 := by simp [figureB]
theorem figN_bd (s : ByteArray) : ∀ k, figsTo s k = true → figN s k < 10 ^ k
  | 0, _ => by simp [figN]
  | k + 1, h => by
    unfold figsTo at h
    simp only [allTo, Bool.and_eq_true, figureB_iff] at h
    have ih := figN_bd s k h.1
    simp only [figN, Nat.pow_succ]
    omega
theorem figB_parts (s : ByteArray) (h : figB s = true) : 1 ≤ s.size ∧ s.size ≤ 9 ∧ (1 < s.size → byteAt s 0 ≠ 48) ∧ figsTo s s.size = true := by
  simp only [figB, Bool.and_eq_true, decide_eq_true_eq, Bool.not_eq_true', Bool.and_eq_false_iff, decide_eq_false_iff_not] at h
  obtain ⟨⟨⟨h1, h2⟩, h3⟩, h4⟩ := h
  exact ⟨h1, h2, fun h => by rcases h3 with h3 | h3 <;> omega, h4⟩
theorem figsTo_at {s : ByteArray} {k j : Nat} (h : figsTo s k = true) (hj : j < k) : 48 ≤ byteAt s j ∧ byteAt s j ≤ 57 := (figureB_iff _).1 ((allTo_iff _ _).1 h j hj)
theorem figsTo_le {s : ByteArray} {k j : Nat} (h : figsTo s k = true) (hj : j ≤ k) : figsTo s j = true := (allTo_iff _ _).2 fun i hi => (allTo_iff _ _).1 h i (by omega)
theorem numB_bd (s : ByteArray) (h : figB s = true) : numB s ≤ 999999999 := by
  obtain ⟨h1, h2, _, h4⟩ := figB_parts s h
  have := figN_bd s s.size h4
  have h9 : 10 ^ s.size ≤ 10 ^ 9 := Nat.pow_le_pow_right (by omega) h2
  unfold numB
  omega
theorem digD_byte (s : ByteArray) (k : Nat) (hk : k < s.size) (h : 48 ≤ byteAt s k ∧ byteAt s k ≤ 57) : s.data.toList[k]? = some (digD (byteAt s k - 48).toNat) := by
  rw [← byteAt_some s k _ hk, dig_toNat _ (by omega)]
  omega
theorem figN_pos (s : ByteArray) (h0 : byteAt s 0 ≠ 48) : ∀ k, figsTo s (k + 1) = true → 1 ≤ figN s (k + 1)
  | 0, h => by have := figsTo_at h (j := 0) (by omega); simp only [figN]; omega
  | k + 1, h => by have := figN_pos s h0 k (figsTo_le h (by omega)); rw [figN]; omega
theorem extract_snoc (s : ByteArray) (k : Nat) (b : UInt8) (hk : k < s.size) (h : s.data.toList[k]? = some b) : s.extract 0 (k + 1) = s.extract 0 k ++ ⟨#[b]⟩ := by
  apply ba_ext
  have hl : k < s.data.toList.length := by simpa using hk
  rw [ByteArray.data_append, Array.toList_append, Lib.extract_data, Lib.extract_data]
  simp only [List.drop_zero, Nat.sub_zero]
  rw [List.take_add_one, h]
  rfl
theorem dec_back_to (s : ByteArray) (h0 : 1 < s.size → byteAt s 0 ≠ 48) : ∀ k, k < s.size → figsTo s (k + 1) = true → decS (figN s (k + 1)) = s.extract 0 (k + 1)
  | 0, hk, h => by
    have hb := figsTo_at h (j := 0) (by omega)
    rw [extract_snoc s 0 _ hk (digD_byte s 0 hk hb), decS_small _ (by simp only [figN]; omega)]
    simp only [figN, Nat.mul_zero, Nat.zero_add]
    apply ba_ext
    rw [ByteArray.data_append, Array.toList_append, Lib.extract_data]
    simp
  | k + 1, hk, h => by
    have hb := figsTo_at h (j := k + 1) (by omega)
    have ih := dec_back_to s h0 k (by omega) (figsTo_le h (by omega))
    have hp := figN_pos s (h0 (by omega)) k (figsTo_le h (by omega))
    rw [extract_snoc s (k + 1) _ hk (digD_byte s (k + 1) hk hb), ← ih]
    have e : figN s (k + 1 + 1) = 10 * figN s (k + 1) + (byteAt s (k + 1) - 48).toNat := rfl
    rw [decS_big _ (by omega), e, show (10 * figN s (k + 1) + (byteAt s (k + 1) - 48).toNat) / 10 = figN s (k + 1) from by omega, show (10 * figN s (k + 1) + (byteAt s (k + 1) - 48).toNat) % 10 = (byteAt s (k + 1) - 48).toNat from by omega]
theorem dec_back (s : ByteArray) (h : figB s = true) : decS (numB s) = s := by
  obtain ⟨h1, h2, h3, h4⟩ := figB_parts s h
  have := dec_back_to s h3 (s.size - 1) (by omega) (by rw [show s.size - 1 + 1 = s.size from by omega]; exact h4)
  rw [show s.size - 1 + 1 = s.size from by omega, extract_all] at this
  exact this

def figR (s : ByteArray) : Int := if figB s then (numB s : Int) else -1
theorem figR_no {s : ByteArray} (h : figB s = false) : figR s = -1 := by unfold figR; rw [h]; rfl
theorem figR_yes {s : ByteArray} (h : figB s = true) : figR s = (numB s : Int) := by unfold figR; rw [h]; rfl
theorem figB_no_at {s : ByteArray} {k : Nat} (hk : k < s.size) (h : byteAt s k < 48 ∨ 57 < byteAt s k) : figB s = false := by
  have : figsTo s s.size = false := allTo_false _ _ k hk (by simp only [figureB]; rcases h with h | h <;> simp <;> omega)
  simp [figB, this]

set_option maxHeartbeats 1000000 in
theorem l1Figures_any (s : ByteArray) (w : World) (hs : s.size ≤ 1048576) :
    Calls Tryz.prog 117 #[.string s] w fun e w' => e = .returned (.int .i64 (figR s)) ∧ w' = w := by
  go_enter Tryz.func117, Tryz.ntmps117
  go_wp2
  go_loop [3, 4] (fun n i => ∃ k : Nat, k ≤ s.size ∧ k ≤ 9 ∧ i = .int .i64 k ∧ n = .int .i64 (figN s k) ∧ figsTo s k = true) (fun _ i => s.size - (intOf i).toNat)
  case atStart => exact ⟨0, Nat.zero_le _, Nat.zero_le _, rfl, rfl, rfl⟩
  case round =>
    obtain ⟨k, hk, hk9, rfl, rfl, hf⟩ := hrel
    have HF : Hid (figsTo s k = true) := hf
    have hbd0 := figN_bd s k hf
    have hp9 : 10 ^ k ≤ 10 ^ 9 := Nat.pow_le_pow_right (by omega) hk9
    have hbd : figN s k < 1000000000 := by omega
    clear hf hbd0 hp9
    by_cases hlt : k < s.size
    · have hbt := byteAt_eq s k hlt
      have HBT : Hid (byteAt s k = ((s[k]'hlt).toNat : Int)) := hbt
      have hbb := byteAt_bd s k
      rw [hbt] at hbb
      clear hbt
      by_cases h1 : ((s[k]'hlt).toNat : Int) < 48
      · go_wp2
        go_ret
        exact ⟨ret_int (by rw [figR_no (figB_no_at hlt (by rw [HBT.out]; omega))]), rfl⟩
      · by_cases h2 : 57 < ((s[k]'hlt).toNat : Int)
        · go_wp2
          go_ret
          exact ⟨ret_int (by rw [figR_no (figB_no_at hlt (by rw [HBT.out]; omega))]), rfl⟩
        · by_cases h3 : 9 ≤ k
          · have h3' : 9 ≤ (k : Int) := by omega
            go_wp2
            go_ret
            exact ⟨ret_int (by rw [figR_no (by simp [figB]; omega)]), rfl⟩
          · have h3' : ¬ 9 ≤ (k : Int) := by omega
            generalize hfn : figN s k = fn at *
            have HFN : Hid (figN s (k + 1) = 10 * fn + (((s[k]'hlt).toNat : Int) - 48).toNat) := by unfold Hid; rw [figN, HBT.out, hfn]
            go_wp2
            go_round
            case rel => exact ⟨k + 1, by omega, by omega, by go_num, by rw [HFN.out]; go_num, allTo_snoc _ _ HF.out (by rw [HBT.out]; exact (figureB_iff _).2 ⟨by omega, by omega⟩)⟩
            case measure => simp [intOf]; omega
    · have hks : k = s.size := by omega
      subst hks
      by_cases h0 : s.size = 0
      · go_wp2
        go_ret
        exact ⟨ret_int (by rw [figR_no (by simp [figB, h0])]), rfl⟩
      · have h0' : ¬ (s.size : Int) = 0 := by omega
        have hp : 0 < s.size := by omega
        have hbt := byteAt_eq s 0 hp
        have HBT : Hid (byteAt s 0 = ((s[0]'hp).toNat : Int)) := hbt
        clear hbt
        by_cases h1 : 1 < s.size
        · have h1' : 1 < (s.size : Int) := by omega
          by_cases h2 : ((s[0]'hp).toNat : Int) = 48
          · have h2b : ((((s[0]'hp).toNat : Int) == 48) = true) := by simpa using h2
            have h0b : (((s.size : Int) == 0) = false) := by simpa using h0'
            go_wp2
            go_ret
            exact ⟨ret_int (by rw [figR_no (by simp [figB, h1, HBT.out, h2])]), rfl⟩
          · have HY : Hid (figB s = true) := by unfold Hid; simp only [figB, Bool.and_eq_true, decide_eq_true_eq, Bool.not_eq_true', Bool.and_eq_false_iff, decide_eq_false_iff_not]; exact ⟨⟨⟨by omega, by omega⟩, .inr (by rw [HBT.out]; exact h2)⟩, HF.out⟩
            have h2b : ((((s[0]'hp).toNat : Int) == 48) = false) := by simpa using h2
            have h0b : (((s.size : Int) == 0) = false) := by simpa using h0'
            go_wp2
            go_ret
            exact ⟨ret_int (by rw [figR_yes HY.out]; rfl), rfl⟩
        · have h1' : ¬ 1 < (s.size : Int) := by omega
          have HY : Hid (figB s = true) := by unfold Hid; simp only [figB, Bool.and_eq_true, decide_eq_true_eq, Bool.not_eq_true', Bool.and_eq_false_iff, decide_eq_false_iff_not]; exact ⟨⟨⟨by omega, by omega⟩, .inl (by omega)⟩, HF.out⟩
          go_wp2
          go_ret
          exact ⟨ret_int (by rw [figR_yes HY.out]; rfl), rfl⟩
end Go.Proofs.YtjkimadnopeakaaGreatDoor

/- Pieces of a text that is cut: how they are told, how long they are. -/
namespace Go.Proofs.YtjkimadnopeakaaGreatDoor
open Go.RowKit
set_option linter.unusedVariables false

def pat (ps : List ByteArray) (i : Nat) : ByteArray := ps.getD i ⟨#[]⟩
theorem pat_get (ps : List ByteArray) (i : Nat) (h : i < ps.length) : pat ps i = ps[i] := by unfold pat; rw [List.getD_eq_getElem?_getD, List.getElem?_eq_getElem h]; rfl
theorem cuts_size (b : UInt8) : ∀ (k : Nat) (s : ByteArray), ∀ p ∈ cuts b k s, p.size ≤ s.size
  | 0, s, p, h => by rw [cuts_zero] at h; simp at h; rw [h]; exact Nat.le_refl _
  | k + 1, s, p, h => by
    unfold cuts at h
    rcases Lib.indexB_cases s ⟨#[b]⟩ with hix | ⟨i, hix, hroom⟩
    · rw [Lib.splitB_miss _ _ _ _ hix] at h
      simp at h
      rw [h]
      exact Nat.le_refl _
    · rw [Lib.splitB_hit _ _ _ _ _ hix, List.mem_cons] at h
      rcases h with rfl | h
      · rw [ByteArray.size_extract]; omega
      · have := cuts_size b k _ p h
        rw [ByteArray.size_extract] at this
        omega
theorem pat_size (b : UInt8) (k : Nat) (s : ByteArray) (i : Nat) (h : i < (cuts b k s).length) : (pat (cuts b k s) i).size ≤ s.size := by
  rw [pat_get _ _ h]
  exact cuts_size b k s _ (List.getElem_mem h)
/-- Is a text cut in two? -/
def two (b : UInt8) (p : ByteArray) : Bool := decide (2 ≤ (cuts b 1 p).length)
theorem two_no {b : UInt8} {p : ByteArray} (h : two b p = false) : cuts b 1 p = [p] ∧ (⟨(Lib.cut p.data.toList [b]).1.toArray⟩ : ByteArray) = p ∧ (⟨(Lib.cut p.data.toList [b]).2.1.toArray⟩ : ByteArray) = ⟨#[]⟩ ∧ (Lib.cut p.data.toList [b]).2.2 = false := by
  unfold two cuts at h
  rcases Lib.indexB_cases p ⟨#[b]⟩ with hix | ⟨i, hix, hroom⟩
  · exact ⟨Lib.splitB_miss _ _ _ _ hix, Lib.cutB_miss p ⟨#[b]⟩ hix⟩
  · rw [Lib.splitB_hit _ _ _ _ _ hix] at h
    simp [Lib.splitB] at h
theorem two_yes {b : UInt8} {p : ByteArray} (h : two b p = true) : cuts b 1 p = [pat (cuts b 1 p) 0, pat (cuts b 1 p) 1] ∧ (⟨(Lib.cut p.data.toList [b]).1.toArray⟩ : ByteArray) = pat (cuts b 1 p) 0 ∧ (⟨(Lib.cut p.data.toList [b]).2.1.toArray⟩ : ByteArray) = pat (cuts b 1 p) 1 ∧ (Lib.cut p.data.toList [b]).2.2 = true := by
  unfold two at h
  rcases Lib.indexB_cases p ⟨#[b]⟩ with hix | ⟨i, hix, hroom⟩
  · unfold cuts at h
    rw [Lib.splitB_miss _ _ _ _ hix] at h
    simp at h
  · have e : cuts b 1 p = [p.extract 0 (i + 0), p.extract (i + (⟨#[b]⟩ : ByteArray).size) p.size] := by
      unfold cuts
      rw [Lib.splitB_hit _ _ _ _ _ hix]
      rfl
    rw [e]
    exact ⟨rfl, Lib.cutB_hit p ⟨#[b]⟩ i hix⟩
theorem two_join {b : UInt8} {p : ByteArray} (h : two b p = true) : p = pat (cuts b 1 p) 0 ++ ⟨#[b]⟩ ++ pat (cuts b 1 p) 1 := by
  have hj := join_cuts b 1 p
  rw [(two_yes h).1] at hj
  apply ba_ext
  rw [← hj, List.map_cons, List.map_cons, List.map_nil, join_two, Lib.join_one, ByteArray.data_append, Array.toList_append, ByteArray.data_append, Array.toList_append]
theorem two_len {b : UInt8} {p : ByteArray} (h : two b p = true) : (cuts b 1 p).length = 2 := by rw [(two_yes h).1]; rfl
theorem two_len1 {b : UInt8} {p : ByteArray} (h : two b p = false) : (cuts b 1 p).length = 1 := by rw [(two_no h).1]; rfl
end Go.Proofs.YtjkimadnopeakaaGreatDoor

/- Which documents are ok: plain mathematics. -/
namespace Go.Proofs.YtjkimadnopeakaaGreatDoor
open Go.RowKit
set_option linter.unusedVariables false

def below0 (s : ByteArray) : Bool := decide (0 < s.size) && decide (byteAt s 0 = 45)
/-- A text is a number. -/
def numT (s : ByteArray) : Bool := if below0 s then figB (s.extract 1 s.size) && decide (numB (s.extract 1 s.size) ≠ 0) else figB s
def tparts (s : ByteArray) : List ByteArray := cuts 44 (manyB 44 s) s
/-- A text is tags. -/
def tagT (s : ByteArray) : Bool := (tparts s).all nameI && decide ((tparts s).length ≤ 4)
def cellT (k : Int) (s : ByteArray) : Bool := if k = 2 then numT s else if k = 3 then tagT s else textB s
def dcelOk (fs : List Fld) (cs : List Cel) (i : Nat) : Bool := decide (fidx fs (cat cs i).name < fs.length) && cellT (fat fs (fidx fs (cat cs i).name)).kind (cat cs i).text
def docOkB (fs : List Fld) (key : ByteArray) (cs : List Cel) : Bool := fieldsB fs && formB key cs && allTo (dcelOk fs cs) cs.length

theorem docOk_no {fs : List Fld} {key : ByteArray} {cs : List Cel} {k : Nat} (hk : k < cs.length) (h : dcelOk fs cs k = false) : docOkB fs key cs = false := by
  unfold docOkB
  rw [allTo_false _ _ k hk h, Bool.and_false]
/-- As the model tells a number. -/
def numS (s : ByteArray) : Bool := if (decide (1 < s.size) && decide (byteAt s 0 = 45)) then decide (0 < figR (s.extract 1 s.size)) else decide (0 ≤ figR s)
theorem figB_dash {s : ByteArray} (h0 : 0 < s.size) (h : byteAt s 0 = 45) : figB s = false := figB_no_at h0 (by omega)
theorem num_same (s : ByteArray) : numS s = numT s := by
  unfold numS numT below0
  by_cases h0 : 0 < s.size
  · by_cases hb : byteAt s 0 = 45
    · rw [show (decide (0 < s.size) && decide (byteAt s 0 = 45)) = true from by simp [h0, hb]]
      by_cases h1 : 1 < s.size
      · rw [show (decide (1 < s.size) && decide (byteAt s 0 = 45)) = true from by simp [h1, hb]]
        simp only [if_true]
        cases hf : figB (s.extract 1 s.size) with
        | false => rw [figR_no hf]; rfl
        | true =>
          rw [figR_yes hf, Bool.true_and]
          exact decide_eq_decide.2 (by omega)
      · rw [show (decide (1 < s.size) && decide (byteAt s 0 = 45)) = false from by simp [h1]]
        simp only [if_true, Bool.false_eq_true, if_false]
        have hz : (s.extract 1 s.size).size = 0 := by rw [ByteArray.size_extract]; omega
        have hf : figB (s.extract 1 s.size) = false := by unfold figB; rw [hz]; rfl
        rw [hf, figR_no (figB_dash h0 hb)]
        rfl
    · rw [show (decide (0 < s.size) && decide (byteAt s 0 = 45)) = false from by simp [hb], show (decide (1 < s.size) && decide (byteAt s 0 = 45)) = false from by simp [hb]]
      simp only [Bool.false_eq_true, if_false]
      cases hf : figB s with
      | false => rw [figR_no hf]; rfl
      | true => rw [figR_yes hf]; simp
  · rw [show (decide (0 < s.size) && decide (byteAt s 0 = 45)) = false from by simp [h0], show (decide (1 < s.size) && decide (byteAt s 0 = 45)) = false from by simp; omega]
    simp only [Bool.false_eq_true, if_false]
    cases hf : figB s with
    | false => rw [figR_no hf]; rfl
    | true => rw [figR_yes hf]; simp
/-- As the model tells a cell. -/
def cellS (k : Int) (s : ByteArray) : Bool := textB s && (k == 1 || (k == 2 && numS s) || (k == 3 && tagT s))
theorem cell_same {k : Int} {s : ByteArray} (hk : k = 1 ∨ k = 2 ∨ k = 3) (ht : textB s = true) : cellS k s = cellT k s := by
  unfold cellS cellT
  rw [ht, num_same]
  rcases hk with rfl | rfl | rfl <;> simp
end Go.Proofs.YtjkimadnopeakaaGreatDoor

/- Lists of texts in order: insertion, sort and compaction. -/
namespace Go.Proofs.YtjkimadnopeakaaGreatDoor
open Go.RowKit
abbrev L := List UInt8
theorem lt_tr {a b c : L} (h1 : a < b) (h2 : b < c) : a < c := List.lt_trans h1 h2
theorem lt_ir (a : L) : ¬ a < a := List.lt_irrefl a
theorem lt_of_le_ne {a b : L} (h1 : a ≤ b) (h2 : a ≠ b) : a < b := by
  rcases Classical.em (a < b) with h | h
  · exact h
  · exact absurd (List.le_antisymm h1 (List.not_lt.1 h)) h2
theorem le_lt {a b c : L} (h1 : a ≤ b) (h2 : b < c) : a < c := by
  rcases Classical.em (a = b) with h | h
  · rw [h]; exact h2
  · exact lt_tr (lt_of_le_ne h1 h) h2
/-- Two ascending lists with the same members are one. -/
theorem asc_ext : ∀ {xs ys : List L}, xs.Pairwise (· < ·) → ys.Pairwise (· < ·) → (∀ a, a ∈ xs ↔ a ∈ ys) → xs = ys
  | [], [], _, _, _ => rfl
  | [], y :: ys, _, _, h => absurd ((h y).2 (by simp)) (by simp)
  | x :: xs, [], _, _, h => absurd ((h x).1 (by simp)) (by simp)
  | x :: xs, y :: ys, h1, h2, h => by
    rw [List.pairwise_cons] at h1 h2
    have hxy : x = y := by
      rcases List.mem_cons.1 ((h x).1 (by simp)) with e | e
      · exact e
      · rcases List.mem_cons.1 ((h y).2 (by simp)) with e2 | e2
        · exact e2.symm
        · exact absurd (lt_tr (h1.1 y e2) (h2.1 x e)) (lt_ir _)
    subst hxy
    congr 1
    refine asc_ext h1.2 h2.2 fun a => ⟨fun ha => ?_, fun ha => ?_⟩
    · rcases List.mem_cons.1 ((h a).1 (by simp [ha])) with e | e
      · exact absurd (e ▸ h1.1 a ha) (lt_ir _)
      · exact e
    · rcases List.mem_cons.1 ((h a).2 (by simp [ha])) with e | e
      · exact absurd (e ▸ h2.1 a ha) (lt_ir _)
      · exact e
theorem compact_asc (d : Array L) (hs : ∀ i j, i ≤ j → j < d.size → d[i]! ≤ d[j]!) : ∀ m, m ≤ d.size → (Lib.compactUpTo d m).Pairwise (· < ·) ∧ ∀ x, x ∈ Lib.compactUpTo d m ↔ ∃ j, j < m ∧ d[j]! = x
  | 0, _ => ⟨by simp [Lib.compactUpTo], fun x => by simp [Lib.compactUpTo]⟩
  | m + 1, hm => by
    obtain ⟨h1, h2⟩ := compact_asc d hs m (by omega)
    rw [Lib.compactUpTo_succ]
    cases hk : Lib.keeps d m with
    | true =>
      have hlt : ∀ x ∈ Lib.compactUpTo d m, x < d[m]! := fun x hx => by
        obtain ⟨j, hj, rfl⟩ := (h2 x).1 hx
        have hne : d[m]! ≠ d[m - 1]! := by
          have := hk
          unfold Lib.keeps at this
          rcases of_decide_eq_true this with e | e
          · omega
          · exact e
        exact le_lt (hs j (m - 1) (by omega) (by omega)) (lt_of_le_ne (hs (m - 1) m (by omega) (by omega)) (Ne.symm hne))
      refine ⟨?_, fun x => ?_⟩
      · rw [if_pos rfl, List.pairwise_append]
        exact ⟨h1, by simp, fun a ha b hb => by simp at hb; subst hb; exact hlt a ha⟩
      · rw [if_pos rfl, List.mem_append, h2]
        constructor
        · rintro (⟨j, hj, e⟩ | h)
          · exact ⟨j, by omega, e⟩
          · simp at h; exact ⟨m, by omega, h.symm⟩
        · rintro ⟨j, hj, e⟩
          by_cases hjm : j < m
          · exact .inl ⟨j, hjm, e⟩
          · obtain rfl : j = m := by omega
            exact .inr (by simp [e])
    | false =>
      rw [if_neg (by simp), List.append_nil]
      refine ⟨h1, fun x => ?_⟩
      rw [h2]
      constructor
      · rintro ⟨j, hj, e⟩
        exact ⟨j, by omega, e⟩
      · rintro ⟨j, hj, e⟩
        by_cases hjm : j < m
        · exact ⟨j, hjm, e⟩
        · obtain rfl : j = m := by omega
          unfold Lib.keeps at hk
          have := of_decide_eq_false hk
          have h0 : ¬ (j = 0) := fun h => this (.inl h)
          have he : d[j]! = d[j - 1]! := Classical.byContradiction fun h => this (.inr h)
          exact ⟨j - 1, by omega, by rw [← he, e]⟩
theorem merge_le (xs : List L) : ∀ i j, i ≤ j → j < (xs.mergeSort fun x y => decide (x ≤ y)).toArray.size → (xs.mergeSort fun x y => decide (x ≤ y)).toArray[i]! ≤ (xs.mergeSort fun x y => decide (x ≤ y)).toArray[j]! := by
  intro i j hij hj
  have hp : (xs.mergeSort fun x y => decide (x ≤ y)).Pairwise fun a b => (decide (a ≤ b)) = true := List.pairwise_mergeSort (le := fun x y => decide (x ≤ y)) (fun a b c h1 h2 => decide_eq_true (List.le_trans (of_decide_eq_true h1) (of_decide_eq_true h2))) (fun a b => by have := List.le_total a b; simpa using this) xs
  generalize xs.mergeSort (fun x y => decide (x ≤ y)) = ys at *
  simp at hj
  by_cases e : i = j
  · subst e
    exact List.le_refl _
  · have := List.pairwise_iff_getElem.1 hp i j (by omega) hj (by omega)
    rw [getElem!_pos ys.toArray i (by simp; omega), getElem!_pos ys.toArray j (by simpa using hj)]
    simpa using this
/-- Sorted and compact: ascending, with the members of the list. -/
theorem sorted_asc (xs : List L) : (Lib.compact (xs.mergeSort fun x y => decide (x ≤ y))).Pairwise (· < ·) ∧ ∀ x, x ∈ Lib.compact (xs.mergeSort fun x y => decide (x ≤ y)) ↔ x ∈ xs := by
  obtain ⟨h1, h2⟩ := compact_asc _ (merge_le xs) (xs.mergeSort fun x y => decide (x ≤ y)).length (by simp)
  refine ⟨h1, fun x => ?_⟩
  unfold Lib.compact
  rw [h2, ← List.mem_mergeSort (le := fun x y => decide (x ≤ y)), List.mem_iff_getElem]
  constructor
  · rintro ⟨j, hj, e⟩
    exact ⟨j, hj, by rw [← e, getElem!_pos _ j (by simpa using hj)]; simp⟩
  · rintro ⟨j, hj, e⟩
    exact ⟨j, hj, by rw [← e, getElem!_pos _ j (by simpa using hj)]; simp⟩

def toL (s : ByteArray) : L := s.data.toList
/-- A text put into an ascending list, each once. -/
def addL : List ByteArray → ByteArray → List ByteArray
  | [], t => [t]
  | x :: xs, t => if Op.bytesLess x.toList t.toList = true then x :: addL xs t else if (x.toList == t.toList) = true then x :: xs else t :: x :: xs
theorem bytesLess_lt : ∀ (x y : L), Op.bytesLess x y = decide (x < y)
  | [], [] => by simp [Op.bytesLess]
  | _ :: _, [] => by simp [Op.bytesLess]
  | [], _ :: _ => by simp [Op.bytesLess]
  | a :: x, b :: y => by
    rw [Op.bytesLess, bytesLess_lt x y]
    simp only [List.cons_lt_cons_iff]
    by_cases h1 : a < b <;> by_cases h2 : a = b <;> by_cases h3 : x < y <;> simp [h1, h2, h3]
theorem toL_inj {a b : ByteArray} (h : toL a = toL b) : a = b := by
  cases a; cases b
  unfold toL at h
  simpa using h
theorem less_toL (x t : ByteArray) : Op.bytesLess x.toList t.toList = decide (toL x < toL t) := by
  rw [ByteArray.toList_eq, ByteArray.toList_eq, bytesLess_lt]; rfl
theorem eq_toL (x t : ByteArray) : (x.toList == t.toList) = decide (x = t) := by
  rw [ByteArray.toList_eq, ByteArray.toList_eq]
  by_cases h : x = t
  · subst h; simp
  · have : ¬ toL x = toL t := fun e => h (toL_inj e)
    unfold toL at this
    rw [decide_eq_false h]
    exact beq_eq_false_iff_ne.2 this
def AscB (ss : List ByteArray) : Prop := ss.Pairwise fun a b => toL a < toL b
theorem addL_mem (t : ByteArray) : ∀ (ss : List ByteArray) (a : ByteArray), a ∈ addL ss t ↔ a ∈ ss ∨ a = t
  | [], a => by simp [addL]
  | x :: xs, a => by
    unfold addL
    split
    · rw [List.mem_cons, addL_mem t xs a, List.mem_cons, or_assoc]
    · split
      · rename_i h
        rw [eq_toL] at h
        have := of_decide_eq_true h
        subst this
        simp
        exact fun h => .inl h
      · rw [List.mem_cons, or_comm]
theorem addL_asc (t : ByteArray) : ∀ (ss : List ByteArray), AscB ss → AscB (addL ss t)
  | [], _ => by simp [addL, AscB]
  | x :: xs, h => by
    unfold AscB at h
    rw [List.pairwise_cons] at h
    unfold addL
    split
    · rename_i hl
      rw [less_toL] at hl
      refine List.pairwise_cons.2 ⟨fun a ha => ?_, addL_asc t xs h.2⟩
      rcases (addL_mem t xs a).1 ha with e | e
      · exact h.1 a e
      · rw [e]; exact of_decide_eq_true hl
    · rename_i hl
      split
      · exact List.pairwise_cons.2 h
      · rename_i he
        rw [less_toL] at hl
        rw [eq_toL] at he
        have h1 : ¬ toL x < toL t := by simpa using hl
        have h2 : ¬ x = t := by simpa using he
        have h3 : toL t < toL x := lt_of_le_ne (List.not_lt.1 h1) (fun e => h2 (toL_inj e.symm))
        refine List.pairwise_cons.2 ⟨fun a ha => ?_, List.pairwise_cons.2 h⟩
        rcases List.mem_cons.1 ha with e | e
        · rw [e]; exact h3
        · exact lt_tr h3 (h.1 a e)
def insAll (ps : List ByteArray) : List ByteArray := ps.foldl addL []
theorem fold_add : ∀ (ps ss : List ByteArray), AscB ss → AscB (ps.foldl addL ss) ∧ ∀ a, a ∈ ps.foldl addL ss ↔ a ∈ ss ∨ a ∈ ps
  | [], ss, h => ⟨h, fun a => by simp⟩
  | p :: ps, ss, h => by
    obtain ⟨h1, h2⟩ := fold_add ps (addL ss p) (addL_asc p ss h)
    refine ⟨h1, fun a => ?_⟩
    rw [List.foldl_cons, h2, addL_mem, List.mem_cons, or_assoc]
def ofL (l : List UInt8) : ByteArray := ⟨l.toArray⟩
theorem map_ofL (ss : List ByteArray) : (ss.map toL).map ofL = ss := by
  rw [List.map_map]
  exact List.map_id'' (fun a => rfl) ss
/-- The model's insertion is the program's sort and compaction. -/
theorem ins_names (ps : List ByteArray) : insAll ps = (Lib.compact ((ps.map toL).mergeSort fun x y => decide (x ≤ y))).map ofL := by
  obtain ⟨h1, h2⟩ := fold_add ps [] List.Pairwise.nil
  obtain ⟨h3, h4⟩ := sorted_asc (ps.map toL)
  rw [← asc_ext (xs := (insAll ps).map toL) (List.pairwise_map.2 h1) h3 fun a => ?_, map_ofL]
  rw [h4, List.mem_map, List.mem_map]
  constructor
  · rintro ⟨b, hb, e⟩
    exact ⟨b, by simpa using (h2 b).1 hb, e⟩
  · rintro ⟨b, hb, e⟩
    exact ⟨b, (h2 b).2 (.inr hb), e⟩
/-- All before place k are less than t. -/
def LtTo (ss : List ByteArray) (t : ByteArray) (k : Nat) : Prop := ∀ (j : Nat) (h : j < ss.length), j < k → Op.bytesLess ss[j].toList t.toList = true
theorem addL_take (t : ByteArray) : ∀ (ss : List ByteArray) (k : Nat), LtTo ss t k → addL ss t = ss.take k ++ addL (ss.drop k) t
  | ss, 0, _ => by simp
  | [], k + 1, _ => by simp
  | x :: xs, k + 1, h => by
    have h0 : Op.bytesLess x.toList t.toList = true := h 0 (by simp) (by omega)
    have := addL_take t xs k fun j hj hk => h (j + 1) (by simpa using hj) (by omega)
    rw [addL, if_pos h0, this]
    rfl
theorem addL_eq {t : ByteArray} {ss : List ByteArray} {k : Nat} (h : LtTo ss t k) (hk : k < ss.length) (h1 : Op.bytesLess ss[k].toList t.toList = false) (h2 : (ss[k].toList == t.toList) = true) : addL ss t = ss := by
  rw [addL_take t ss k h, List.drop_eq_getElem_cons hk, addL, if_neg (by rw [h1]; decide), if_pos h2, ← List.drop_eq_getElem_cons hk, List.take_append_drop]
theorem addL_in {t : ByteArray} {ss : List ByteArray} {k : Nat} (h : LtTo ss t k) (hk : k < ss.length) (h1 : Op.bytesLess ss[k].toList t.toList = false) (h2 : (ss[k].toList == t.toList) = false) : addL ss t = ss.take k ++ [t] ++ ss.drop k := by
  rw [addL_take t ss k h, List.drop_eq_getElem_cons hk, addL, if_neg (by rw [h1]; decide), if_neg (by rw [h2]; decide), List.append_assoc]
  rfl
theorem addL_end {t : ByteArray} {ss : List ByteArray} {k : Nat} (h : LtTo ss t k) (hk : ss.length ≤ k) : addL ss t = ss.take k ++ [t] := by
  rw [addL_take t ss k h, List.drop_of_length_le hk]
  rfl
theorem LtTo.step {ss : List ByteArray} {t : ByteArray} {k : Nat} (h : LtTo ss t k) (hk : k < ss.length) (h1 : Op.bytesLess ss[k].toList t.toList = true) : LtTo ss t (k + 1) := by
  intro j hj hjk
  by_cases e : j = k
  · subst e; exact h1
  · exact h j hj (by omega)
theorem LtTo.zero (ss : List ByteArray) (t : ByteArray) : LtTo ss t 0 := fun _ _ h => absurd h (Nat.not_lt_zero _)
end Go.Proofs.YtjkimadnopeakaaGreatDoor

/- Rows of texts at the head of a block of their own. -/
namespace Go.Proofs.YtjkimadnopeakaaGreatDoor
open Go.RowKit Go.Sort
set_option linter.unusedVariables false

theorem ofL_toL (s : ByteArray) : ofL (toL s) = s := rfl
theorem heap_putRow {α : Type} [Inhabited α] (enc : α → Value) (w : World) (blk off : Nat) (d : Array α) (k : Nat) (h : k ≠ blk) : (putRow enc w blk off d).heap[k]? = w.heap[k]? := by
  unfold putRow mapBlock
  simp [Array.getElem?_modify, Ne.symm h]
theorem below_putS (w w' : World) (blk : Nat) (d : Array (List UInt8)) (n : Nat) (hb : Below w.heap.size w w') (h : w.heap.size ≤ blk) : Below w.heap.size w (putRow encStr (Sort.ahead w' n) blk 0 d) :=
  ⟨hb.os, hb.tape, hb.output, by rw [size_putRow]; exact hb.size, fun k hk => (heap_putRow _ _ _ _ _ _ (by omega)).trans (hb.block k hk)⟩
theorem below_grow (w w' : World) (os : Array Obj) (hb : Below w.heap.size w w') : Below w.heap.size w (grow w' os) :=
  ⟨hb.os, hb.tape, hb.output, by rw [size_grow]; have := hb.size; omega, fun k hk => (heap_grow_old _ _ (by have := hb.size; omega)).trans (hb.block k hk)⟩
/-- A block of n cells of texts. -/
def CellsAt (w : World) (g n : Nat) : Prop := ∃ cur, w.heap[g]? = some (.cells cur 9 (0, 0)) ∧ cur.size = n
theorem CellsAt.put {w : World} {g n : Nat} (h : CellsAt w g n) (q : Nat) (d : Array (List UInt8)) : CellsAt (putRow encStr (Sort.ahead w q) g 0 d) g n := by
  obtain ⟨cur, h1, h2⟩ := h
  refine ⟨putCells encStr 0 d cur, ?_, by unfold putCells; rw [Array.size_mapIdx]; exact h2⟩
  unfold putRow mapBlock
  simp only [Array.getElem?_modify, if_true]
  show (w.heap[g]?).map (onCells (putCells encStr 0 d)) = _
  rw [h1]
  rfl
theorem CellsAt.grow {w : World} {g n : Nat} (h : CellsAt w g n) (os : Array Obj) : CellsAt (Sort.grow w os) g n := by
  obtain ⟨cur, h1, h2⟩ := h
  have hg : g < w.heap.size := by
    rcases Nat.lt_or_ge g w.heap.size with h | h
    · exact h
    · rw [Array.getElem?_eq_none h] at h1
      cases h1
  exact ⟨cur, (heap_grow_old _ _ hg).trans h1, h2⟩
/-- A row of texts at the head of a block of its own. -/
def OwnRow (w : World) (g c : Nat) (ss : List ByteArray) : Prop := w.ownsRow g 9 1 (.slice (some ⟨g, 0, none⟩) ss.length c) ss.length (ss.map Value.string)
theorem OwnRow.of {w : World} {g n : Nat} {ss : List ByteArray} (h : CellsAt w g n) (hr : StrRow w (some ⟨g, 0, none⟩) ss) (hn : ss.length ≤ n) (hm : n ≤ maxLen) : OwnRow w g n ss := by
  obtain ⟨cur, h1, h2⟩ := h
  refine ⟨by simp, .inr ⟨g, n, cur, rfl, Nat.le_refl _, h1, hn, hm, by omega, ?_⟩⟩
  apply List.ext_getElem?
  intro i
  by_cases hi : i < ss.length
  · obtain ⟨g', e, _, hc⟩ := hr (by omega)
    cases e
    have hci := hc i hi
    rw [List.getElem?_take, if_pos (by omega), List.getElem?_map, List.getElem?_eq_getElem hi]
    rw [List.getD_eq_getElem?_getD, List.getElem?_eq_getElem hi] at hci
    simp [World.cell?, h1] at hci
    simpa using hci
  · rw [List.getElem?_eq_none (by simp; omega), List.getElem?_eq_none (by simp; omega)]
theorem OwnRow.row {w : World} {g c : Nat} {ss : List ByteArray} (h : OwnRow w g c ss) : StrRow w (some ⟨g, 0, none⟩) ss := by
  obtain ⟨p, c', e, hr⟩ := owns_strRow h
  cases e
  exact hr
theorem OwnRow.le {w : World} {g c : Nat} {ss : List ByteArray} (h : OwnRow w g c ss) : ss.length ≤ c := by
  rcases h.2 with ⟨e, _⟩ | ⟨g', c', cur, e, _, _, h, _⟩
  · cases e
  · cases e; exact h
theorem OwnRow.heap {w w' : World} {g c : Nat} {ss : List ByteArray} (h : OwnRow w g c ss) (he : w'.heap[g]? = w.heap[g]?) : OwnRow w' g c ss := by
  refine ⟨h.1, ?_⟩
  rcases h.2 with h2 | ⟨g', c', cur, e, h3, h4, h5⟩
  · exact .inl h2
  · cases e
    exact .inr ⟨g, c, cur, rfl, h3, he.trans h4, h5⟩
theorem OwnRow.lt {w : World} {g c : Nat} {ss : List ByteArray} (h : OwnRow w g c ss) : g < w.heap.size := by
  rcases h.2 with ⟨e, _⟩ | ⟨g', c', cur, e, _, h4, _⟩
  · cases e
  · cases e
    rcases Nat.lt_or_ge g w.heap.size with h | h
    · exact h
    · rw [Array.getElem?_eq_none h] at h4
      cases h4
theorem OwnRow.below {w w' : World} {g c : Nat} {ss : List ByteArray} (h : OwnRow w g c ss) (hb : Below w.heap.size w w') : OwnRow w' g c ss := h.heap (hb.block g h.lt)
theorem OwnRow.set {w : World} {g c : Nat} {ss : List ByteArray} (h : OwnRow w g c ss) {p : Addr} (hne : g ≠ p.block) (v : Value) : OwnRow (w.setCell p v) g c ss := h.heap (Below.heap_setCell _ _ _ _ hne)
theorem alloc_at (w : World) (o : Obj) : (w.alloc o).heap[w.heap.size]? = some o := Array.getElem?_push_size
end Go.Proofs.YtjkimadnopeakaaGreatDoor

/- The tags of a text in order, each once: Split, Sort and Compact of the program. -/
namespace Go.Proofs.YtjkimadnopeakaaGreatDoor
open Go.RowKit Go.Sort
set_option linter.unusedVariables false

/-- The tags of a text, in order, each once. -/
def sortedL (s : ByteArray) : List (List UInt8) := ((tparts s).map toL).mergeSort fun x y => decide (x ≤ y)
def namesL (s : ByteArray) : List ByteArray := (Lib.compact (sortedL s)).map ofL
theorem sortedL_len (s : ByteArray) : (sortedL s).length = (tparts s).length := by unfold sortedL; rw [List.length_mergeSort, List.length_map]
theorem split_new (s : ByteArray) (b : UInt8) (w : World) (hs : s.size ≤ 1048576) (hm : MaxL w) :
    Calls Tryz.prog 153 #[.string s, .string ⟨#[b]⟩] w fun e w' => e = .returned (.slice (some ⟨w.heap.size, 0, none⟩) (manyB b s + 1) (manyB b s + 1)) ∧ Holds encStr w' w.heap.size 0 ((cuts b (manyB b s) s).map toL).toArray ∧ w.heap.size < w'.heap.size ∧ CellsAt w' w.heap.size (manyB b s + 1) ∧ Below w.heap.size w w' := by
  obtain ⟨m, hm⟩ := hm
  refine (Tryz.strings_Split s ⟨#[b]⟩ m w (by omega) hm (Nat.le_refl 1)).mono ?_
  rintro e w' ⟨rfl, rfl⟩
  refine ⟨rfl, fun j hj => ?_, by simp, ⟨((cuts b (manyB b s) s).map Value.string).toArray, alloc_at w _, by have := cuts_full_len b s; simpa using this⟩, (Below.refl _ w).alloc (Nat.le_refl _) _⟩
  simp only [List.size_toArray, List.length_map] at hj
  rw [Nat.zero_add]
  constructor
  · rw [World.cell?_alloc_new]
    show (((cuts b (manyB b s) s).map Value.string).toArray)[j]? = _
    rw [List.getElem?_toArray, List.getElem?_map, List.getElem?_eq_getElem hj, getElem!_pos _ j (by simpa using hj)]
    simp [encStr, toL]
  · exact World.frozen?_alloc_new _ _ _ _

set_option maxHeartbeats 1000000 in
theorem names_any (s : ByteArray) (w : World) (hs : s.size ≤ 1048576) (hm : MaxL w) :
    Calls Tryz.prog 144 #[.string s] w fun e w' => ∃ c, e = .returned (.slice (some ⟨w.heap.size, 0, none⟩) (namesL s).length c) ∧ OwnRow w' w.heap.size c (namesL s) ∧ Below w.heap.size w w' := by
  have hlen : (tparts s).length = manyB 44 s + 1 := cuts_full_len 44 s
  have hmn := manyB_le 44 s
  obtain ⟨n, hn⟩ : ∃ n, n = manyB 44 s + 1 := ⟨_, rfl⟩
  have HSP : Hid (∀ w, MaxL w → Calls Tryz.prog 153 #[.string s, .string ⟨#[44]⟩] w fun e w' => e = .returned (.slice (some ⟨w.heap.size, 0, none⟩) n n) ∧ Holds encStr w' w.heap.size 0 ((tparts s).map toL).toArray ∧ w.heap.size < w'.heap.size ∧ CellsAt w' w.heap.size n ∧ Below w.heap.size w w') := fun w hm => by rw [hn]; exact split_new s 44 w hs hm
  have HSO : Hid (∀ g wx, Holds encStr wx g 0 ((tparts s).map toL).toArray → g < wx.heap.size → Calls Tryz.prog 157 #[.slice (some ⟨g, 0, none⟩) n n] wx fun e w' => e = .returned (.tuple #[]) ∧ ∃ q os, w' = grow (putRow encStr (Sort.ahead wx q) g 0 (sortedL s).toArray) os) := fun g wx h1 h2 => by
    have h := Tryz.slices_Sort_string g 0 n ((tparts s).map toL) wx h1 h2 (by rw [List.length_map]; omega)
    rw [List.length_map, hlen, ← hn] at h
    exact h
  have HCO : Hid (∀ g wx, Holds encStr wx g 0 (sortedL s).toArray → Calls Tryz.prog 158 #[.slice (some ⟨g, 0, none⟩) n n] wx fun e w' => e = .returned (.slice (some ⟨g, 0, none⟩) (namesL s).length n) ∧ ∃ q, w' = putRow encStr (Sort.ahead wx q) g 0 (Lib.compact (sortedL s) ++ List.replicate (n - (Lib.compact (sortedL s)).length) []).toArray) := fun g wx h1 => by
    have h := Tryz.slices_Compact_string g 0 n (sortedL s) wx h1 (by rw [sortedL_len]; omega) (by rw [sortedL_len]; omega)
    rw [sortedL_len, hlen, ← hn] at h
    rw [show (namesL s).length = (Lib.compact (sortedL s)).length from List.length_map _]
    exact h
  have HCL : Hid ((Lib.compact (sortedL s)).length ≤ n) := by
    have := Lib.compact_length_le (sortedL s)
    rw [sortedL_len] at this
    unfold Hid
    omega
  have HSL : Hid ((sortedL s).length = n) := by unfold Hid; rw [sortedL_len, hlen, hn]
  have HTL : Hid ((tparts s).length = n) := by unfold Hid; rw [hlen, hn]
  have hnm : n ≤ 2000000 := by omega
  clear hn hlen hmn
  go_enter Tryz.func144, Tryz.ntmps144
  go_wp2_with fail
  refine (HSP.out _ hm).mono ?_
  rintro e w1 ⟨rfl, hh1, hz1, hC1, hb1⟩
  clear HSP hm
  go_wp2_with fail
  refine (HSO.out _ _ hh1 hz1).mono ?_
  rintro e w2 ⟨rfl, q, os, rfl⟩
  have hh2 : Holds encStr (grow (putRow encStr (Sort.ahead w1 q) w.heap.size 0 (sortedL s).toArray) os) w.heap.size 0 (sortedL s).toArray := holds_grow _ _ _ _ _ _ (by rw [size_putRow]; exact hz1) (holds_putRow _ _ _ _ _ _ (holds_ahead _ _ _ _ _ _ hh1) (by simp [HSL.out, HTL.out]))
  have hb2 := below_grow w _ os (below_putS w w1 w.heap.size (sortedL s).toArray q hb1 (Nat.le_refl _))
  have hC2 := (hC1.put q (sortedL s).toArray).grow os
  clear hh1 hz1 hb1 HSO hC1
  generalize grow (putRow encStr (Sort.ahead w1 q) w.heap.size 0 (sortedL s).toArray) os = w2 at *
  go_wp2_with fail
  refine (HCO.out _ _ hh2).mono ?_
  rintro e w3 ⟨rfl, q3, rfl⟩
  have hb3 := below_putS w w2 w.heap.size (Lib.compact (sortedL s) ++ List.replicate (n - (Lib.compact (sortedL s)).length) []).toArray q3 hb2 (Nat.le_refl _)
  have hrow : StrRow (putRow encStr (Sort.ahead w2 q3) w.heap.size 0 (Lib.compact (sortedL s) ++ List.replicate (n - (Lib.compact (sortedL s)).length) []).toArray) (some ⟨w.heap.size, 0, none⟩) (namesL s) := fun hp => by
    have hsz : (Lib.compact (sortedL s) ++ List.replicate (n - (Lib.compact (sortedL s)).length) ([] : List UInt8)).toArray.size = (sortedL s).toArray.size := by
      have := HCL.out
      have := HSL.out
      simp
      omega
    refine ⟨_, rfl, ?_, fun i hi => ?_⟩
    · rw [size_putRow]
      exact cell_lt (hh2 0 (by have := HCL.out; have := HSL.out; unfold namesL at hp; simp at hp ⊢; omega)).1
    · have hi2 : i < (Lib.compact (sortedL s)).length := by unfold namesL at hi; simpa using hi
      have h := cell?_putRow encStr (Sort.ahead w2 q3) w.heap.size 0 (sortedL s).toArray _ (holds_ahead _ _ _ _ _ _ hh2) hsz i (by rw [List.size_toArray, List.length_append]; omega)
      rw [Nat.zero_add] at h
      rw [h, getElem!_pos _ i (by rw [List.size_toArray, List.length_append]; omega)]
      unfold namesL ofL
      rw [List.getD_eq_getElem?_getD, List.getElem?_map, List.getElem?_eq_getElem hi2]
      simp [List.getElem_append_left hi2]
  have hle : (namesL s).length ≤ n := by unfold namesL; rw [List.length_map]; exact HCL.out
  have hown := OwnRow.of (hC2.put q3 _) hrow hle (by unfold maxLen; omega)
  clear HCO hh2 HCL HSL HTL hrow hle hC2
  go_wp2
  go_ret
  exact ⟨n, rfl, hown, hb3⟩
end Go.Proofs.YtjkimadnopeakaaGreatDoor

/- figuresGet reads a number from 0 to NumMax. -/
namespace Go.Proofs.YtjkimadnopeakaaGreatDoor
open Go.RowKit
set_option linter.unusedVariables false

def figG (s : ByteArray) : Int := if figB s then (numB s : Int) else 0
theorem figG_no {s : ByteArray} (h : figB s = false) : figG s = 0 := by unfold figG; rw [h]; rfl
theorem figG_yes {s : ByteArray} (h : figB s = true) : figG s = (numB s : Int) := by unfold figG; rw [h]; rfl
theorem ret_fig {n n' : Int} {b b' : Bool} (h1 : n = n') (h2 : b = b') : Ending.returned (.tuple #[.int .i64 n, .bool b]) = .returned (.tuple #[.int .i64 n', .bool b']) := by rw [h1, h2]
theorem size_empty (s : ByteArray) (h : s.size = 0) : s = ⟨#[]⟩ := ba_ext (by
  have h' : s.data.toList.length = 0 := by simpa using h
  rw [List.eq_nil_of_length_eq_zero h'])
theorem size_noEmpty (s : ByteArray) (h : s.size ≠ 0) : s.toList.isEmpty = false := by
  rw [ByteArray.toList_eq]
  cases e : s.data.toList with
  | nil =>
    have h' : s.data.toList.length = 0 := by rw [e]; rfl
    exact absurd (by simpa using h') h
  | cons a b => rfl

set_option maxHeartbeats 1000000 in
theorem figuresGet_any (s : ByteArray) (w : World) (hs : s.size ≤ maxLen) :
    Calls Tryz.prog 156 #[.string s] w fun e w' => e = .returned (.tuple #[.int .i64 (figG s), .bool (figB s)]) ∧ w' = w := by
  unfold maxLen at hs
  by_cases h0 : s.size = 0
  · have hn : figB s = false := by simp [figB, h0]
    rw [figG_no hn, hn]
    have he := size_empty s h0
    subst he
    clear hn h0 hs
    go_enter Tryz.func156, Tryz.ntmps156
    go_wp2
    go_ret2
    exact ⟨rfl, rfl⟩
  have he := size_noEmpty s h0
  have hp : 0 < s.size := by omega
  by_cases h9 : 9 < s.size
  · have hn : figB s = false := by simp [figB]; omega
    rw [figG_no hn, hn]
    have h9' : 9 < (s.size : Int) := by omega
    clear hn
    go_enter Tryz.func156, Tryz.ntmps156
    go_wp2
    go_ret2
    exact ⟨rfl, rfl⟩
  have h9' : ¬ 9 < (s.size : Int) := by omega
  have hbt := byteAt_eq s 0 hp
  have HBT : Hid (byteAt s 0 = ((s[0]'hp).toNat : Int)) := hbt
  clear hbt
  by_cases hz : 1 < s.size ∧ ((s[0]'hp).toNat : Int) = 48
  · obtain ⟨h1, h2⟩ := hz
    have hn : figB s = false := by simp [figB, h1, HBT.out, h2]
    rw [figG_no hn, hn]
    have h1' : 1 < (s.size : Int) := by omega
    have h2b : ((((s[0]'hp).toNat : Int) == 48) = true) := by simpa using h2
    clear hn
    go_enter Tryz.func156, Tryz.ntmps156
    go_wp2
    go_ret2
    exact ⟨rfl, rfl⟩
  have HZ : Hid (¬ (1 < s.size ∧ byteAt s 0 = 48)) := by unfold Hid; rw [HBT.out]; exact hz
  have hgo : ((1 < (s.size : Int)) ∧ ((((s[0]'hp).toNat : Int) == 48) = false)) ∨ ¬ 1 < (s.size : Int) := by
    by_cases h1 : 1 < s.size
    · left
      exact ⟨by omega, by rw [beq_eq_false_iff_ne]; exact fun h2 => hz ⟨h1, h2⟩⟩
    · right
      omega
  clear hz HBT
  rcases hgo with ⟨h1', h2b⟩ | h1'
  all_goals
    go_enter Tryz.func156, Tryz.ntmps156
    go_wp2
    go_loop [4, 25] (fun n i => ∃ k : Nat, k ≤ s.size ∧ i = .int .i64 k ∧ n = .int .i64 (figN s k) ∧ figsTo s k = true) (fun _ i => s.size - (intOf i).toNat)
    case atStart => exact ⟨0, Nat.zero_le _, rfl, rfl, rfl⟩
    case round =>
      obtain ⟨k, hk, rfl, rfl, hf⟩ := hrel
      have HF : Hid (figsTo s k = true) := hf
      have hbd0 := figN_bd s k hf
      have hp9 : 10 ^ k ≤ 10 ^ 9 := Nat.pow_le_pow_right (by omega) (by omega)
      have hbd : figN s k < 1000000000 := by omega
      clear hf hbd0 hp9
      by_cases hlt : k < s.size
      · have hbt := byteAt_eq s k hlt
        have HBT : Hid (byteAt s k = ((s[k]'hlt).toNat : Int)) := hbt
        have hbb := byteAt_bd s k
        rw [hbt] at hbb
        clear hbt
        cases hfg : figureB ((s[k]'hlt).toNat : Int) with
        | false =>
          have hn : figB s = false := by
            refine figB_no_at hlt ?_
            rw [HBT.out]
            simp only [figureB, Bool.and_eq_false_iff, decide_eq_false_iff_not] at hfg
            omega
          have HNO : Hid (figB s = false) := hn
          clear hn
          go_wp2_with (go_at_call 135; refine (isFigure_any _ _).mono ?_; rintro e w' ⟨rfl, rfl⟩)
          go_ret2
          exact ⟨ret_fig (figG_no HNO.out).symm HNO.out.symm, rfl⟩
        | true =>
          have h48 := (figureB_iff _).1 hfg
          generalize hfn : figN s k = fn at *
          have HFN : Hid (figN s (k + 1) = 10 * fn + (((s[k]'hlt).toNat : Int) - 48).toNat) := by unfold Hid; rw [figN, HBT.out, hfn]
          go_wp2_with (go_at_call 135; refine (isFigure_any _ _).mono ?_; rintro e w' ⟨rfl, rfl⟩)
          go_round
          case rel => exact ⟨k + 1, by omega, by go_num, by rw [HFN.out]; go_num, allTo_snoc _ _ HF.out (by rw [HBT.out]; exact hfg)⟩
          case measure => simp [intOf]; omega
      · have hks : k = s.size := by omega
        subst hks
        have hy : figB s = true := by
          simp only [figB, Bool.and_eq_true, decide_eq_true_eq, Bool.not_eq_true', Bool.and_eq_false_iff, decide_eq_false_iff_not]
          refine ⟨⟨⟨by omega, by omega⟩, ?_⟩, HF.out⟩
          by_cases h1 : 1 < s.size
          · exact .inr fun h => HZ.out ⟨h1, h⟩
          · exact .inl h1
        have HYE : Hid (figB s = true) := hy
        clear hy
        go_wp2
        go_ret2
        exact ⟨ret_fig (figG_yes HYE.out).symm HYE.out.symm, rfl⟩
end Go.Proofs.YtjkimadnopeakaaGreatDoor

/- Numbers and tags of a cell: numGet, l1Number, the contents' ok, contentOf. -/
namespace Go.Proofs.YtjkimadnopeakaaGreatDoor
open Go.RowKit
set_option linter.unusedVariables false

def numV (s : ByteArray) : Int := if below0 s then -(numB (s.extract 1 s.size) : Int) else (numB s : Int)
def numW (s : ByteArray) : Int := if numT s = true then numV s else 0
theorem numW_no {s : ByteArray} (h : numT s = false) : numW s = 0 := by unfold numW; rw [h]; rfl
theorem numW_yes {s : ByteArray} (h : numT s = true) : numW s = numV s := by unfold numW; rw [h]; rfl
theorem prefix_dash (s : ByteArray) : Lib.hasPrefix s.data.toList [45] = below0 s ∧ (⟨(Lib.trimPrefix s.data.toList [45]).toArray⟩ : ByteArray) = if below0 s then s.extract 1 s.size else s := by
  have h1 : Lib.hasPrefix s.data.toList [45] = below0 s := by
    unfold Lib.hasPrefix below0
    cases hl : s.data.toList with
    | nil =>
      have : s.size = 0 := by have := congrArg List.length hl; simpa using this
      simp [this]
    | cons b l =>
      have hz : 0 < s.size := by have := congrArg List.length hl; simp at this; omega
      have hb : byteAt s 0 = (b.toNat : Int) := by unfold byteAt; rw [hl]; rfl
      rw [hb, decide_eq_true hz, Bool.true_and]
      cases e : decide (b = 45) with
      | true =>
        have := of_decide_eq_true e
        subst this
        rfl
      | false =>
        have e2 := of_decide_eq_false e
        rw [show decide ((b.toNat : Int) = 45) = false from by
          rw [decide_eq_false_iff_not]
          intro h
          exact e2 (UInt8.toNat_inj.1 (by show b.toNat = 45; omega))]
        simp [List.isPrefixOf]
        exact fun h => e2 h.symm
  refine ⟨h1, ?_⟩
  unfold Lib.trimPrefix
  rw [h1]
  cases h : below0 s with
  | false => simp
  | true =>
    simp only [if_true]
    apply ba_ext
    rw [ByteArray.data_extract, Array.toList_extract, List.extract_eq_take_drop, List.take_of_length_le (by simp)]
    rfl
theorem numGet_any (s : ByteArray) (w : World) (hs : s.size ≤ 1048576) :
    Calls Tryz.prog 143 #[.string s] w fun e w' => e = .returned (.tuple #[.int .i64 (numW s), .bool (numT s)]) ∧ w' = w := by
  obtain ⟨h1, h2⟩ := prefix_dash s
  have HC : Hid (∀ wx, Calls Tryz.prog 155 #[.string s, .string ⟨#[45]⟩] wx fun e w' => e = .returned (.tuple #[.string (if below0 s then s.extract 1 s.size else s), .bool (below0 s)]) ∧ w' = wx) := fun wx => by
    have := Tryz.strings_CutPrefix s ⟨#[45]⟩ wx
    rw [show (⟨#[45]⟩ : ByteArray).data.toList = [45] from rfl, h1, h2] at this
    exact this
  clear h1 h2
  cases hb : below0 s with
  | true =>
    rw [hb] at HC
    have HT : Hid (numT s = (figB (s.extract 1 s.size) && decide (numB (s.extract 1 s.size) ≠ 0))) := by unfold Hid numT; rw [hb]; rfl
    have HV : Hid (numV s = -(numB (s.extract 1 s.size) : Int)) := by unfold Hid numV; rw [hb]; rfl
    simp only [if_true] at HC
    have hez : (s.extract 1 s.size).size ≤ maxLen := by rw [ByteArray.size_extract]; unfold maxLen; omega
    generalize s.extract 1 s.size = f at *
    have hn9 : figB f = true → numB f ≤ 999999999 := fun h => numB_bd f h
    cases hf : figB f with
    | false =>
      rw [hf] at HT
      have HT2 : Hid (numT s = false) := HT.out
      go_enter Tryz.func143, Tryz.ntmps143
      go_wp2_with fail
      refine (HC.out _).mono ?_
      rintro e w1 ⟨rfl, rfl⟩
      go_wp2_with fail
      refine (figuresGet_any f _ hez).mono ?_
      rintro e w1 ⟨rfl, rfl⟩
      rw [hf]
      go_wp2
      go_ret2
      exact ⟨by rw [numW_no HT2.out, HT2.out]; rfl, rfl⟩
    | true =>
      have HG : Hid (figG f = (numB f : Int)) := figG_yes hf
      have hn := hn9 hf
      rw [hf] at HT
      generalize numB f = n at *
      by_cases h0 : n = 0
      · have HT2 : Hid (numT s = false) := by unfold Hid; rw [HT.out, h0]; rfl
        subst h0
        go_enter Tryz.func143, Tryz.ntmps143
        go_wp2_with fail
        refine (HC.out _).mono ?_
        rintro e w1 ⟨rfl, rfl⟩
        go_wp2_with fail
        refine (figuresGet_any f _ hez).mono ?_
        rintro e w1 ⟨rfl, rfl⟩
        rw [hf, HG.out]
        go_wp2
        go_ret2
        exact ⟨by rw [numW_no HT2.out, HT2.out]; rfl, rfl⟩
      · have HT2 : Hid (numT s = true) := by unfold Hid; rw [HT.out]; simp [h0]
        have h0b : ((n : Int) == 0) = false := by rw [beq_eq_false_iff_ne]; omega
        go_enter Tryz.func143, Tryz.ntmps143
        go_wp2_with fail
        refine (HC.out _).mono ?_
        rintro e w1 ⟨rfl, rfl⟩
        go_wp2_with fail
        refine (figuresGet_any f _ hez).mono ?_
        rintro e w1 ⟨rfl, rfl⟩
        rw [hf, HG.out]
        go_wp2
        go_ret2
        exact ⟨by rw [numW_yes HT2.out, HT2.out, HV.out]; rfl, rfl⟩
  | false =>
    rw [hb] at HC
    have HT : Hid (numT s = figB s) := by unfold Hid numT; rw [hb]; rfl
    have HV : Hid (numV s = (numB s : Int)) := by unfold Hid numV; rw [hb]; rfl
    simp only [Bool.false_eq_true, if_false] at HC
    have hez : s.size ≤ maxLen := by unfold maxLen; omega
    cases hf : figB s with
    | false =>
      rw [hf] at HT
      go_enter Tryz.func143, Tryz.ntmps143
      go_wp2_with fail
      refine (HC.out _).mono ?_
      rintro e w1 ⟨rfl, rfl⟩
      go_wp2_with fail
      refine (figuresGet_any s _ hez).mono ?_
      rintro e w1 ⟨rfl, rfl⟩
      rw [hf]
      go_wp2
      go_ret2
      exact ⟨by rw [numW_no HT.out, HT.out]; rfl, rfl⟩
    | true =>
      have HG : Hid (figG s = (numB s : Int)) := figG_yes hf
      rw [hf] at HT
      go_enter Tryz.func143, Tryz.ntmps143
      go_wp2_with fail
      refine (HC.out _).mono ?_
      rintro e w1 ⟨rfl, rfl⟩
      go_wp2_with fail
      refine (figuresGet_any s _ hez).mono ?_
      rintro e w1 ⟨rfl, rfl⟩
      rw [hf, HG.out]
      go_wp2
      go_ret2
      exact ⟨by rw [numW_yes HT.out, HT.out, HV.out]; rfl, rfl⟩
theorem numOk_any (s : ByteArray) (w : World) (hs : s.size ≤ 1048576) :
    Calls Tryz.prog 215 #[.string s] w fun e w' => e = .returned (.bool (numT s)) ∧ Below w.heap.size w w' := by
  go_enter Tryz.func215, Tryz.ntmps215
  go_wp2_with fail
  refine (numGet_any s _ hs).mono ?_
  rintro e w1 ⟨rfl, rfl⟩
  go_wp2
  go_ret
  exact ⟨rfl, Below.refl _ _⟩
theorem textCOk_any (s : ByteArray) (w : World) (hs : s.size ≤ 1048576) :
    Calls Tryz.prog 217 #[.string s] w fun e w' => e = .returned (.bool (textB s)) ∧ Below w.heap.size w w' := by
  go_enter Tryz.func217, Tryz.ntmps217
  go_wp2_with fail
  refine (textOk_any s _ (by unfold maxLen; omega)).mono ?_
  rintro e w1 ⟨rfl, rfl⟩
  go_wp2
  go_ret
  exact ⟨rfl, Below.refl _ _⟩
set_option maxHeartbeats 1000000 in
theorem tagOk_any (s : ByteArray) (w : World) (hs : s.size ≤ 1048576) (hm : MaxL w) :
    Calls Tryz.prog 216 #[.string s] w fun e w' => e = .returned (.bool (tagT s)) ∧ Below w.heap.size w w' := by
  have hlen : (tparts s).length = manyB 44 s + 1 := cuts_full_len 44 s
  have hmn := manyB_le 44 s
  have HSZ : Hid (∀ i, i < (tparts s).length → (pat (tparts s) i).size ≤ 1048576) := fun i hi => by have := pat_size 44 (manyB 44 s) s i hi; unfold tparts; omega
  have HSP : Hid (∀ w, MaxL w → Calls Tryz.prog 153 #[.string s, .string ⟨#[44]⟩] w fun e w' => ∃ g, e = .returned (.slice (some ⟨g, 0, none⟩) (manyB 44 s + 1) (manyB 44 s + 1)) ∧ StrRow w' (some ⟨g, 0, none⟩) (cuts 44 (manyB 44 s) s) ∧ Below w.heap.size w w') := fun w hm => split_any s 44 w hs hm
  obtain ⟨ps, hps⟩ : ∃ ps, tparts s = ps := ⟨_, rfl⟩
  have HI : Hid (tagT s = (ps.all nameI && decide (ps.length ≤ 4))) := by unfold Hid tagT; rw [hps]
  have HPS : Hid (cuts 44 (manyB 44 s) s = ps) := hps
  rw [hps] at hlen HSZ
  rw [HPS.out] at HSP
  rw [← hlen] at HSP
  have hpl : ps.length ≤ 1048577 := by omega
  clear hlen hmn hps HPS
  go_enter Tryz.func216, Tryz.ntmps216
  go_wp2_with fail
  refine (HSP.out _ hm).mono ?_
  rintro e w2 ⟨g, rfl, hrow, hw2⟩
  have HR : Hid (StrRow w2 (some ⟨g, 0, none⟩) ps) := hrow
  clear HSP hm hrow
  go_wp2
  go_loop [10] (fun i => ∃ k : Nat, k ≤ ps.length ∧ i = .int .i64 k ∧ allTo (fun j => nameI (pat ps j)) k = true) (fun i => ps.length - (intOf i).toNat)
  case atStart => exact ⟨0, Nat.zero_le _, rfl, rfl⟩
  case round =>
    obtain ⟨k, hk, rfl, ha⟩ := hrel
    have HA : Hid (allTo (fun j => nameI (pat ps j)) k = true) := ha
    clear ha
    by_cases hlt : k < ps.length
    · have hks : (k : Int) < (ps.length : Int) := by omega
      obtain ⟨g', e, hg, hc⟩ := HR.out (by omega)
      cases e
      have c1 : w2.cell? ⟨g, k, none⟩ = some (.string (pat ps k)) := hc k hlt
      have hz := HSZ.out k hlt
      have HNO : Hid (nameI (pat ps k) = false → ps.all nameI = false) := fun h => by
        rw [List.all_eq_false]
        exact ⟨ps[k], List.getElem_mem _, by rw [← pat_get _ _ hlt, h]; decide⟩
      have HYS : Hid (nameI (pat ps k) = true → allTo (fun j => nameI (pat ps j)) (k + 1) = true) := fun h => allTo_snoc _ k HA.out h
      clear hc
      generalize pat ps k = p at *
      go_wp2_with fail
      refine (nameI_any p _ (by unfold maxLen; omega)).mono ?_
      rintro e _ ⟨rfl, rfl⟩
      cases hb : nameI p with
      | false =>
        have HB : Hid (tagT s = false) := by unfold Hid; rw [HI.out, HNO.out hb]; rfl
        go_wp2
        go_ret
        exact ⟨ret_bool HB.out.symm, hw2⟩
      | true =>
        have HYH : Hid (allTo (fun j => nameI (pat ps j)) (k + 1) = true) := HYS.out hb
        go_wp2
        go_round
        case rel => exact ⟨k + 1, by omega, by go_num, HYH.out⟩
        case measure => simp [intOf]; omega
    · have hkl : k = ps.length := by omega
      have HB : Hid (tagT s = decide ((ps.length : Int) ≤ 4)) := by
        unfold Hid
        rw [HI.out, show ps.all nameI = true from by
          rw [List.all_eq_true]
          intro x hx
          obtain ⟨i, hi, rfl⟩ := List.getElem_of_mem hx
          have := (allTo_iff _ _).1 HA.out i (by omega)
          rw [← pat_get _ _ hi]
          exact this, Bool.true_and]
        exact decide_eq_decide.2 (by omega)
      subst hkl
      go_wp2
      go_ret
      exact ⟨ret_bool HB.out.symm, hw2⟩
def ctype (k : Int) : TypeId := if k = 2 then 135 else if k = 3 then 136 else 137
theorem contentOf_any (k : Int) (s : ByteArray) (w : World) : Calls Tryz.prog 65 #[.int .i64 k, .string s] w fun e w' => e = .returned (.iface (ctype k) (.string s)) ∧ w' = w := by
  by_cases h2 : k = 2
  · subst h2
    go_enter Tryz.func65, Tryz.ntmps65
    go_wp2
    go_ret
    exact ⟨rfl, rfl⟩
  have h2b : (k == 2) = false := by simpa using h2
  by_cases h3 : k = 3
  · subst h3
    go_enter Tryz.func65, Tryz.ntmps65
    go_wp2
    go_ret
    exact ⟨rfl, rfl⟩
  have h3b : (k == 3) = false := by simpa using h3
  have HC : Hid (ctype k = 137) := by unfold Hid ctype; rw [if_neg h2, if_neg h3]
  go_enter Tryz.func65, Tryz.ntmps65
  go_wp2
  go_ret
  exact ⟨by rw [HC.out]; rfl, rfl⟩
end Go.Proofs.YtjkimadnopeakaaGreatDoor

/- What the program's type switch on a content answers. -/
namespace Go.Proofs.YtjkimadnopeakaaGreatDoor
open Go.RowKit
variable (s : ByteArray) (w : World)
theorem asNumNum : (Instr.typeAssert (.iface 135 (.string s)) 92 135 true).run Tryz.prog w = .ok (.tuple #[.string s, .bool true]) w := by
  simp [Instr.typeAssert, run_underlying Tryz.underlying135, typeInfo]
theorem asNumTag : (Instr.typeAssert (.iface 136 (.string s)) 92 135 true).run Tryz.prog w = .ok (.tuple #[.string ⟨#[]⟩, .bool false]) w := by
  simp [Instr.typeAssert, run_underlying Tryz.underlying135, typeInfo, Tryz.zeroValue135]
theorem asNumText : (Instr.typeAssert (.iface 137 (.string s)) 92 135 true).run Tryz.prog w = .ok (.tuple #[.string ⟨#[]⟩, .bool false]) w := by
  simp [Instr.typeAssert, run_underlying Tryz.underlying135, typeInfo, Tryz.zeroValue135]
theorem asTagTag : (Instr.typeAssert (.iface 136 (.string s)) 92 136 true).run Tryz.prog w = .ok (.tuple #[.string s, .bool true]) w := by
  simp [Instr.typeAssert, run_underlying Tryz.underlying136, typeInfo]
theorem asTagText : (Instr.typeAssert (.iface 137 (.string s)) 92 136 true).run Tryz.prog w = .ok (.tuple #[.string ⟨#[]⟩, .bool false]) w := by
  simp [Instr.typeAssert, run_underlying Tryz.underlying136, typeInfo, Tryz.zeroValue136]
end Go.Proofs.YtjkimadnopeakaaGreatDoor

/- What a cell says of a kind. -/
namespace Go.Proofs.YtjkimadnopeakaaGreatDoor
open Go.RowKit
set_option linter.unusedVariables false

def cnum (k : Int) (s : ByteArray) : Int := if k = 2 then numW s else 0
def cisn (k : Int) (s : ByteArray) : Bool := if k = 2 then numT s else false
theorem cnum_two (s : ByteArray) : cnum 2 s = numW s := rfl
theorem cisn_two (s : ByteArray) : cisn 2 s = numT s := rfl
theorem cnum_not {k : Int} (h : k ≠ 2) (s : ByteArray) : cnum k s = 0 := if_neg h
theorem cisn_not {k : Int} (h : k ≠ 2) (s : ByteArray) : cisn k s = false := if_neg h
/-- The tags that a cell says: a row of the call's own, or none. -/
def TagsV (b0 : Nat) (w : World) (k : Int) (s : ByteArray) (v : Value) : Prop :=
  (k = 3 ∧ ∃ g c, v = .slice (some ⟨g, 0, none⟩) (namesL s).length c ∧ (namesL s).length ≤ c ∧ b0 ≤ g ∧ OwnRow w g c (namesL s)) ∨ (k ≠ 3 ∧ v = .slice none 0 0)
theorem TagsV.below {b0 : Nat} {w w' : World} {k : Int} {s : ByteArray} {v : Value} (h : TagsV b0 w k s v) (hb : Below w.heap.size w w') : TagsV b0 w' k s v := by
  rcases h with ⟨h1, g, c, e, h2, h3, h4⟩ | h
  · exact .inl ⟨h1, g, c, e, h2, h3, h4.below hb⟩
  · exact .inr h

attribute [local go_sem] asNumNum asNumTag asNumText asTagTag asTagText
set_option maxHeartbeats 1000000 in
set_option maxRecDepth 100000 in
theorem contentTold_any (k : Int) (s : ByteArray) (w : World) (hs : s.size ≤ 1048576) (hm : MaxL w) :
    Calls Tryz.prog 116 #[.iface (ctype k) (.string s)] w fun e w' => ∃ v, e = .returned (.agg #[.int .i64 (cnum k s), .bool (cisn k s), v]) ∧ TagsV w.heap.size w' k s v ∧ Below w.heap.size w w' := by
  by_cases h2 : k = 2
  · subst h2
    rw [cnum_two, cisn_two, show ctype 2 = 135 from rfl]
    have HT : Hid (∀ w', TagsV w.heap.size w' 2 s (.slice none 0 0)) := fun w' => .inr ⟨by decide, rfl⟩
    have HN : Hid (∀ wx, Calls Tryz.prog 143 #[.string s] wx fun e w' => e = .returned (.tuple #[.int .i64 (numW s), .bool (numT s)]) ∧ w' = wx) := fun wx => numGet_any s wx hs
    clear hm
    generalize numW s = n at *
    generalize numT s = b at *
    go_enter Tryz.func116, Tryz.ntmps116
    go_wp2_with fail
    refine (HN.out _).mono ?_
    rintro e w1 ⟨rfl, rfl⟩
    go_wp2
    exact bodyPost_ret (v := .agg #[.int .i64 n, .bool b, .slice none 0 0]) (by simp [results, Tryz.results116, go_sem]) rfl ⟨_, rfl, HT.out _, (Below.refl _ _).alloc (Nat.le_refl _) _⟩
  · rw [cnum_not h2, cisn_not h2]
    by_cases h3 : k = 3
    · subst h3
      rw [show ctype 3 = 136 from rfl]
      have HN : Hid (∀ wx, MaxL wx → Calls Tryz.prog 144 #[.string s] wx fun e w' => ∃ c, e = .returned (.slice (some ⟨wx.heap.size, 0, none⟩) (namesL s).length c) ∧ OwnRow w' wx.heap.size c (namesL s) ∧ Below wx.heap.size wx w') := fun wx h => names_any s wx hs h
      have HT : Hid (∀ w' g c, (namesL s).length ≤ c → w.heap.size ≤ g → OwnRow w' g c (namesL s) → TagsV w.heap.size w' 3 s (.slice (some ⟨g, 0, none⟩) (namesL s).length c)) := fun w' g c h1 h2 h3 => .inl ⟨rfl, g, c, rfl, h1, h2, h3⟩
      obtain ⟨L, hL⟩ : ∃ L, L = namesL s := ⟨_, rfl⟩
      rw [← hL] at HN HT
      clear hL
      have B0 := Blk.new w #[.int .i64 0, .bool false, .slice none 0 0] 105
      have hb0 : Below w.heap.size w (w.alloc (.cells #[.int .i64 0, .bool false, .slice none 0 0] 105)) := (Below.refl _ w).alloc (Nat.le_refl _) _
      go_enter Tryz.func116, Tryz.ntmps116
      go_wp2_with fail
      refine (HN.out _ (hm.below hb0)).mono ?_
      rintro e w1 ⟨c, rfl, hr, hb⟩
      have hc := hr.le
      have HC : Hid (L.length ≤ c) := hc
      have B1 := B0.below hb B0.lt
      have k0 := B1.cell 0
      have k1 := B1.cell 1
      have k2 := B1.cell 2
      have y0 := B1.frozen 0
      have y1 := B1.frozen 1
      have y2 := B1.frozen 2
      have hz1 := B1.lt
      simp at k0 k1 k2
      have hbw := below_trans hb0 hb
      have HR : Hid (OwnRow w1 (w.heap.size + 1) c L) := by
        rw [show (w.alloc (.cells #[.int .i64 0, .bool false, .slice none 0 0] 105)).heap.size = w.heap.size + 1 from by simp] at hr
        exact hr
      clear HN hc hr hb B0 B1 hb0 hm
      go_wp2
      refine bodyPost_ret (v := .agg #[.int .i64 0, .bool false, .slice (some ⟨w.heap.size + 1, 0, none⟩) L.length c]) (by simp [results, Tryz.results116, go_sem, k0, k1, k2]) rfl ⟨_, rfl, HT.out _ _ _ HC.out (Nat.le_succ _) ?_, ?_⟩
      · exact ((HR.out.set (by show w.heap.size + 1 ≠ w.heap.size; omega) _).set (by show w.heap.size + 1 ≠ w.heap.size; omega) _).set (by show w.heap.size + 1 ≠ w.heap.size; omega) _
      · exact ((hbw.setCell (Nat.le_refl _) _).setCell (Nat.le_refl _) _).setCell (Nat.le_refl _) _
    · have HT : Hid (∀ w', TagsV w.heap.size w' k s (.slice none 0 0)) := fun w' => .inr ⟨h3, rfl⟩
      rw [show ctype k = 137 from by unfold ctype; rw [if_neg h2, if_neg h3]]
      clear h2 h3
      go_enter Tryz.func116, Tryz.ntmps116
      go_wp2
      exact bodyPost_ret (v := .agg #[.int .i64 0, .bool false, .slice none 0 0]) (by simp [results, Tryz.results116, go_sem]) rfl ⟨_, rfl, HT.out _, (Below.refl _ _).alloc (Nat.le_refl _) _⟩
end Go.Proofs.YtjkimadnopeakaaGreatDoor

/- strings.Clone hands back the same bytes; nothing that was there turns. -/
namespace Go.Proofs.YtjkimadnopeakaaGreatDoor
open Go.RowKit
theorem infoByte : (Tryz.prog.info? 5).map (fun i => (i.zero, i.size, i.bytes)) = some (some (.int .u8 0), 1, 1) := by kernel_rfl

set_option maxHeartbeats 1000000 in
set_option maxRecDepth 100000 in
theorem cloneLite_any (s : ByteArray) (w : World) (hlim : s.size ≤ 1099511627776) :
    Calls Tryz.prog 142 #[.string s] w fun e w' => e = .returned (.string s) ∧ Below w.heap.size w w' := by
  by_cases h0 : s.size = 0
  · have hs : s = ⟨#[]⟩ := by
      apply ByteArray.ext
      exact Array.eq_empty_of_size_eq_zero h0
    subst hs
    go_enter Tryz.func142, Tryz.ntmps142
    go_wp2
    go_ret
    exact ⟨rfl, Below.refl _ _⟩
  · obtain ⟨i0, hi, hz0, hz1, hz2⟩ := info_parts infoByte
    have hinfo : (Tryz.prog.info? 5).map (·.size) = some 1 := by rw [hi]; simp [hz1]
    have hco : Tryz.prog.cellsOf 5 = 1 := by simp [Program.cellsOf, hi, hz1]
    obtain ⟨M, hM⟩ : ∃ M, M = madeCells (Value.int .u8 0).cells (((s.size : Nat) : Int).toNat * i0.size) := ⟨_, rfl⟩
    have hMs : M.size = s.size := by rw [hM, size_madeCells, hz1]; simp
    have hmk : ∀ W : World, (Instr.makeSlice 47 (.int .i64 (s.size : Int)) (.int .i64 (s.size : Int))).run Tryz.prog W = .ok (.slice (some ⟨W.heap.size, 0, none⟩) s.size s.size) (W.alloc (.cells M 5)) := fun W => by
      have h := run_make (P := Tryz.prog) W 47 5 i0 (.int .u8 0) Tryz.underlying47 hi hz0 .i64 .i64 (s.size : Int) (s.size : Int) (by omega) (by omega) (by rw [hz2]; omega) (by omega)
      rw [← hM] at h
      simpa using h
    clear hM
    have hcp := Lib.run_copy_row_string (P := Tryz.prog) (w.alloc (.cells M 5)) 47 9 3 5 w.heap.size 0 s.size s.size s M 5 Tryz.underlying47 hinfo (heap_alloc_new w _) (Nat.le_refl _) (by omega)
    obtain ⟨Y, hY⟩ : ∃ Y, Y = (M.toList.take 0 ++ Lib.byteCells s.data.toList ++ M.toList.drop (0 + s.size)).toArray := ⟨_, rfl⟩
    rw [← hY] at hcp
    have hYl : Y.toList = Lib.byteCells s.data.toList := by
      rw [hY, List.toList_toArray, List.take_zero, List.nil_append, List.drop_of_length_le (by rw [Array.length_toList]; omega), List.append_nil]
    have hYs : Y.size = s.size := by rw [← Array.length_toList, hYl, Lib.byteCells_length, ← Lib.size_eq]
    have hgY : ((w.alloc (.cells M 5)).setRow w.heap.size Y).heap[w.heap.size]? = some (.cells Y 5 (0, 0)) := setRow_heap _ _ M _ 5 (0, 0) (heap_alloc_new w _)
    have hne : s.data.toList ≠ [] := fun e => h0 (by rw [Lib.size_eq, e]; rfl)
    have hUS := Lib.run_unsafeString_row (P := Tryz.prog) ((w.alloc (.cells M 5)).setRow w.heap.size Y) 159 3 9 5 Tryz.underlying159 hco w.heap.size Y.size (by unfold World.shape?; rw [hgY]) s.data.toList hne (by rw [← Lib.size_eq]; omega) (by rw [← Lib.size_eq]; omega)
      (fun j x hx => Lib.cells_of_row hgY Y.size j _ (by rw [List.take_of_length_le (by rw [Array.length_toList]; exact Nat.le_refl _), hYl]; simp [Lib.byteCells, hx]))
    rw [← Lib.size_eq] at hUS
    clear hY
    go_enter Tryz.func142, Tryz.ntmps142
    go_wp2
    go_ret
    have hb1 : Below w.heap.size w (w.alloc (.cells M 5)) := (Below.refl _ w).alloc (Nat.le_refl _) _
    have hb2 : Below w.heap.size (w.alloc (.cells M 5)) ((w.alloc (.cells M 5)).setRow w.heap.size Y) := ⟨rfl, rfl, rfl, by simp, fun k hk => setRow_other _ _ _ _ (by omega)⟩
    exact ⟨rfl, Lib.below_freeze (hb1.trans hb2) (p := ⟨w.heap.size, 0, none⟩) (Nat.le_refl _) _⟩

theorem clone_any (s : ByteArray) (w : World) (hlim : s.size ≤ 1099511627776) :
    Calls Tryz.prog 114 #[.string s] w fun e w' => e = .returned (.string s) ∧ Below w.heap.size w w' := by
  go_enter Tryz.func114, Tryz.ntmps114
  go_wp2_with fail
  refine (cloneLite_any s _ hlim).mono ?_
  rintro e w1 ⟨rfl, hb1⟩
  go_wp2
  go_ret
  exact ⟨rfl, hb1⟩
end Go.Proofs.YtjkimadnopeakaaGreatDoor

/- DocText of the program and of the model. -/
namespace Go.Proofs.YtjkimadnopeakaaGreatDoor
open Go.RowKit

theorem ret_pair {s s' : ByteArray} {b b' : Bool} (h1 : s = s') (h2 : b = b') : Ending.returned (.tuple #[.string s, .bool b]) = .returned (.tuple #[.string s', .bool b']) := by rw [h1, h2]
def isC (n : ByteArray) (c : Cel) : Bool := c.name.toList == n.toList
/-- None of the first k has the name. -/
def noneC (cs : List Cel) (n : ByteArray) (k : Nat) : Bool := allTo (fun j => !(isC n (cat cs j))) k
theorem noneC_snoc {cs : List Cel} {n : ByteArray} {k : Nat} (h : noneC cs n k = true) (h2 : isC n (cat cs k) = false) : noneC cs n (k + 1) = true := allTo_snoc _ k h (by simp [h2])
/-- What a document has in a field. -/
def docT (cs : List Cel) (n : ByteArray) : ByteArray := match cs.find? (isC n) with | some c => c.text | none => ⟨#[]⟩
def docH (cs : List Cel) (n : ByteArray) : Bool := (cs.find? (isC n)).isSome
theorem find_from (cs : List Cel) (n : ByteArray) : ∀ k, k ≤ cs.length → noneC cs n k = true → cs.find? (isC n) = (cs.drop k).find? (isC n)
  | 0, _, _ => by simp
  | k + 1, hk, h => by
    have h' : noneC cs n k = true ∧ (!(isC n (cat cs k))) = true := by simpa [noneC, allTo] using h
    rw [find_from cs n k (by omega) h'.1, List.drop_eq_getElem_cons (by omega), List.find?_cons]
    rw [cat_get cs k (by omega)] at h'
    have h2 : isC n cs[k] = false := by simpa using h'.2
    rw [h2]
theorem find_hit {cs : List Cel} {n : ByteArray} {k : Nat} (hk : k < cs.length) (h : noneC cs n k = true) (h2 : isC n (cat cs k) = true) : cs.find? (isC n) = some (cat cs k) := by
  rw [find_from cs n k (by omega) h, List.drop_eq_getElem_cons hk, List.find?_cons, ← cat_get cs k hk, h2]
theorem find_not {cs : List Cel} {n : ByteArray} (h : noneC cs n cs.length = true) : cs.find? (isC n) = none := by
  rw [find_from cs n cs.length (Nat.le_refl _) h, List.drop_length]
  rfl

set_option maxHeartbeats 1000000 in
theorem docTextS_any (key n : ByteArray) (a : Option Addr) (cap : Nat) (cs : List Cel) (w : World) (hz : cs.length ≤ 1048576) (hr : CelRow w a cs) :
    Calls Tryz.prog 72 #[.agg #[.string key, .slice a cs.length cap], .string n] w fun e w' => e = .returned (.tuple #[.string (docT cs n), .bool (docH cs n)]) ∧ Below w.heap.size w w' := by
  have hb0 : Below w.heap.size w (w.alloc (.cells #[.string key, .slice a cs.length cap] 37)) := (Below.refl _ w).alloc (Nat.le_refl _) _
  have r0 := hr.below hb0
  clear hr
  go_enter Tryz.func72, Tryz.ntmps72
  go_wp2
  go_loop [6] (fun i => ∃ k : Nat, k ≤ cs.length ∧ i = .int .i64 k ∧ noneC cs n k = true) (fun i => cs.length - (intOf i).toNat)
  case atStart => exact ⟨0, Nat.zero_le _, rfl, rfl⟩
  case round =>
    obtain ⟨k, hk, rfl, hn⟩ := hrel
    have HN : Hid (noneC cs n k = true) := hn
    clear hn
    by_cases hlt : k < cs.length
    · obtain ⟨g, off, rfl, hg, hc⟩ := r0 (by omega)
      obtain ⟨c0, c1⟩ := hc k hlt
      cases he : isC n (cat cs k) with
      | true =>
        have HF := find_hit hlt HN.out he
        have HT : Hid (docT cs n = (cat cs k).text ∧ docH cs n = true) := by unfold Hid docT docH; rw [HF]; exact ⟨rfl, rfl⟩
        clear HF
        generalize cat cs k = cl at *
        obtain ⟨nm, tx⟩ := cl
        simp only at c0 c1 HT
        have he' : (nm.toList == n.toList) = true := he
        clear r0 hc he
        go_wp2
        go_ret2
        exact ⟨ret_pair HT.out.1.symm HT.out.2.symm, hb0⟩
      | false =>
        have HS : Hid (noneC cs n (k + 1) = true) := noneC_snoc HN.out he
        generalize cat cs k = cl at *
        obtain ⟨nm, tx⟩ := cl
        simp only at c0 c1
        have he' : (nm.toList == n.toList) = false := he
        clear r0 hc he
        go_wp2
        go_round
        case rel => exact ⟨k + 1, by omega, by go_num, HS.out⟩
        case measure => simp [intOf]; omega
    · have hkl : k = cs.length := by omega
      subst hkl
      have HT : Hid (docT cs n = ⟨#[]⟩ ∧ docH cs n = false) := by unfold Hid docT docH; rw [find_not HN.out]; exact ⟨rfl, rfl⟩
      clear r0
      go_wp2
      go_ret2
      exact ⟨ret_pair HT.out.1.symm HT.out.2.symm, hb0⟩

set_option maxHeartbeats 1000000 in
theorem docTextI_any (key n : ByteArray) (a : Option Addr) (cap : Nat) (cs : List Cel) (w : World) (hz : cs.length ≤ 1048576) (hsm : CelsSmall cs) (hr : CelRow w a cs) :
    Calls Tryz.prog 115 #[.agg #[.string key, .slice a cs.length cap], .string n] w fun e w' => e = .returned (.tuple #[.string (docT cs n), .bool (docH cs n)]) ∧ Below w.heap.size w w' := by
  have hb0 : Below w.heap.size w (w.alloc (.cells #[.string key, .slice a cs.length cap] 37)) := (Below.refl _ w).alloc (Nat.le_refl _) _
  go_enter Tryz.func115, Tryz.ntmps115
  go_wp2
  go_loopw [11] (fun i wr => ∃ k : Nat, k ≤ cs.length ∧ i = .int .i64 k ∧ noneC cs n k = true ∧ Below w.heap.size w wr) (fun i _ => cs.length - (intOf i).toNat)
  case atStart => exact ⟨0, Nat.zero_le _, rfl, rfl, hb0⟩
  case round =>
    clear hb0
    obtain ⟨k, hk, rfl, hn, hbel⟩ := hrel
    have HN : Hid (noneC cs n k = true) := hn
    clear hn
    have hsz := hbel.size
    by_cases hlt : k < cs.length
    · obtain ⟨g, off, rfl, hg, hc⟩ := (hr.below hbel) (by omega)
      obtain ⟨c0, c1⟩ := hc k hlt
      have hs := (hsm k hlt).2
      cases he : isC n (cat cs k) with
      | true =>
        have HF := find_hit hlt HN.out he
        have HT : Hid (docT cs n = (cat cs k).text ∧ docH cs n = true) := by unfold Hid docT docH; rw [HF]; exact ⟨rfl, rfl⟩
        clear HF
        generalize cat cs k = cl at *
        obtain ⟨nm, tx⟩ := cl
        simp only at c0 c1 HT hs
        have he' : (nm.toList == n.toList) = true := he
        clear hr hc he hsm
        go_wp2_with fail
        refine (clone_any tx _ (by omega)).mono ?_
        rintro e w2 ⟨rfl, hb2⟩
        have hb3 : Below w.heap.size w w2 := (hbel.alloc hsz _).trans (hb2.mono (by simp; omega))
        go_wp2
        go_ret2
        exact ⟨ret_pair HT.out.1.symm HT.out.2.symm, hb3⟩
      | false =>
        have HS : Hid (noneC cs n (k + 1) = true) := noneC_snoc HN.out he
        generalize cat cs k = cl at *
        obtain ⟨nm, tx⟩ := cl
        simp only at c0 c1
        have he' : (nm.toList == n.toList) = false := he
        clear hr hc he hsm
        go_wp2
        go_roundw
        case rel => exact ⟨k + 1, by omega, by go_num, HS.out, hbel.alloc hsz _⟩
        case measure => simp [intOf]; omega
    · have hkl : k = cs.length := by omega
      subst hkl
      have HT : Hid (docT cs n = ⟨#[]⟩ ∧ docH cs n = false) := by unfold Hid docT docH; rw [find_not HN.out]; exact ⟨rfl, rfl⟩
      clear hr hsm
      go_wp2
      go_ret2
      exact ⟨ret_pair HT.out.1.symm HT.out.2.symm, hbel⟩
end Go.Proofs.YtjkimadnopeakaaGreatDoor

/- DocOk of the program. -/
namespace Go.Proofs.YtjkimadnopeakaaGreatDoor
open Go.RowKit
set_option linter.unusedVariables false

set_option maxRecDepth 100000 in
set_option maxHeartbeats 2000000 in
theorem docOkI_any (a : Option Addr) (capf : Nat) (fs : List Fld) (key : ByteArray) (p : Option Addr) (capc : Nat) (cs : List Cel) (w : World) (hzf : fs.length ≤ 1048576) (hcf : fs.length ≤ capf) (hsf : FldsSmall fs) (hrf : FldRow w a fs)
    (hk : key.size ≤ 1048576) (hzc : cs.length ≤ 1048576) (hsc : CelsSmall cs) (hrc : CelRow w p cs) (hm : MaxL w) :
    Calls Tryz.prog 29 #[.slice a fs.length capf, .agg #[.string key, .slice p cs.length capc]] w fun e w' => e = .returned (.bool (docOkB fs key cs)) ∧ Below w.heap.size w w' := by
  have hb0 : Below w.heap.size w (w.alloc (.cells #[.string key, .slice p cs.length capc] 37)) := (Below.refl _ w).alloc (Nat.le_refl _) _
  have B0 := Blk.new w #[.string key, .slice p cs.length capc] 37
  have hl0 := B0.lt
  have HSC : Hid (CelsSmall cs) := hsc
  have HRF : Hid (FldRow (w.alloc (.cells #[.string key, .slice p cs.length capc] 37)) a fs) := hrf.below hb0
  have HRC : Hid (CelRow (w.alloc (.cells #[.string key, .slice p cs.length capc] 37)) p cs) := hrc.below hb0
  have HM : Hid (MaxL (w.alloc (.cells #[.string key, .slice p cs.length capc] 37))) := hm.below hb0
  have HFI : Hid (∀ wx, FldRow wx a fs → Calls Tryz.prog 61 #[.slice a fs.length capf] wx fun e w' => e = .returned (.bool (fieldsB fs)) ∧ Below wx.heap.size wx w') := fun wx h => fieldsI_any a capf fs wx hzf hcf hsf h
  clear hsc hrf hrc hm hsf
  go_enter Tryz.func29, Tryz.ntmps29
  go_wp2_with fail
  refine (HFI.out _ HRF.out).mono ?_
  rintro e w1 ⟨rfl, hb1⟩
  have B1 := B0.below hb1 hl0
  have hl1 := B1.lt
  have hw1 := below_trans hb0 hb1
  have HRF1 : Hid (FldRow w1 a fs) := HRF.out.below hb1
  have HRC1 : Hid (CelRow w1 p cs) := HRC.out.below hb1
  have HM1 : Hid (MaxL w1) := HM.out.below hb1
  have k0 := B1.cell 0
  have k1 := B1.cell 1
  simp at k0 k1
  clear HRF HRC HM B0 hb0 HFI hb1
  cases hF : fieldsB fs with
  | false =>
    have HD : Hid (docOkB fs key cs = false) := by unfold Hid docOkB; rw [hF]; rfl
    go_wp2
    go_ret
    exact ⟨ret_bool HD.out.symm, hw1⟩
  | true =>
    go_wp2_with fail
    refine (form_any key p capc cs _ hk hzc HSC.out HRC1.out).mono ?_
    rintro e w2 ⟨rfl, hb2⟩
    have B2 := B1.below hb2 hl1
    have hw2 := below_trans hw1 hb2
    have HRF2 : Hid (FldRow w2 a fs) := HRF1.out.below hb2
    have HRC2 : Hid (CelRow w2 p cs) := HRC1.out.below hb2
    have HM2 : Hid (MaxL w2) := HM1.out.below hb2
    clear HRF1 HRC1 HM1 B1 k0 k1 hw1 hb2
    have k0 := B2.cell 0
    have k1 := B2.cell 1
    simp at k0 k1
    cases hG : formB key cs with
    | false =>
      have HD : Hid (docOkB fs key cs = false) := by unfold Hid docOkB; rw [hF, hG]; rfl
      go_wp2
      go_ret
      exact ⟨ret_bool HD.out.symm, hw2⟩
    | true =>
      have HDE : Hid (docOkB fs key cs = allTo (dcelOk fs cs) cs.length) := by unfold Hid docOkB; rw [hF, hG]; rfl
      clear hF hG
      go_wp2
      clear k0 k1 B2
      go_loopw [20] (fun i wr => ∃ k : Nat, k ≤ cs.length ∧ i = .int .i64 k ∧ allTo (dcelOk fs cs) k = true ∧ Below w2.heap.size w2 wr) (fun i _ => cs.length - (intOf i).toNat)
      case atStart => exact ⟨0, Nat.zero_le _, rfl, rfl, Below.refl _ _⟩
      case round =>
        obtain ⟨k, hk2, rfl, ha, hbel⟩ := hrel
        have HA : Hid (allTo (dcelOk fs cs) k = true) := ha
        clear ha
        have hbw := below_trans hw2 hbel
        by_cases hlt : k < cs.length
        · have hks : (k : Int) < (cs.length : Int) := by omega
          obtain ⟨g, off, rfl, hg, hc⟩ := (HRC2.out.below hbel) (by omega)
          obtain ⟨c0, c1⟩ := hc k hlt
          have hsz := HSC.out k hlt
          have HNO : Hid (dcelOk fs cs k = false → docOkB fs key cs = false) := docOk_no hlt
          have HYS : Hid (dcelOk fs cs k = true → allTo (dcelOk fs cs) (k + 1) = true) := fun h => allTo_snoc _ k HA.out h
          have HDF : Hid (dcelOk fs cs k = (decide (fidx fs (cat cs k).name < fs.length) && cellT (fat fs (fidx fs (cat cs k).name)).kind (cat cs k).text)) := rfl
          generalize cat cs k = cl at *
          obtain ⟨nm, tx⟩ := cl
          simp only at c0 c1 hsz HDF
          have hsb := hbel.size
          have hba : Below w2.heap.size w2 (wr.alloc (.cells #[.string nm, .string tx] 59)) := hbel.alloc hsb _
          have B6 := Blk.new wr #[.string nm, .string tx] 59
          have hl6 := B6.lt
          have HRA : Hid (FldRow (wr.alloc (.cells #[.string nm, .string tx] 59)) a fs) := HRF2.out.below hba
          have HMA : Hid (MaxL (wr.alloc (.cells #[.string nm, .string tx] 59))) := HM2.out.below hba
          clear hc
          go_wp2_with fail
          refine (fieldOf_any a capf fs nm _ hzf HRA.out).mono ?_
          rintro e w3 ⟨f, b, rfl, hff, hb3⟩
          have B7 := (B6.below hb3 hl6).alloc (.cells #[.string f.name, .int .i64 f.kind, .int .i64 f.weight] 72)
          have C7 := Blk.new w3 #[.string f.name, .int .i64 f.kind, .int .i64 f.weight] 72
          have hb3a : Below (wr.alloc (.cells #[.string nm, .string tx] 59)).heap.size (wr.alloc (.cells #[.string nm, .string tx] 59)) (w3.alloc (.cells #[.string f.name, .int .i64 f.kind, .int .i64 f.weight] 72)) := hb3.alloc hb3.size _
          have HM7 : Hid (MaxL (w3.alloc (.cells #[.string f.name, .int .i64 f.kind, .int .i64 f.weight] 72))) := HMA.out.below hb3a
          have hw7 : Below w2.heap.size w2 (w3.alloc (.cells #[.string f.name, .int .i64 f.kind, .int .i64 f.weight] 72)) := hba.trans (hb3a.mono hba.size)
          have hf2 := found_idx hff
          clear HRA HMA B6 hb3a hba hff c0 c1
          rcases hf2 with ⟨rfl, hi1, hi2⟩ | ⟨rfl, hi1⟩
          · have HDF2 : Hid (dcelOk fs cs k = cellT f.kind tx) := by unfold Hid; rw [HDF.out, decide_eq_true hi1, ← hi2]; rfl
            clear HDF hi1 hi2
            obtain ⟨fn, kd, wt⟩ := f
            simp only at B7 C7 HM7 hw7 HDF2
            have y1 := B7.cell 1
            simp at y1
            clear B7 C7
            by_cases h2 : kd = 2
            · subst h2
              have HCT : Hid (cellT 2 tx = numT tx) := rfl
              go_wp2_with fail
              refine (contentOf_any 2 tx _).mono ?_
              rintro e w8 ⟨rfl, rfl⟩
              rw [show ctype 2 = 135 from rfl]
              go_wp2_with fail
              refine (numOk_any tx _ hsz.2).mono ?_
              rintro e w9 ⟨rfl, hb9⟩
              have hw9 := hw7.trans (hb9.mono hw7.size)
              cases hb : numT tx with
              | false =>
                have HF : Hid (docOkB fs key cs = false) := HNO.out (by rw [HDF2.out, HCT.out, hb])
                go_wp2
                go_ret
                exact ⟨ret_bool HF.out.symm, below_trans hw2 hw9⟩
              | true =>
                have HY : Hid (allTo (dcelOk fs cs) (k + 1) = true) := HYS.out (by rw [HDF2.out, HCT.out, hb])
                go_wp2
                go_roundw
                case rel => exact ⟨k + 1, by omega, by go_num, HY.out, hw9⟩
                case measure => simp [intOf]; omega
            by_cases h3 : kd = 3
            · subst h3
              have HCT : Hid (cellT 3 tx = tagT tx) := rfl
              go_wp2_with fail
              refine (contentOf_any 3 tx _).mono ?_
              rintro e w8 ⟨rfl, rfl⟩
              rw [show ctype 3 = 136 from rfl]
              go_wp2_with fail
              refine (tagOk_any tx _ hsz.2 HM7.out).mono ?_
              rintro e w9 ⟨rfl, hb9⟩
              have hw9 := hw7.trans (hb9.mono hw7.size)
              cases hb : tagT tx with
              | false =>
                have HF : Hid (docOkB fs key cs = false) := HNO.out (by rw [HDF2.out, HCT.out, hb])
                go_wp2
                go_ret
                exact ⟨ret_bool HF.out.symm, below_trans hw2 hw9⟩
              | true =>
                have HY : Hid (allTo (dcelOk fs cs) (k + 1) = true) := HYS.out (by rw [HDF2.out, HCT.out, hb])
                go_wp2
                go_roundw
                case rel => exact ⟨k + 1, by omega, by go_num, HY.out, hw9⟩
                case measure => simp [intOf]; omega
            · have HCT : Hid (cellT kd tx = textB tx) := by unfold Hid cellT; rw [if_neg h2, if_neg h3]
              have HTY : Hid (ctype kd = 137) := by unfold Hid ctype; rw [if_neg h2, if_neg h3]
              go_wp2_with fail
              refine (contentOf_any kd tx _).mono ?_
              rintro e w8 ⟨rfl, rfl⟩
              rw [HTY.out]
              go_wp2_with fail
              refine (textCOk_any tx _ hsz.2).mono ?_
              rintro e w9 ⟨rfl, hb9⟩
              have hw9 := hw7.trans (hb9.mono hw7.size)
              cases hb : textB tx with
              | false =>
                have HF : Hid (docOkB fs key cs = false) := HNO.out (by rw [HDF2.out, HCT.out, hb])
                go_wp2
                go_ret
                exact ⟨ret_bool HF.out.symm, below_trans hw2 hw9⟩
              | true =>
                have HY : Hid (allTo (dcelOk fs cs) (k + 1) = true) := HYS.out (by rw [HDF2.out, HCT.out, hb])
                go_wp2
                go_roundw
                case rel => exact ⟨k + 1, by omega, by go_num, HY.out, hw9⟩
                case measure => simp [intOf]; omega
          · have HF : Hid (docOkB fs key cs = false) := HNO.out (by rw [HDF.out, hi1]; simp)
            go_wp2
            go_ret
            exact ⟨ret_bool HF.out.symm, below_trans hw2 hw7⟩
        · have hkl : k = cs.length := by omega
          subst hkl
          have HT : Hid (docOkB fs key cs = true) := by unfold Hid; rw [HDE.out]; exact HA.out
          go_wp2
          go_ret
          exact ⟨ret_bool HT.out.symm, hbw⟩
end Go.Proofs.YtjkimadnopeakaaGreatDoor

/- What a document says in a field. -/
namespace Go.Proofs.YtjkimadnopeakaaGreatDoor
open Go.RowKit
set_option linter.unusedVariables false

/-- The kind of the field of a name, where an ok document has it; else 0. -/
def toldK (fs : List Fld) (key : ByteArray) (cs : List Cel) (n : ByteArray) : Int := if (docOkB fs key cs && docH cs n) = true then (fat fs (fidx fs n)).kind else 0
theorem toldK_no {fs : List Fld} {key : ByteArray} {cs : List Cel} {n : ByteArray} (h : (docOkB fs key cs && docH cs n) = false) : toldK fs key cs n = 0 := by unfold toldK; rw [h]; rfl
theorem toldK_yes {fs : List Fld} {key : ByteArray} {cs : List Cel} {n : ByteArray} (h1 : docOkB fs key cs = true) (h2 : docH cs n = true) : toldK fs key cs n = (fat fs (fidx fs n)).kind := by unfold toldK; rw [h1, h2]; rfl
theorem found_kind {fs : List Fld} {n : ByteArray} {f : Fld} {b : Bool} (h : FoundF fs n f b) : f = fat fs (fidx fs n) := by
  rcases h with ⟨rfl, k, hk, rfl, h1, h2⟩ | ⟨rfl, rfl, h2⟩
  · rw [fidx_at hk h1 h2]
  · rw [fidx_none h2]
    simp [fat]
theorem docT_size {cs : List Cel} (h : CelsSmall cs) (n : ByteArray) : (docT cs n).size ≤ 1048576 := by
  unfold docT
  cases e : cs.find? (isC n) with
  | none => exact Nat.zero_le _
  | some c =>
    obtain ⟨i, hi, rfl⟩ := List.getElem_of_mem (List.mem_of_find?_eq_some e)
    have := (h i hi).2
    rw [cat_get cs i hi] at this
    exact this

theorem TagsV.slice {b0 : Nat} {w : World} {k : Int} {s : ByteArray} {v : Value} (h : TagsV b0 w k s v) : ∃ q l c, v = .slice q l c := by
  rcases h with ⟨_, g, c, rfl, _⟩ | ⟨_, rfl⟩ <;> exact ⟨_, _, _, rfl⟩
theorem TagsV.mono {b0 b1 : Nat} {w : World} {k : Int} {s : ByteArray} {v : Value} (h : TagsV b0 w k s v) (hb : b1 ≤ b0) : TagsV b1 w k s v := by
  rcases h with ⟨h1, g, c, e, h2, h3, h4⟩ | h
  · exact .inl ⟨h1, g, c, e, h2, by omega, h4⟩
  · exact .inr h
theorem TagsV.set {b0 : Nat} {w : World} {k : Int} {s : ByteArray} {v : Value} (h : TagsV b0 w k s v) {p : Addr} (hp : p.block < b0) (x : Value) : TagsV b0 (w.setCell p x) k s v := by
  rcases h with ⟨h1, g, c, e, h2, h3, h4⟩ | h
  · exact .inl ⟨h1, g, c, e, h2, h3, h4.set (by omega) x⟩
  · exact .inr h

set_option maxHeartbeats 2000000 in
set_option maxRecDepth 100000 in
theorem docTold_any (a : Option Addr) (capf : Nat) (fs : List Fld) (key : ByteArray) (p : Option Addr) (capc : Nat) (cs : List Cel) (n : ByteArray) (w : World) (hzf : fs.length ≤ 1048576) (hcf : fs.length ≤ capf) (hsf : FldsSmall fs) (hrf : FldRow w a fs)
    (hk : key.size ≤ 1048576) (hzc : cs.length ≤ 1048576) (hsc : CelsSmall cs) (hrc : CelRow w p cs) (hm : MaxL w) :
    Calls Tryz.prog 71 #[.slice a fs.length capf, .agg #[.string key, .slice p cs.length capc], .string n] w fun e w' => ∃ v, e = .returned (.agg #[.int .i64 (cnum (toldK fs key cs n) (docT cs n)), .bool (cisn (toldK fs key cs n) (docT cs n)), v]) ∧ TagsV w.heap.size w' (toldK fs key cs n) (docT cs n) v ∧ Below w.heap.size w w' := by
  have hb0 : Below w.heap.size w ((w.alloc (.cells #[.string key, .slice p cs.length capc] 37)).alloc (.cells #[.int .i64 0, .bool false, .slice none 0 0] 105)) := ((Below.refl _ w).alloc (Nat.le_refl _) _).alloc (by simp) _
  have D0 : Blk ((w.alloc (.cells #[.string key, .slice p cs.length capc] 37)).alloc (.cells #[.int .i64 0, .bool false, .slice none 0 0] 105)) w.heap.size #[.string key, .slice p cs.length capc] 37 := (Blk.new w _ _).alloc _
  have R0 : Blk ((w.alloc (.cells #[.string key, .slice p cs.length capc] 37)).alloc (.cells #[.int .i64 0, .bool false, .slice none 0 0] 105)) (w.heap.size + 1) #[.int .i64 0, .bool false, .slice none 0 0] 105 := by
    have h := Blk.new (w.alloc (.cells #[.string key, .slice p cs.length capc] 37)) #[.int .i64 0, .bool false, .slice none 0 0] 105
    rw [show (w.alloc (.cells #[.string key, .slice p cs.length capc] 37)).heap.size = w.heap.size + 1 from by simp] at h
    exact h
  have HRF : Hid (∀ wx, Below w.heap.size w wx → FldRow wx a fs) := fun wx h => hrf.below h
  have HRC : Hid (∀ wx, Below w.heap.size w wx → CelRow wx p cs) := fun wx h => hrc.below h
  have HM : Hid (∀ wx, Below w.heap.size w wx → MaxL wx) := fun wx h => hm.below h
  have HSZ : Hid ((docT cs n).size ≤ 1048576) := docT_size hsc n
  have HSF : Hid (FldsSmall fs) := hsf
  have HSC : Hid (CelsSmall cs) := hsc
  have HK0 : Hid ((docOkB fs key cs && docH cs n) = false → toldK fs key cs n = 0) := toldK_no
  have HK1 : Hid (docOkB fs key cs = true → docH cs n = true → ∀ f b, FoundF fs n f b → f.kind = toldK fs key cs n) := fun h1 h2 f b h => by rw [toldK_yes h1 h2, found_kind h]
  have HN : Hid (∀ b0 wx, toldK fs key cs n = 0 → TagsV b0 wx (toldK fs key cs n) (docT cs n) (.slice none 0 0)) := fun b0 wx h => .inr ⟨by omega, rfl⟩
  have HV : Hid (toldK fs key cs n = 0 → cnum (toldK fs key cs n) (docT cs n) = 0 ∧ cisn (toldK fs key cs n) (docT cs n) = false) := fun h => ⟨cnum_not (by omega) _, cisn_not (by omega) _⟩
  clear hrf hrc hm hsf hsc
  generalize toldK fs key cs n = K at *
  go_enter Tryz.func71, Tryz.ntmps71
  go_wp2_with fail
  refine (docOkI_any a capf fs key p capc cs _ hzf hcf HSF.out (HRF.out _ hb0) hk hzc HSC.out (HRC.out _ hb0) (HM.out _ hb0)).mono ?_
  rintro e u1 ⟨rfl, hb1⟩
  have D1 := D0.below hb1 D0.lt
  have R1 := R0.below hb1 R0.lt
  have hw1 := below_trans hb0 hb1
  clear hb0 hb1 D0 R0
  have k0 := D1.cell 0
  have k1 := D1.cell 1
  have r0 := R1.cell 0
  have r1 := R1.cell 1
  have r2 := R1.cell 2
  have y0 := R1.frozen 0
  have y1 := R1.frozen 1
  have y2 := R1.frozen 2
  have hz1 := R1.lt
  simp at k0 k1 r0 r1 r2
  cases hok : docOkB fs key cs with
  | false =>
    rw [hok] at HK0 HK1
    obtain rfl : K = 0 := HK0.out rfl
    obtain ⟨e1, e2⟩ := HV.out rfl
    have HN0 : Hid (∀ b0 wx, TagsV b0 wx 0 (docT cs n) (.slice none 0 0)) := fun b0 wx => HN.out b0 wx rfl
    clear HK0 HK1 HV HN HRF HRC HM HSF HSC HSZ D1 R1
    go_wp2
    refine bodyPost_ret (v := .agg #[.int .i64 0, .bool false, .slice none 0 0]) (by simp [results, Tryz.results71, go_sem, r0, r1, r2]) rfl ⟨.slice none 0 0, by rw [e1, e2], HN0.out _ _, ?_⟩
    exact ((hw1.setCell (Nat.le_succ _) _).setCell (Nat.le_succ _) _).setCell (Nat.le_succ _) _
  | true =>
    rw [hok] at HK0 HK1
    go_wp2_with fail
    refine (docTextI_any key n p capc cs _ hzc HSC.out (HRC.out _ hw1)).mono ?_
    rintro e u2 ⟨rfl, hb2⟩
    have D2 := D1.below hb2 D1.lt
    have R2 := R1.below hb2 R1.lt
    have hw2 := below_trans hw1 hb2
    clear hw1 hb2 D1 R1 k0 k1 r0 r1 r2 y0 y1 y2 hz1
    have r0 := R2.cell 0
    have r1 := R2.cell 1
    have r2 := R2.cell 2
    have y0 := R2.frozen 0
    have y1 := R2.frozen 1
    have y2 := R2.frozen 2
    have hz2 := R2.lt
    simp at r0 r1 r2
    cases hth : docH cs n with
    | false =>
      rw [hth] at HK0 HK1
      obtain rfl : K = 0 := HK0.out rfl
      obtain ⟨e1, e2⟩ := HV.out rfl
      have HN0 : Hid (∀ b0 wx, TagsV b0 wx 0 (docT cs n) (.slice none 0 0)) := fun b0 wx => HN.out b0 wx rfl
      clear HK0 HK1 HV HRF HRC HM HSF HSC HSZ D2 R2 HN
      go_wp2
      refine bodyPost_ret (v := .agg #[.int .i64 0, .bool false, .slice none 0 0]) (by simp [results, Tryz.results71, go_sem, r0, r1, r2]) rfl ⟨.slice none 0 0, by rw [e1, e2], HN0.out _ _, ?_⟩
      exact ((hw2.setCell (Nat.le_succ _) _).setCell (Nat.le_succ _) _).setCell (Nat.le_succ _) _
    | true =>
      rw [hth] at HK0 HK1
      have HK2 : Hid (∀ f b, FoundF fs n f b → f.kind = K) := fun f b h => HK1.out (by trivial) (by trivial) f b h
      clear HK0 HK1 HN HV
      go_wp2_with fail
      refine (fieldOf_any a capf fs n _ hzf (HRF.out _ hw2)).mono ?_
      rintro e u3 ⟨f, b, rfl, hf, hb3⟩
      obtain ⟨nm, kd, wt⟩ := f
      have hkd : kd = K := HK2.out _ _ hf
      subst hkd
      have R3 := R2.below hb3 R2.lt
      have hw3 := below_trans hw2 hb3
      have R4 := R3.alloc (.cells #[.string nm, .int .i64 kd, .int .i64 wt] 72)
      have hw4 : Below w.heap.size w (u3.alloc (.cells #[.string nm, .int .i64 kd, .int .i64 wt] 72)) := hw3.alloc hw3.size _
      have HM4 : Hid (MaxL (u3.alloc (.cells #[.string nm, .int .i64 kd, .int .i64 wt] 72))) := HM.out _ hw4
      have hz3 := R3.lt
      clear HK2 HRF HRC HM HSF HSC D2 R2 R3 hw2 hw3 hb3 hf r0 r1 r2 y0 y1 y2 hz2
      go_wp2_with fail
      refine (contentOf_any kd (docT cs n) _).mono ?_
      rintro e u5 ⟨rfl, rfl⟩
      go_wp2_with fail
      refine (contentTold_any kd (docT cs n) _ HSZ.out HM4.out).mono ?_
      rintro e u6 ⟨v, rfl, htv, hb6⟩
      obtain ⟨vq, vl, vc, rfl⟩ := htv.slice
      have R6 := R4.below hb6 R4.lt
      have hw6 := below_trans hw4 hb6
      have HTV : Hid (TagsV (u3.heap.size + 1) u6 kd (docT cs n) (.slice vq vl vc)) := by
        rw [show (u3.alloc (.cells #[.string nm, .int .i64 kd, .int .i64 wt] 72)).heap.size = u3.heap.size + 1 from by simp] at htv
        exact htv
      clear htv hb6 R4 hw4 HM4 HSZ
      have r0 := R6.cell 0
      have r1 := R6.cell 1
      have r2 := R6.cell 2
      have y0 := R6.frozen 0
      have y1 := R6.frozen 1
      have y2 := R6.frozen 2
      have hz6 := R6.lt
      simp at r0 r1 r2
      obtain ⟨x, hx⟩ : ∃ x, x = cnum kd (docT cs n) := ⟨_, rfl⟩
      obtain ⟨y, hy⟩ : ∃ y, y = cisn kd (docT cs n) := ⟨_, rfl⟩
      rw [← hx, ← hy]
      have HX : Hid (x = cnum kd (docT cs n) ∧ y = cisn kd (docT cs n)) := ⟨hx, hy⟩
      clear hx hy
      go_wp2
      refine bodyPost_ret (v := .agg #[.int .i64 x, .bool y, .slice vq vl vc]) (by simp [results, Tryz.results71, go_sem, r0, r1, r2]) rfl ⟨.slice vq vl vc, by rw [HX.out.1, HX.out.2], ?_, ?_⟩
      · exact (((HTV.out.set (by show w.heap.size + 1 < u3.heap.size + 1; omega) _).set (by show w.heap.size + 1 < u3.heap.size + 1; omega) _).set (by show w.heap.size + 1 < u3.heap.size + 1; omega) _).mono (by omega)
      · exact ((hw6.setCell (Nat.le_succ _) _).setCell (Nat.le_succ _) _).setCell (Nat.le_succ _) _
end Go.Proofs.YtjkimadnopeakaaGreatDoor

/- spec.l1Cut cuts a text at a byte, so many times at most. -/
namespace Go.Proofs.YtjkimadnopeakaaGreatDoor
open Go.RowKit
set_option linter.unusedVariables false

theorem infoStrC : (Tryz.prog.info? 9).map (fun i => (i.zero, i.size, i.bytes)) = some (some (.string ⟨#[]⟩), 1, 16) := by kernel_rfl
theorem str_oneC (s : ByteArray) : ∀ u ∈ [Value.string s], u.oneCell' = true := by
  intro u hu
  simp at hu
  subst hu
  rfl

set_option maxRecDepth 100000 in
set_option maxHeartbeats 4000000 in
theorem l1Cut_any (s : ByteArray) (b : UInt8) (B : Int) (hB : B = (b.toNat : Int)) (most : Nat) (w : World) (hs : s.size ≤ 1048576) (hm : most ≤ 1048577) :
    Calls Tryz.prog 129 #[.string s, .int .u8 B, .int .i64 most] w fun e w' => ∃ v, e = .returned v ∧ w'.ownsRow w.heap.size 9 1 v (cuts b most s).length ((cuts b most s).map Value.string) ∧ Below w.heap.size w w' := by
  obtain ⟨i0, hi, hz0, hz1, hz2⟩ := info_parts infoStrC
  have hBH : Hid (B = (b.toNat : Int)) := hB
  clear hB
  go_enter Tryz.func129, Tryz.ntmps129
  go_wp2
  go_loopw [7, 8, 9] (fun o fr ii wr => ∃ (f i : Nat) (acc : List ByteArray), f ≤ i ∧ i ≤ s.size ∧ acc.length ≤ most ∧ ii = .int .i64 i ∧ fr = .int .i64 f ∧ acc ++ cuts b (most - acc.length) (s.extract f s.size) = cuts b most s ∧ (∀ j, f ≤ j → j < i → byteAt s j ≠ B) ∧
      wr.ownsRow w.heap.size 9 1 o acc.length (acc.map Value.string) ∧ (∃ oa oc, o = .slice oa acc.length oc) ∧ Below w.heap.size w wr) (fun _ _ i _ => s.size - (intOf i).toNat)
  case atStart => exact ⟨0, 0, [], Nat.le_refl _, Nat.zero_le _, Nat.zero_le _, rfl, rfl, by rw [extract_all]; simp, (fun j _ h => by omega), World.ownsRow_lit w #[] 0 (Nat.le_refl _) (by decide) rfl, ⟨_, _, rfl⟩, (Below.refl _ w).alloc (Nat.le_refl _) _⟩
  case round =>
    obtain ⟨f, i, acc, hfi, hil, hal, rfl, rfl, hcut, hno, hown, ⟨oa, oc, rfl⟩, hbel⟩ := hrel
    have hsz := hbel.size
    have HC : Hid (acc ++ cuts b (most - acc.length) (s.extract f s.size) = cuts b most s) := hcut
    have HN : Hid (∀ j, f ≤ j → j < i → byteAt s j ≠ B) := hno
    have HO : Hid (wr.ownsRow w.heap.size 9 1 (.slice oa acc.length oc) acc.length (acc.map Value.string)) := hown
    clear hcut hno hown
    by_cases hgo : i < s.size ∧ acc.length < most
    · obtain ⟨hlt, hlm⟩ := hgo
      have hbt := byteAt_eq s i hlt
      have HBT : Hid (byteAt s i = ((s[i]'hlt).toNat : Int)) := hbt
      clear hbt
      by_cases heq : ((s[i]'hlt).toNat : Int) = B
      · have HNX : Hid (cuts b (most - acc.length) (s.extract f s.size) = s.extract f i :: cuts b (most - acc.length - 1) (s.extract (i + 1) s.size)) := by
          unfold Hid
          rw [show most - acc.length = (most - acc.length - 1) + 1 from by omega]
          exact cuts_hit s b _ f i hfi hlt (by rw [HBT.out, heq, hBH.out]) (fun j h1 h2 => by rw [← hBH.out]; exact HN.out j h1 h2)
        have hf1 : (f : Int) ≤ (i : Int) := by omega
        have hi1 : (i : Int) ≤ (s.size : Int) := by omega
        go_wp2_with (at_builtin; refine wpList_append_own _ rfl _ _ 60 rfl w.heap.size 9 i0 (.string ⟨#[]⟩) 1 16 Tryz.underlying60 hi hz0 hz1 hz2 rfl (by decide) _ _ _ rfl (HO.out.alloc _) ⟨wr.heap.size, 0, none⟩ 1 1 [.string (s.extract f i)] rfl rfl (cells_new _ _ _) (str_oneC _) (by unfold maxLen; omega) (by omega) (by simp; omega) ?_)
        intro v' w3 hown' hgrow _
        have hb4 : Below w.heap.size w w3 := (hbel.alloc hsz _).grown hgrow (by simp; omega) (fun j hj => (HO.out.lt j hj).1)
        obtain ⟨va, vc, hv⟩ : ∃ va vc, v' = .slice va (acc.length + 1) vc := by
          rcases hown'.2 with ⟨h1, h2⟩ | ⟨g, c, cur, h1, _⟩
          · omega
          · exact ⟨_, _, h1⟩
        subst hv
        have HO3 : Hid (w3.ownsRow w.heap.size 9 1 (.slice va (acc.length + 1) vc) (acc ++ [s.extract f i]).length ((acc ++ [s.extract f i]).map Value.string)) := by
          unfold Hid
          rw [List.map_append, List.length_append]
          exact hown'
        clear hown' hgrow HO
        go_wp2
        go_roundw
        case rel =>
          refine ⟨i + 1, i + 1, acc ++ [s.extract f i], Nat.le_refl _, by omega, by simp; omega, by go_num, by go_num, ?_, (fun j h1 h2 => by omega), HO3.out, ⟨va, vc, by simp⟩, hb4⟩
          rw [← HC.out, HNX.out]
          simp [Nat.sub_sub]
        case measure => simp [intOf]; omega
      · go_wp2
        go_roundw
        case rel =>
          refine ⟨f, i + 1, acc, by omega, by omega, hal, by go_num, rfl, HC.out, (fun j h1 h2 => ?_), HO.out, ⟨oa, oc, rfl⟩, hbel⟩
          by_cases e : j = i
          · subst e; rw [HBT.out]; exact heq
          · exact HN.out j h1 (by omega)
        case measure => simp [intOf]; omega
    · have HL : Hid (cuts b (most - acc.length) (s.extract f s.size) = [s.extract f s.size]) := by
        unfold Hid
        by_cases hm0 : acc.length < most
        · have hie : i = s.size := by omega
          subst hie
          exact cuts_miss s b _ f hfi (fun j h1 h2 => by rw [← hBH.out]; exact HN.out j h1 h2)
        · rw [show most - acc.length = 0 from by omega]
          rfl
      have HF : Hid (acc ++ [s.extract f s.size] = cuts b most s) := by unfold Hid; rw [← HC.out, HL.out]
      have hf1 : (f : Int) ≤ (s.size : Int) := by omega
      have hstop : (i : Int) < (s.size : Int) → (acc.length : Int) < (most : Int) → False := fun h1 h2 => hgo ⟨by omega, by omega⟩
      clear hgo HC HL HN
      by_cases h1 : (i : Int) < (s.size : Int)
      · have h2 : ¬ (acc.length : Int) < (most : Int) := fun h => hstop h1 h
        clear hstop
        go_wp2_with (at_builtin; refine wpList_append_own _ rfl _ _ 60 rfl w.heap.size 9 i0 (.string ⟨#[]⟩) 1 16 Tryz.underlying60 hi hz0 hz1 hz2 rfl (by decide) _ _ _ rfl (HO.out.alloc _) ⟨wr.heap.size, 0, none⟩ 1 1 [.string (s.extract f s.size)] rfl rfl (cells_new _ _ _) (str_oneC _) (by unfold maxLen; omega) (by omega) (by simp; omega) ?_)
        intro v' w3 hown' hgrow _
        have hb4 : Below w.heap.size w w3 := (hbel.alloc hsz _).grown hgrow (by simp; omega) (fun j hj => (HO.out.lt j hj).1)
        have HO3 : Hid (w3.ownsRow w.heap.size 9 1 v' (cuts b most s).length ((cuts b most s).map Value.string)) := by
          unfold Hid
          rw [← HF.out, List.map_append, List.length_append]
          exact hown'
        clear hown' hgrow HO HF
        go_wp2
        go_ret
        exact ⟨v', rfl, HO3.out, hb4⟩
      · clear hstop
        go_wp2_with (at_builtin; refine wpList_append_own _ rfl _ _ 60 rfl w.heap.size 9 i0 (.string ⟨#[]⟩) 1 16 Tryz.underlying60 hi hz0 hz1 hz2 rfl (by decide) _ _ _ rfl (HO.out.alloc _) ⟨wr.heap.size, 0, none⟩ 1 1 [.string (s.extract f s.size)] rfl rfl (cells_new _ _ _) (str_oneC _) (by unfold maxLen; omega) (by omega) (by simp; omega) ?_)
        intro v' w3 hown' hgrow _
        have hb4 : Below w.heap.size w w3 := (hbel.alloc hsz _).grown hgrow (by simp; omega) (fun j hj => (HO.out.lt j hj).1)
        have HO3 : Hid (w3.ownsRow w.heap.size 9 1 v' (cuts b most s).length ((cuts b most s).map Value.string)) := by
          unfold Hid
          rw [← HF.out, List.map_append, List.length_append]
          exact hown'
        clear hown' hgrow HO HF
        go_wp2
        go_ret
        exact ⟨v', rfl, HO3.out, hb4⟩
end Go.Proofs.YtjkimadnopeakaaGreatDoor
