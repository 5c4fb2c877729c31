/- Draw, DrawText, One, DrawMore, CodeBelow, L10Flds, DrawFlds, FldCells, DrawFlds2, CelRows, DrawDoc, DrawDoc2, DrawDoc3: in one text. -/
import Derived.Test.YtjkimadnopeakaaGreatDoorMg0FnExactMeets
import Derived.Laws.BitsAllLaws
import Derived.Deep.QuietTactic
import Derived.BigQuiet
import Derived.Deep.DeepCutAuto
import Derived.OpenShut
import Derived.Laws.AppendOwn
import Derived.Deep.CutBlock
/- Contracts of the model's reader of drawn bytes: l1Open, pick, of. What matters of a draw: that it ends, what it may hand out, and that it writes into nothing but the reader. -/
namespace Go.Proofs.YtjkimadnopeakaaGreatDoor
open Go.RowKit

theorem xor_nonneg (a b : Nat) (ha : a < 4294967296) (hb : b < 4294967296) : 0 ≤ bits .xor .i64 (a : Int) (b : Int) ∧ bits .xor .i64 (a : Int) (b : Int) < 4294967296 := by
  have hx : a ^^^ b < 2 ^ 32 := Nat.xor_lt_two_pow (by omega) (by omega)
  have h1 : (BitVec.ofInt 64 (a : Int)).toNat = a := by
    rw [BitVec.ofInt_natCast, BitVec.toNat_ofNat]; exact Nat.mod_eq_of_lt (by omega)
  have h2 : (BitVec.ofInt 64 (b : Int)).toNat = b := by
    rw [BitVec.ofInt_natCast, BitVec.toNat_ofNat]; exact Nat.mod_eq_of_lt (by omega)
  have h : bits .xor .i64 (a : Int) (b : Int) = ((a ^^^ b : Nat) : Int) := by
    show IntKind.i64.wrap ((BitVec.ofInt 64 (a : Int) ^^^ BitVec.ofInt 64 (b : Int)).toNat : Int) = _
    rw [BitVec.toNat_xor, h1, h2]
    simp [IntKind.wrap, IntKind.bits, IntKind.signed]
    omega
  rw [h]
  omega
theorem xor_nonneg' (x y : Int) (h0 : 0 ≤ x) (h1 : x < 4294967296) (h2 : 0 ≤ y) (h3 : y < 4294967296) : 0 ≤ bits .xor .i64 x y ∧ bits .xor .i64 x y < 4294967296 := by
  obtain ⟨a, rfl⟩ := Int.eq_ofNat_of_zero_le h0
  obtain ⟨b, rfl⟩ := Int.eq_ofNat_of_zero_le h2
  exact xor_nonneg a b (by omega) (by omega)

theorem pick_val (x n : Int) (h0 : 0 ≤ x) (h1 : x < 4294967296) (hn : 1 ≤ n) : 0 ≤ (bits .xor .i64 x (x / 64)).tmod n ∧ (bits .xor .i64 x (x / 64)).tmod n < n := by
  have h := xor_nonneg' x (x / 64) h0 h1 (by omega) (by omega)
  exact ⟨Int.tmod_nonneg _ h.1, Int.tmod_lt_of_pos _ (by omega)⟩

/-- The reader: a block of the call's own. -/
def Rd (w : World) (R : Nat) (a : Option Addr) (len cap : Nat) (p : Int) : Prop := w.heap[R]? = some (.cells #[.slice a len cap, .int .i64 p] 124 (0, 0))
theorem Rd.c0 {w : World} {R : Nat} {a : Option Addr} {len cap : Nat} {p : Int} (h : Rd w R a len cap p) : w.cell? ⟨R, 0, none⟩ = some (.slice a len cap) := by
  unfold Rd at h
  simp [World.cell?, h]
theorem Rd.c1 {w : World} {R : Nat} {a : Option Addr} {len cap : Nat} {p : Int} (h : Rd w R a len cap p) : w.cell? ⟨R, 1, none⟩ = some (.int .i64 p) := by
  unfold Rd at h
  simp [World.cell?, h]
theorem Rd.f1 {w : World} {R : Nat} {a : Option Addr} {len cap : Nat} {p : Int} (h : Rd w R a len cap p) : w.frozen? ⟨R, 1, none⟩ = false := by
  unfold Rd at h
  simp [World.frozen?, h]
theorem Rd.lt {w : World} {R : Nat} {a : Option Addr} {len cap : Nat} {p : Int} (h : Rd w R a len cap p) : R < w.heap.size := lt_of_block h
theorem Rd.step {w : World} {R : Nat} {a : Option Addr} {len cap : Nat} {p : Int} (h : Rd w R a len cap p) (q : Int) : Rd (w.setCell ⟨R, 1, none⟩ (.int .i64 q)) R a len cap q := by
  unfold Rd at h ⊢
  simp only [World.setCell, Array.getElem?_modify, if_true, h]
  rfl
theorem grown_set (w : World) (R : Nat) (o : Nat) (v : Value) : w.grownBy (w.setCell ⟨R, o, none⟩ v) (some R) :=
  ⟨rfl, rfl, rfl, by simp [World.setCell], fun k hk hne => Below.heap_setCell _ _ _ _ (by intro e; apply hne; simp [e])⟩

/-- The bytes that came in: read below R. -/
structure Code (w : World) (R : Nat) (a : Option Addr) (len : Nat) : Prop where
  small : len ≤ 2000
  cells : 0 < len → ∃ (b off : Nat) (z : Nat → Int), a = some ⟨b, off, none⟩ ∧ b < R ∧ ∀ i, i < len → w.cell? ⟨b, off + i, none⟩ = some (.int .u8 (z i)) ∧ 0 ≤ z i ∧ z i ≤ 255
theorem Code.kept {w w' : World} {R len : Nat} {a : Option Addr} (h : Code w R a len) (hg : w.grownBy w' (some R)) (hR : R < w.heap.size) : Code w' R a len :=
  ⟨h.small, fun hp => by
    obtain ⟨b, off, z, e, hb, hc⟩ := h.cells hp
    exact ⟨b, off, z, e, hb, fun i hi => ⟨by rw [← (hc i hi).1]; exact World.cell?_of_block (hg.block b (by omega) (by intro e; cases e; omega)), (hc i hi).2⟩⟩⟩

set_option maxHeartbeats 1000000 in
theorem pick_any (R : Nat) (a : Option Addr) (len cap k : Nat) (n : Int) (w : World) (hR : Rd w R a len cap k) (hC : Code w R a len) (hk : k ≤ 1000000) (hn1 : 1 ≤ n) (hn2 : n ≤ 1000000) :
    Calls Tryz.prog 92 #[.pointer (some ⟨R, 0, none⟩), .int .i64 n] w fun e w' => ∃ v : Int, e = .returned (.int .i64 v) ∧ 0 ≤ v ∧ v < n ∧ Rd w' R a len cap ((k + 1 : Nat) : Int) ∧ w.grownBy w' (some R) := by
  have c0 := hR.c0
  have c1 := hR.c1
  have f1 := hR.f1
  have HR : Hid (Rd w R a len cap k) := hR
  have HC : Hid (Code w R a len) := hC
  have hsm := hC.small
  clear hR hC
  by_cases h0 : len = 0
  · subst h0
    go_enter Tryz.func92, Tryz.ntmps92
    go_wp2
    go_ret
    exact ⟨0, rfl, by omega, by omega, HR.out.step _, grown_set _ _ _ _⟩
  · obtain ⟨b, off, z, rfl, hb, hc⟩ := HC.out.cells (by omega)
    have hl0 : ((len : Int) == 0) = false := by simp; omega
    by_cases hlt : k < len
    · obtain ⟨hck, hz0, hz1⟩ := hc k hlt
      clear hc
      go_enter Tryz.func92, Tryz.ntmps92
      go_wp2
      go_ret
      refine ⟨_, rfl, ?_, ?_, HR.out.step _, grown_set _ _ _ _⟩
      · exact Int.emod_nonneg _ (by omega)
      · exact Int.emod_lt_of_pos _ (by omega)
    · have i1 : k % len < len := Nat.mod_lt _ (by omega)
      have i2 : (k * 7 + 3) % len < len := Nat.mod_lt _ (by omega)
      obtain ⟨hc1, hx0, hx1⟩ := hc _ i1
      obtain ⟨hc2, hy0, hy1⟩ := hc _ i2
      have j1 : 0 ≤ (k : Int) % (len : Int) ∧ (k : Int) % (len : Int) < (len : Int) := ⟨Int.emod_nonneg _ (by omega), Int.emod_lt_of_pos _ (by omega)⟩
      have j2 : 0 ≤ ((k : Int) * 7 + 3) % (len : Int) ∧ ((k : Int) * 7 + 3) % (len : Int) < (len : Int) := ⟨Int.emod_nonneg _ (by omega), Int.emod_lt_of_pos _ (by omega)⟩
      have hd : 0 ≤ (k : Int) / (len : Int) ∧ (k : Int) / (len : Int) ≤ 1000000 := ⟨Int.ediv_nonneg (by omega) (by omega), Int.le_trans (Int.ediv_le_self _ (by omega)) (by omega)⟩
      obtain ⟨hd0, hd1⟩ := hd
      obtain ⟨j1a, j1b⟩ := j1
      obtain ⟨j2a, j2b⟩ := j2
      clear hc
      go_enter Tryz.func92, Tryz.ntmps92
      go_wp2
      go_quiet (fail)
      go_wp2
      go_ret
      refine ⟨_, rfl, ?_, ?_, ?_, ?_⟩
      · exact (pick_val _ _ (by omega) (by omega) (by omega)).1
      · exact (pick_val _ _ (by omega) (by omega) (by omega)).2
      · exact HR.out.step _
      · exact ⟨rfl, rfl, rfl, (grown_set w R 1 _).size, (grown_set w R 1 _).block⟩
end Go.Proofs.YtjkimadnopeakaaGreatDoor

/- Contracts of the model's draws of words and texts: a text comes, of a bounded size; nothing is written but the reader. -/
namespace Go.Proofs.YtjkimadnopeakaaGreatDoor
open Go.RowKit

/-- A slice of bytes that came in. -/
structure BytesIn (w : World) (a : Option Addr) (len cap : Nat) : Prop where
  le : len ≤ cap
  max : cap ≤ maxLen
  cells : 0 < len → ∃ (b off : Nat) (z : Nat → Int), a = some ⟨b, off, none⟩ ∧ b < w.heap.size ∧ ∀ i, i < len → w.cell? ⟨b, off + i, none⟩ = some (.int .u8 (z i)) ∧ 0 ≤ z i ∧ z i ≤ 255

theorem bytes_in {w : World} {a : Option Addr} {len cap : Nat} {zs : List Int} (h : (a = none ∧ len = 0 ∧ cap = 0 ∧ zs = []) ∨
    ∃ x, a = some x ∧ len ≤ cap ∧ cap ≤ maxLen ∧ zs.length = cap ∧ (∀ i, i < zs.length → w.cell? (x.add i) = some (.int .u8 (zs.getD i 0))) ∧ ∀ n ∈ zs, (Lit.int .u8 n).wf = true) : BytesIn w a len cap := by
  rcases h with ⟨rfl, rfl, rfl, rfl⟩ | ⟨x, rfl, h1, h2, h3, h4, h5⟩
  · exact ⟨Nat.le_refl _, by decide, fun h => by omega⟩
  · refine ⟨h1, h2, fun hp => ?_⟩
    obtain ⟨b, off, spot⟩ := x
    have hc0 := h4 0 (by omega)
    have hspot : spot = none := by simpa [Addr.add] using World.cell?_spot hc0
    subst hspot
    have hadd : ∀ i, (⟨b, off, none⟩ : Addr).add i = ⟨b, off + i, none⟩ := fun i => by
      unfold Addr.add
      by_cases e : i = 0
      · simp [e]
      · simp [e]
    refine ⟨b, off, fun i => zs.getD i 0, rfl, ?_, fun i hi => ⟨?_, ?_⟩⟩
    · exact cell_lt (o := off) (v := .int .u8 (zs.getD 0 0)) (by rw [← hc0, hadd]; simp)
    · rw [← hadd]; exact h4 i (by omega)
    · have hm : zs.getD i 0 ∈ zs := by
        rw [List.getD_eq_getElem?_getD, List.getElem?_eq_getElem (by omega)]
        exact List.getElem_mem _
      have := bounds_u8 (h5 _ hm)
      omega

theorem BytesIn.below {w w' : World} {a : Option Addr} {len cap : Nat} (h : BytesIn w a len cap) (hb : Below w.heap.size w w') : BytesIn w' a len cap :=
  ⟨h.le, h.max, fun hp => by
    obtain ⟨b, off, z, e, hbs, hc⟩ := h.cells hp
    exact ⟨b, off, z, e, by have := hb.size; omega, fun i hi => ⟨by rw [hb.cell (p := ⟨b, off + i, none⟩) hbs]; exact (hc i hi).1, (hc i hi).2⟩⟩⟩
theorem open_any (a : Option Addr) (len cap : Nat) (w : World) (h : BytesIn w a len cap) :
    Calls Tryz.prog 47 #[.slice a len cap] w fun e w' => ∃ len', e = .returned (.pointer (some ⟨w.heap.size, 0, none⟩)) ∧ Rd w' w.heap.size a len' cap ((0 : Nat) : Int) ∧ Code w' w.heap.size a len' ∧ Below w.heap.size w w' := by
  have hle := h.le
  have hmx := h.max
  unfold maxLen at hmx
  have fin : ∀ len', len' ≤ len → len' ≤ 2000 → Rd (w.alloc (.cells #[.slice a len' cap, .int .i64 0] 124)) w.heap.size a len' cap ((0 : Nat) : Int) ∧ Code (w.alloc (.cells #[.slice a len' cap, .int .i64 0] 124)) w.heap.size a len' ∧ Below w.heap.size w (w.alloc (.cells #[.slice a len' cap, .int .i64 0] 124)) := by
    intro len' h1 h2
    refine ⟨heap_alloc_new w _, ⟨h2, fun hp => ?_⟩, (Below.refl _ w).alloc (Nat.le_refl _) _⟩
    obtain ⟨b, off, z, e, hb, hc⟩ := h.cells (by omega)
    exact ⟨b, off, z, e, hb, fun i hi => ⟨by rw [World.cell?_alloc_lt _ _ _ hb]; exact (hc i (by omega)).1, (hc i (by omega)).2⟩⟩
  have FIN : Hid (∀ len', len' ≤ len → len' ≤ 2000 → Rd (w.alloc (.cells #[.slice a len' cap, .int .i64 0] 124)) w.heap.size a len' cap ((0 : Nat) : Int) ∧ Code (w.alloc (.cells #[.slice a len' cap, .int .i64 0] 124)) w.heap.size a len' ∧ Below w.heap.size w (w.alloc (.cells #[.slice a len' cap, .int .i64 0] 124))) := fin
  clear fin
  by_cases hl : 2000 < (len : Int)
  · obtain ⟨b, off, z, rfl, hb, hc⟩ := h.cells (by omega)
    clear hc h
    go_enter Tryz.func47, Tryz.ntmps47
    go_wp2
    go_ret
    exact ⟨2000, rfl, FIN.out 2000 (by omega) (by omega)⟩
  · clear h
    go_enter Tryz.func47, Tryz.ntmps47
    go_wp2
    go_ret
    first | exact ⟨len, rfl, FIN.out len (Nat.le_refl _) (by omega)⟩ | exact ⟨rfl, len, FIN.out len (Nat.le_refl _) (by omega)⟩

/-- Strings that lie in a row, each of a kind. -/
def Strs (w : World) (L m : Nat) (p : ByteArray → Prop) : Prop := ∀ i, i < m → ∃ t, w.cell? ⟨L, i, none⟩ = some (.string t) ∧ p t
def strB (n : Nat) : Value → Bool
  | .string t => decide (t.size ≤ n)
  | _ => false
theorem strs_new (w : World) (C : Array Value) (e : TypeId) (n : Nat) (h : C.toList.all (strB n) = true) : Strs (w.alloc (.cells C e)) w.heap.size C.size (fun t => t.size ≤ n) := by
  intro i hi
  have hm := List.all_eq_true.1 h C[i] (by simp)
  rw [World.cell?_alloc_new, Array.getElem?_eq_getElem hi]
  cases hc : C[i] with
  | string t =>
    rw [hc] at hm
    exact ⟨t, rfl, by simpa [strB] using hm⟩
  | _ => rw [hc] at hm; simp [strB] at hm
theorem Rd.alloc {w : World} {R : Nat} {a : Option Addr} {len cap : Nat} {p : Int} (h : Rd w R a len cap p) (o : Obj) : Rd (w.alloc o) R a len cap p := by
  have := h.lt
  unfold Rd at h ⊢
  rw [Below.heap_alloc w o R this]
  exact h
theorem grown_alloc (w : World) (o : Obj) (R : Nat) : w.grownBy (w.alloc o) (some R) := World.grownBy_alloc w o _
theorem grown_trans {a b c : World} {R : Nat} (h : a.grownBy b (some R)) (k : b.grownBy c (some R)) : a.grownBy c (some R) :=
  ⟨k.os.trans h.os, k.tape.trans h.tape, k.output.trans h.output, Nat.le_trans h.size k.size, fun i hi hn => (k.block i (by have := h.size; omega) hn).trans (h.block i hi hn)⟩

theorem of_any (R L m : Nat) (a : Option Addr) (len cap k : Nat) (p : ByteArray → Prop) (w : World) (hR : Rd w R a len cap k) (hC : Code w R a len) (hk : k ≤ 1000000) (hS : Strs w L m p) (hm1 : 1 ≤ m) (hm2 : m ≤ 1000) (hL : L ≠ R) :
    Calls Tryz.prog 69 #[.pointer (some ⟨R, 0, none⟩), .slice (some ⟨L, 0, none⟩) m m] w fun e w' => ∃ t, e = .returned (.string t) ∧ p t ∧ Rd w' R a len cap ((k + 1 : Nat) : Int) ∧ w.grownBy w' (some R) := by
  go_enter Tryz.func69, Tryz.ntmps69
  go_wp2_with fail
  refine (pick_any R a len cap k _ _ hR hC hk (by omega) (by omega)).mono ?_
  rintro e w1 ⟨v, rfl, hv0, hv1, hR1, hg1⟩
  obtain ⟨j, rfl⟩ := Int.eq_ofNat_of_zero_le hv0
  have hj : j < m := by omega
  obtain ⟨t, hct, hpt⟩ := hS j hj
  have hcj : w1.cell? ⟨L, j, none⟩ = some (.string t) := hg1.cell hct (by simpa using hL)
  have HR1 : Hid (Rd w1 R a len cap ((k + 1 : Nat) : Int)) := hR1
  clear hR hC hS hR1 hct
  go_wp2
  go_ret
  exact ⟨t, rfl, hpt, HR1.out, hg1⟩

theorem word_any (R : Nat) (a : Option Addr) (len cap k : Nat) (w : World) (hR : Rd w R a len cap k) (hC : Code w R a len) (hk : k ≤ 900000) :
    Calls Tryz.prog 148 #[.pointer (some ⟨R, 0, none⟩)] w fun e w' => ∃ t, e = .returned (.string t) ∧ t.size ≤ 18 ∧ Rd w' R a len cap ((k + 1 : Nat) : Int) ∧ w.grownBy w' (some R) := by
  have hlt := hR.lt
  have HR : Hid (Rd w R a len cap k) := hR
  clear hR
  go_enter Tryz.func148, Tryz.ntmps148
  go_wp2_with fail
  refine (of_any R w.heap.size 14 a len cap k _ _ (HR.out.alloc _) (hC.kept (grown_alloc _ _ _) hlt) (by omega) (strs_new w _ _ 18 (by decide +kernel)) (by omega) (by omega) (by omega)).mono ?_
  rintro e w1 ⟨t, rfl, ht, hR1, hg1⟩
  have HR1 : Hid (Rd w1 R a len cap ((k + 1 : Nat) : Int)) := hR1
  clear hC hR1
  go_wp2
  go_ret
  exact ⟨t, rfl, ht, HR1.out, grown_trans (grown_alloc _ _ _) hg1⟩
end Go.Proofs.YtjkimadnopeakaaGreatDoor

/- A number drawn out of a list; what a draw leaves as it was. -/
namespace Go.Proofs.YtjkimadnopeakaaGreatDoor
open Go.RowKit

theorem grown_own {w w1 w2 : World} {R : Nat} {r : Option Nat} (h : w.grownBy w1 (some R)) (k : w1.grownBy w2 r) (hr : ∀ j, r = some j → w.heap.size ≤ j) : w.grownBy w2 (some R) :=
  ⟨k.os.trans h.os, k.tape.trans h.tape, k.output.trans h.output, Nat.le_trans h.size k.size, fun i hi hn => (k.block i (by have := h.size; omega) (fun e => by have := hr i e.symm; omega)).trans (h.block i hi hn)⟩
theorem Rd.grown {w w2 : World} {R : Nat} {a : Option Addr} {len cap : Nat} {p : Int} {r : Option Nat} (h : Rd w R a len cap p) (k : w.grownBy w2 r) (hr : ∀ j, r = some j → R < j) : Rd w2 R a len cap p := by
  have := h.lt
  unfold Rd at h ⊢
  rw [k.block R this (fun e => by have := hr R e.symm; omega)]
  exact h
theorem own_kept {w w' : World} {base R : Nat} {e : TypeId} {s : Nat} {v : Value} {n : Nat} {xs : List Value} (h : w.ownsRow base e s v n xs) (hg : w.grownBy w' (some R)) (hb : R < base) : w'.ownsRow base e s v n xs := by
  refine h.kept hg ?_
  cases hv : v.ownBlock with
  | none => exact .inl rfl
  | some j => exact .inr (fun e => by have := (h.lt j hv).1; cases e; omega)

theorem one_any (R L m : Nat) (a : Option Addr) (len cap k : Nat) (w : World) (hR : Rd w R a len cap k) (hC : Code w R a len) (hk : k ≤ 1000000) (hS : ∀ i, i < m → ∃ z, w.cell? ⟨L, i, none⟩ = some (.int .i64 z)) (hm1 : 1 ≤ m) (hm2 : m ≤ 1000) (hL : L ≠ R) :
    Calls Tryz.prog 93 #[.pointer (some ⟨R, 0, none⟩), .slice (some ⟨L, 0, none⟩) m m] w fun e w' => ∃ z, e = .returned (.int .i64 z) ∧ Rd w' R a len cap ((k + 1 : Nat) : Int) ∧ w.grownBy w' (some R) := by
  go_enter Tryz.func93, Tryz.ntmps93
  go_wp2_with fail
  refine (pick_any R a len cap k _ _ hR hC hk (by omega) (by omega)).mono ?_
  rintro e w1 ⟨v, rfl, hv0, hv1, hR1, hg1⟩
  obtain ⟨j, rfl⟩ := Int.eq_ofNat_of_zero_le hv0
  have hj : j < m := by omega
  obtain ⟨t, hct⟩ := hS j hj
  have hcj : w1.cell? ⟨L, j, none⟩ = some (.int .i64 t) := hg1.cell hct (by simpa using hL)
  have HR1 : Hid (Rd w1 R a len cap ((k + 1 : Nat) : Int)) := hR1
  clear hR hC hS hR1 hct
  go_wp2
  go_ret
  exact ⟨t, rfl, HR1.out, hg1⟩
end Go.Proofs.YtjkimadnopeakaaGreatDoor

/- Contracts of l1Many, l11Text, l11AnyText and of the draws of a text. -/
namespace Go.Proofs.YtjkimadnopeakaaGreatDoor
open Go.RowKit

theorem many_odd (t y q : Nat) : t + y + (y + y) * q = t + y * (2 * q + 1) := by
  rw [Nat.add_mul, Nat.mul_add, Nat.mul_one, Nat.mul_left_comm]
  omega
theorem many_even (t y q : Nat) : t + (y + y) * q = t + y * (2 * q) := by
  rw [Nat.add_mul, Nat.mul_left_comm]
  omega

set_option maxHeartbeats 400000 in
theorem many_any (s : ByteArray) (n : Nat) (w : World) (hs : s.size * n ≤ 1048576) (hs1 : 1 ≤ s.size) :
    Calls Tryz.prog 127 #[.string s, .int .i64 n] w fun e w' => ∃ t, e = .returned (.string t) ∧ t.size = s.size * n ∧ w = w' := by
  go_enter Tryz.func127, Tryz.ntmps127
  go_wp2
  go_loop [0, 1, 5] (fun x i o => ∃ (y t : ByteArray) (j : Nat), x = .string y ∧ i = .int .i64 j ∧ o = .string t ∧ t.size + y.size * j = s.size * n ∧ 1 ≤ y.size) (fun _ i _ => (intOf i).toNat)
  case atStart => exact ⟨s, ⟨#[]⟩, n, rfl, rfl, rfl, Nat.zero_add _, hs1⟩
  case round =>
    obtain ⟨y, t, j, rfl, rfl, rfl, hsum, hy⟩ := hrel
    by_cases hj : j = 0
    · subst hj
      go_wp2
      go_ret
      exact ⟨t, rfl, by omega, rfl⟩
    · have h1 : j ≤ y.size * j := Nat.le_mul_of_pos_left _ (by omega)
      have h2 : y.size ≤ y.size * j := Nat.le_mul_of_pos_right _ (by omega)
      have b1 : t.size ≤ 1048576 := by omega
      have b2 : y.size ≤ 1048576 := by omega
      have b3 : j ≤ 1048576 := by omega
      have HS : Hid (t.size + y.size * j = s.size * n) := hsum
      clear hsum h1 h2
      have hq : j = 2 * (j / 2) + 1 ∨ j = 2 * (j / 2) := by omega
      rcases hq with hq | hq
      · have HQ : Hid (j = 2 * (j / 2) + 1) := hq
        have hm : ((j : Int) % 2 == 1) = true := by simp; omega
        clear hq
        go_wp2
        go_round
        case rel => exact ⟨y ++ y, t ++ y, j / 2, rfl, by go_num, rfl, by rw [ByteArray.size_append, ByteArray.size_append, many_odd, ← HQ.out]; exact HS.out, by rw [ByteArray.size_append]; omega⟩
        case measure => simp [intOf]; omega
      · have HQ : Hid (j = 2 * (j / 2)) := hq
        have hm : ((j : Int) % 2 == 1) = false := by simp; omega
        clear hq
        go_wp2
        go_round
        case rel => exact ⟨y ++ y, t, j / 2, rfl, by go_num, rfl, by rw [ByteArray.size_append, many_even, ← HQ.out]; exact HS.out, by rw [ByteArray.size_append]; omega⟩
        case measure => simp [intOf]; omega

set_option maxHeartbeats 400000 in
theorem text_any (R : Nat) (a : Option Addr) (len cap k : Nat) (w : World) (hR : Rd w R a len cap k) (hC : Code w R a len) (hk : k ≤ 800000) :
    Calls Tryz.prog 126 #[.pointer (some ⟨R, 0, none⟩)] w fun e w' => ∃ (t : ByteArray) (k' : Nat), e = .returned (.string t) ∧ t.size ≤ 100 ∧ k' ≤ k + 20 ∧ Rd w' R a len cap (k' : Int) ∧ w.grownBy w' (some R) := by
  have hlt := hR.lt
  go_enter Tryz.func126, Tryz.ntmps126
  go_wp2_with fail
  refine (pick_any R a len cap k _ _ hR hC (by omega) (by omega) (by omega)).mono ?_
  rintro e w1 ⟨v, rfl, hv0, hv1, hR1, hg1⟩
  obtain ⟨j0, rfl⟩ := Int.eq_ofNat_of_zero_le hv0
  have HR1 : Hid (Rd w1 R a len cap ((k + 1 : Nat) : Int)) := hR1
  have HC1 : Hid (Code w1 R a len) := hC.kept hg1 hlt
  clear hR hC hR1
  go_wp2
  go_loopw [3, 4] (fun o i wr => ∃ (t : ByteArray) (j kk : Nat), o = .string t ∧ i = .int .i64 j ∧ j ≤ 5 ∧ t.size + 20 * j ≤ 100 ∧ kk + 2 * j ≤ k + 11 ∧ Rd wr R a len cap (kk : Int) ∧ Code wr R a len ∧ w.grownBy wr (some R)) (fun _ i _ => (intOf i).toNat)
  case atStart => exact ⟨⟨#[]⟩, j0, k + 1, rfl, rfl, by omega, by show 0 + 20 * j0 ≤ 100; omega, by omega, HR1.out, HC1.out, hg1⟩
  case round =>
    obtain ⟨t, j, kk, rfl, rfl, hj5, htj, hkk, hRr, hCr, hgr⟩ := hrel
    by_cases hj : j = 0
    · subst hj
      have HRr : Hid (Rd wr R a len cap (kk : Int)) := hRr
      clear hRr hCr
      go_wp2
      go_ret
      exact ⟨t, kk, rfl, by omega, by omega, HRr.out, hgr⟩
    · have hltr := hRr.lt
      go_wp2_with fail
      refine (word_any R a len cap kk _ hRr hCr (by omega)).mono ?_
      rintro e w2 ⟨t2, rfl, ht2, hR2, hg2⟩
      have HR2 : Hid (Rd w2 R a len cap ((kk + 1 : Nat) : Int)) := hR2
      have HC2 : Hid (Code w2 R a len) := hCr.kept hg2 hltr
      have hlt2 := hR2.lt
      clear hRr hCr hR2
      go_wp2_with fail
      refine (of_any R w2.heap.size 5 a len cap (kk + 1) _ _ (HR2.out.alloc _) (HC2.out.kept (grown_alloc _ _ _) hlt2) (by omega) (strs_new w2 _ _ 2 (by decide +kernel)) (by omega) (by omega) (by omega)).mono ?_
      rintro e w3 ⟨t3, rfl, ht3, hR3, hg3⟩
      have HR3 : Hid (Rd w3 R a len cap ((kk + 1 + 1 : Nat) : Int)) := hR3
      have hg23 := grown_trans (grown_alloc w2 _ R) hg3
      have HC3 : Hid (Code w3 R a len) := HC2.out.kept hg23 hlt2
      clear hR3
      have hg4 := grown_trans hgr (grown_trans hg2 hg23)
      clear hg3 hg23 hg2 hgr
      go_wp2
      go_roundw
      case rel => exact ⟨t ++ t2 ++ t3, j - 1, kk + 1 + 1, rfl, by go_num, by omega, by rw [ByteArray.size_append, ByteArray.size_append]; omega, by omega, HR3.out, HC3.out, hg4⟩
      case measure => simp [intOf]; omega

set_option maxHeartbeats 400000 in
theorem anyText_any (R : Nat) (a : Option Addr) (len cap k : Nat) (w : World) (hR : Rd w R a len cap k) (hC : Code w R a len) (hk : k ≤ 700000) :
    Calls Tryz.prog 95 #[.pointer (some ⟨R, 0, none⟩)] w fun e w' => ∃ (t : ByteArray) (k' : Nat), e = .returned (.string t) ∧ t.size ≤ 110 ∧ k' ≤ k + 30 ∧ Rd w' R a len cap (k' : Int) ∧ w.grownBy w' (some R) := by
  have hlt := hR.lt
  go_enter Tryz.func95, Tryz.ntmps95
  go_wp2_with fail
  refine (pick_any R a len cap k _ _ hR hC (by omega) (by omega) (by omega)).mono ?_
  rintro e w1 ⟨v, rfl, hv0, hv1, hR1, hg1⟩
  have HR1 : Hid (Rd w1 R a len cap ((k + 1 : Nat) : Int)) := hR1
  have HC1 : Hid (Code w1 R a len) := hC.kept hg1 hlt
  have hlt1 := hR1.lt
  clear hR hC hR1
  by_cases h0 : v = 0
  · subst h0
    go_wp2_with fail
    refine (pick_any R a len cap (k + 1) _ _ HR1.out HC1.out (by omega) (by omega) (by omega)).mono ?_
    rintro e w2 ⟨v2, rfl, hv20, hv21, hR2, hg2⟩
    obtain ⟨j, rfl⟩ := Int.eq_ofNat_of_zero_le hv20
    have HR2 : Hid (Rd w2 R a len cap ((k + 1 + 1 : Nat) : Int)) := hR2
    clear hR2
    go_wp2_with fail
    rw [show ((60 : Int) + (j : Int)) = ((60 + j : Nat) : Int) from by omega]
    refine (many_any ⟨#[120]⟩ (60 + j) _ (by show 1 * _ ≤ _; omega) (Nat.le_refl _)).mono ?_
    rintro e _ ⟨t, rfl, ht, rfl⟩
    have ht' : t.size ≤ 61 := by rw [ht]; show 1 * (60 + j) ≤ 61; omega
    clear ht
    go_wp2
    go_ret
    exact ⟨t, k + 1 + 1, rfl, by omega, by omega, HR2.out, grown_trans hg1 hg2⟩
  · have h0' : (v == 0) = false := by simpa using h0
    by_cases h1 : v = 1
    · subst h1
      go_wp2_with fail
      refine (text_any R a len cap (k + 1) _ HR1.out HC1.out (by omega)).mono ?_
      rintro e w2 ⟨t2, k2, rfl, ht2, hk2, hR2, hg2⟩
      have HR2 : Hid (Rd w2 R a len cap (k2 : Int)) := hR2
      have HC2 : Hid (Code w2 R a len) := HC1.out.kept hg2 hlt1
      have hlt2 := hR2.lt
      clear hR2
      go_wp2_with fail
      refine (of_any R w2.heap.size 3 a len cap k2 _ _ (HR2.out.alloc _) (HC2.out.kept (grown_alloc _ _ _) hlt2) (by omega) (strs_new w2 _ _ 1 (by decide +kernel)) (by omega) (by omega) (by omega)).mono ?_
      rintro e w3 ⟨t3, rfl, ht3, hR3, hg3⟩
      have HR3 : Hid (Rd w3 R a len cap ((k2 + 1 : Nat) : Int)) := hR3
      clear hR3
      go_wp2
      go_ret
      exact ⟨t2 ++ t3, k2 + 1, rfl, by rw [ByteArray.size_append]; omega, by omega, HR3.out, grown_trans hg1 (grown_trans hg2 (grown_trans (grown_alloc w2 _ R) hg3))⟩
    · have h1' : (v == 1) = false := by simpa using h1
      go_wp2_with fail
      refine (text_any R a len cap (k + 1) _ HR1.out HC1.out (by omega)).mono ?_
      rintro e w2 ⟨t2, k2, rfl, ht2, hk2, hR2, hg2⟩
      have HR2 : Hid (Rd w2 R a len cap (k2 : Int)) := hR2
      clear hR2
      go_wp2
      go_ret
      exact ⟨t2, k2, rfl, by omega, by omega, HR2.out, grown_trans hg1 hg2⟩

theorem grown_below {w w1 w2 : World} (hb : Below w.heap.size w w1) (hg : w1.grownBy w2 (some w.heap.size)) : Below w.heap.size w w2 :=
  hb.grown hg hb.size (fun j hj => by cases hj; exact Nat.le_refl _)

end Go.Proofs.YtjkimadnopeakaaGreatDoor

/- The bytes that came in are still read behind a call. -/
namespace Go.Proofs.YtjkimadnopeakaaGreatDoor
open Go.RowKit

theorem Code.below {w w' : World} {R len : Nat} {a : Option Addr} (h : Code w R a len) (hb : Below w.heap.size w w') : Code w' R a len :=
  ⟨h.1, fun hp => by
    obtain ⟨b, off, z, e, hbs, hc⟩ := h.2 hp
    exact ⟨b, off, z, e, hbs, fun i hi => ⟨by rw [hb.cell (p := ⟨b, off + i, none⟩) (by have := cell_lt (hc i hi).1; omega)]; exact (hc i hi).1, (hc i hi).2⟩⟩⟩
end Go.Proofs.YtjkimadnopeakaaGreatDoor

/- The contract of l10Fields. -/
namespace Go.Proofs.YtjkimadnopeakaaGreatDoor
open Go.RowKit

def fields4 : List Fld := [⟨⟨#[116, 105, 116, 108, 101]⟩, 1, 3⟩, ⟨⟨#[98, 111, 100, 121]⟩, 1, 1⟩, ⟨⟨#[112, 114, 105, 99, 101]⟩, 2, 0⟩, ⟨⟨#[99, 111, 108, 111, 114]⟩, 3, 0⟩]
set_option maxHeartbeats 1000000 in
theorem l10Fields_any (w : World) :
    Calls Tryz.prog 125 #[] w fun e w' => e = .returned (.slice (some ⟨w.heap.size, 0, none⟩) fields4.length 4) ∧ FldRow w' (some ⟨w.heap.size, 0, none⟩) fields4 ∧ Below w.heap.size w w' := by
  go_enter Tryz.func125, Tryz.ntmps125
  go_wp2
  go_ret
  refine ⟨rfl, fun _ => ⟨_, 0, rfl, by simp, fun i hi => ?_⟩, (Below.refl _ w).alloc (Nat.le_refl _) _⟩
  match i, hi with
  | 0, _ => exact ⟨World.cell?_alloc_new _ _ _ _, World.cell?_alloc_new _ _ _ _, World.cell?_alloc_new _ _ _ _⟩
  | 1, _ => exact ⟨World.cell?_alloc_new _ _ _ _, World.cell?_alloc_new _ _ _ _, World.cell?_alloc_new _ _ _ _⟩
  | 2, _ => exact ⟨World.cell?_alloc_new _ _ _ _, World.cell?_alloc_new _ _ _ _, World.cell?_alloc_new _ _ _ _⟩
  | 3, _ => exact ⟨World.cell?_alloc_new _ _ _ _, World.cell?_alloc_new _ _ _ _, World.cell?_alloc_new _ _ _ _⟩
end Go.Proofs.YtjkimadnopeakaaGreatDoor

/- The draw of fields that are ok. -/
namespace Go.Proofs.YtjkimadnopeakaaGreatDoor
open Go.RowKit
set_option linter.unusedVariables false

/-- Fields as they are drawn: all four, the first, all but the first. -/
def Four (fs : List Fld) (off : Nat) : Prop := (fs = fields4 ∧ off = 0) ∨ (fs = fields4.take 1 ∧ off = 0) ∨ (fs = fields4.drop 1 ∧ off = 3)
theorem four_row {w : World} {F off : Nat} {fs : List Fld} (h : Four fs off) (hr : FldRow w (some ⟨F, 0, none⟩) fields4) : FldRow w (some ⟨F, off, none⟩) fs := fun hp => by
  obtain ⟨g, o, e, hg, hc⟩ := hr (by decide)
  cases e
  rcases h with ⟨rfl, rfl⟩ | ⟨rfl, rfl⟩ | ⟨rfl, rfl⟩
  · exact ⟨F, 0, rfl, hg, hc⟩
  · refine ⟨F, 0, rfl, hg, fun i hi => ?_⟩
    have hi0 : i = 0 := by have : i < 1 := hi; omega
    subst hi0
    exact hc 0 (by decide)
  · refine ⟨F, 3, rfl, hg, fun i hi => ?_⟩
    have hi3 : i < 3 := hi
    have := hc (i + 1) (by show i + 1 < 4; omega)
    rw [show (0 : Nat) + (i + 1) * 3 = 3 + i * 3 from by omega] at this
    rcases (show i = 0 ∨ i = 1 ∨ i = 2 from by omega) with rfl | rfl | rfl <;> exact this

set_option maxHeartbeats 1000000 in
theorem l11Fields_any (R : Nat) (a : Option Addr) (len cap k : Nat) (w : World) (hR : Rd w R a len cap k) (hC : Code w R a len) (hk : k ≤ 900000) :
    Calls Tryz.prog 91 #[.pointer (some ⟨R, 0, none⟩)] w fun e w' => ∃ (F off n c : Nat) (fs : List Fld), e = .returned (.slice (some ⟨F, off, none⟩) n c) ∧ fs.length = n ∧ n ≤ c ∧ Four fs off ∧ w.heap.size ≤ F ∧ FldRow w' (some ⟨F, 0, none⟩) fields4 ∧ Rd w' R a len cap ((k + 1 : Nat) : Int) ∧ w.grownBy w' (some R) := by
  have hlt := hR.lt
  have HR : Hid (Rd w R a len cap k) := hR
  have HC : Hid (Code w R a len) := hC
  clear hR hC
  go_enter Tryz.func91, Tryz.ntmps91
  go_wp2_with fail
  refine (l10Fields_any _).mono ?_
  rintro e w1 ⟨rfl, hF1, hb1⟩
  have HF1 : Hid (FldRow w1 (some ⟨w.heap.size, 0, none⟩) fields4) := hF1
  have HR1 : Hid (Rd w1 R a len cap k) := Blk.below HR.out hb1 hlt
  have HC1 := HC.out.below hb1
  have hs1 := hb1.size
  have h4 : fields4.length = 4 := rfl
  rw [h4]
  clear hF1 HR HC h4
  go_wp2_with fail
  refine (pick_any R a len cap k 4 _ HR1.out HC1 (by omega) (by omega) (by omega)).mono ?_
  rintro e w2 ⟨v, rfl, hv0, hv1, hR2, hg2⟩
  have hF2 : FldRow w2 (some ⟨w.heap.size, 0, none⟩) fields4 := fun hp => by
    obtain ⟨g, o, e, hg, hc⟩ := HF1.out hp
    cases e
    have hb := hg2.block w.heap.size hg (by simp; omega)
    exact ⟨_, 0, rfl, by have := hg2.size; omega, fun i hi => by
      obtain ⟨c0, c1, c2⟩ := hc i hi
      exact ⟨(World.cell?_of_block hb).trans c0, (World.cell?_of_block hb).trans c1, (World.cell?_of_block hb).trans c2⟩⟩
  have HP : Hid (FldRow w2 (some ⟨w.heap.size, 0, none⟩) fields4 ∧ Rd w2 R a len cap ((k + 1 : Nat) : Int) ∧ w.grownBy w2 (some R)) := ⟨hF2, hR2, grown_then (grown_of_below hb1) hg2⟩
  clear hF2 hR2 hg2 hb1 HC1 HR1 HF1
  obtain ⟨n, rfl⟩ := Int.eq_ofNat_of_zero_le hv0
  rcases (show n = 0 ∨ n = 1 ∨ n = 2 ∨ n = 3 from by omega) with rfl | rfl | rfl | rfl
  · go_wp2
    go_ret
    exact ⟨w.heap.size, 0, 1, 4, fields4.take 1, rfl, rfl, by omega, .inr (.inl ⟨rfl, rfl⟩), Nat.le_refl _, HP.out⟩
  · go_wp2
    go_ret
    exact ⟨w.heap.size, 3, 3, 3, fields4.drop 1, rfl, rfl, by omega, .inr (.inr ⟨rfl, rfl⟩), Nat.le_refl _, HP.out⟩
  · go_wp2
    go_ret
    exact ⟨w.heap.size, 0, 4, 4, fields4, rfl, rfl, by omega, .inl ⟨rfl, rfl⟩, Nat.le_refl _, HP.out⟩
  · go_wp2
    go_ret
    exact ⟨w.heap.size, 0, 4, 4, fields4, rfl, rfl, by omega, .inl ⟨rfl, rfl⟩, Nat.le_refl _, HP.out⟩
end Go.Proofs.YtjkimadnopeakaaGreatDoor

/- The cells of a row of fields. -/
namespace Go.Proofs.YtjkimadnopeakaaGreatDoor
open Go.RowKit

theorem fldCells_snoc (fs : List Fld) (f : Fld) : fldCells (fs ++ [f]) = fldCells fs ++ [.string f.name, .int .i64 f.kind, .int .i64 f.weight] := by simp [fldCells, Fld.cells]
theorem fldCells_cons (f : Fld) (fs : List Fld) : fldCells (f :: fs) = .string f.name :: .int .i64 f.kind :: .int .i64 f.weight :: fldCells fs := by simp [fldCells, Fld.cells]
theorem fldTo_cells : ∀ fs : List Fld, FldTo (fldCells fs) fs fs.length
  | [], i, hi => absurd hi (by simp)
  | f :: fs, 0, _ => ⟨rfl, rfl, rfl⟩
  | f :: fs, i + 1, hi => by
    have h := fldTo_cells fs i (by simpa using hi)
    have e1 : (i + 1) * 3 = i * 3 + 1 + 1 + 1 := by omega
    rw [fldCells_cons, e1]
    exact h
theorem three_one (a : ByteArray) (x y : Int) : ∀ u ∈ [Value.string a, Value.int .i64 x, Value.int .i64 y], u.oneCell' = true := by
  intro u hu
  simp at hu
  rcases hu with rfl | rfl | rfl <;> rfl
theorem fldCells_len (fs : List Fld) : (fldCells fs).length = fs.length * 3 := by
  induction fs with
  | nil => rfl
  | cons f fs ih => rw [fldCells_cons]; simp [ih]; omega
theorem flds_one (fs : List Fld) : ∀ u ∈ fldCells fs, u.oneCell' = true := by
  intro u hu
  simp only [fldCells, List.mem_flatMap] at hu
  obtain ⟨f, _, hu⟩ := hu
  simp [Fld.cells] at hu
  rcases hu with rfl | rfl | rfl <;> rfl
theorem fldRow_cells {w : World} {g off : Nat} {fs : List Fld} (h : FldRow w (some ⟨g, off, none⟩) fs) : ∀ j u, (fldCells fs)[j]? = some u → w.cell? ((⟨g, off, none⟩ : Addr).add j) = some u := by
  intro j u hj
  have hlen : j < fs.length * 3 := by rw [← fldCells_len]; exact (List.getElem?_eq_some_iff.1 hj).1
  obtain ⟨g', off', e, hg, hc⟩ := h (by omega)
  cases e
  rw [addr_add]
  have hi : j / 3 < fs.length := by omega
  obtain ⟨q0, q1, q2⟩ := hc (j / 3) hi
  obtain ⟨p0, p1, p2⟩ := fldTo_cells fs (j / 3) hi
  rcases (show j = j / 3 * 3 ∨ j = j / 3 * 3 + 1 ∨ j = j / 3 * 3 + 2 from by omega) with e | e | e
  · rw [e, p0] at hj; rw [e, q0]; exact hj
  · rw [e, p1] at hj; rw [e, ← Nat.add_assoc, q1]; exact hj
  · rw [e, p2] at hj; rw [e, ← Nat.add_assoc, q2]; exact hj
end Go.Proofs.YtjkimadnopeakaaGreatDoor

/- The draw of any fields. -/
namespace Go.Proofs.YtjkimadnopeakaaGreatDoor
open Go.RowKit
set_option linter.unusedVariables false

abbrev sZ : ByteArray := ⟨#[122, 122, 122, 122]⟩
def FldsB (fs : List Fld) : Prop := ∀ f ∈ fs, f.name.size ≤ 9 ∧ f.name ≠ sZ
theorem FldsB.small {fs : List Fld} (h : FldsB fs) : FldsSmall fs := fun i hi => by
  rw [fat_get _ _ hi]
  have := h _ (List.getElem_mem hi)
  omega
theorem FldsB.snoc {fs : List Fld} (h : FldsB fs) {f : Fld} (hf : f.name.size ≤ 9 ∧ f.name ≠ sZ) : FldsB (fs ++ [f]) := fun x hx => by
  rcases List.mem_append.1 hx with hx | hx
  · exact h x hx
  · rw [List.mem_singleton.1 hx]; exact hf
theorem four_small {fs : List Fld} {off : Nat} (h : Four fs off) : FldsB fs ∧ 1 ≤ fs.length ∧ fs.length ≤ 4 := by
  have h4 : FldsB fields4 := by unfold FldsB fields4; decide +kernel
  rcases h with ⟨rfl, rfl⟩ | ⟨rfl, rfl⟩ | ⟨rfl, rfl⟩
  · exact ⟨h4, by decide, by decide⟩
  · exact ⟨fun f hf => h4 f (List.mem_of_mem_take hf), by decide, by decide⟩
  · exact ⟨fun f hf => h4 f (List.mem_of_mem_drop hf), by decide, by decide⟩
/-- What a draw of fields leaves: they are the call's own, the reader is on. -/
def DF (w w' : World) (R : Nat) (a : Option Addr) (len cap : Nat) (v : Value) (fs : List Fld) (p : Nat) : Prop :=
  w'.ownsRow w.heap.size 72 3 v fs.length (fldCells fs) ∧ Rd w' R a len cap p ∧ w.grownBy w' (some R)
theorem DF.picked {w w1 w2 : World} {R : Nat} {a : Option Addr} {len cap : Nat} {v : Value} {fs : List Fld} {p q : Nat} (h : DF w w1 R a len cap v fs p) (hR : Rd w2 R a len cap q) (hg : w1.grownBy w2 (some R)) (hlt : R < w.heap.size) : DF w w2 R a len cap v fs q :=
  ⟨own_kept h.1 hg hlt, hR, grown_trans h.2.2 hg⟩
theorem DF.alloc {w w1 : World} {R : Nat} {a : Option Addr} {len cap : Nat} {v : Value} {fs : List Fld} {p : Nat} (h : DF w w1 R a len cap v fs p) (o : Obj) : DF w (w1.alloc o) R a len cap v fs p :=
  ⟨h.1.alloc o, h.2.1.alloc o, grown_trans h.2.2 (grown_alloc _ _ _)⟩
theorem DF.snoc {w w1 w2 : World} {R : Nat} {a : Option Addr} {len cap : Nat} {v v' : Value} {fs : List Fld} {f : Fld} {p : Nat} {o : Obj} (h : DF w w1 R a len cap v fs p) (hlt : R < w.heap.size)
    (ho : w2.ownsRow w.heap.size 72 3 v' (fs.length + 1) (fldCells fs ++ [.string f.name, .int .i64 f.kind, .int .i64 f.weight])) (hg : (w1.alloc o).grownBy w2 v.ownBlock) : DF w w2 R a len cap v' (fs ++ [f]) p := by
  have hl : ∀ j, v.ownBlock = some j → w.heap.size ≤ j := fun j hj => (h.1.lt j hj).1
  refine ⟨?_, (h.2.1.alloc o).grown hg (fun j hj => by have := hl j hj; omega), grown_own (grown_trans h.2.2 (grown_alloc _ _ _)) hg hl⟩
  rw [fldCells_snoc, List.length_append]
  exact ho
/-- The first one's weight is another one. -/
def setW (fs : List Fld) (z : Int) : List Fld := match fs with
  | [] => []
  | f :: r => ⟨f.name, f.kind, z⟩ :: r
theorem setW_len (fs : List Fld) (z : Int) : (setW fs z).length = fs.length := by cases fs <;> rfl
theorem setW_cells (fs : List Fld) (z : Int) (h : 0 < fs.length) : fldCells (setW fs z) = (fldCells fs).set 2 (.int .i64 z) := by
  cases fs with
  | nil => exact absurd h (by simp)
  | cons f r => simp only [setW]; rw [fldCells_cons, fldCells_cons]; rfl
theorem setW_small {fs : List Fld} (h : FldsB fs) (z : Int) : FldsB (setW fs z) := by
  cases fs with
  | nil => exact h
  | cons f r =>
    intro x hx
    rcases List.mem_cons.1 hx with rfl | hx
    · exact h f (List.mem_cons_self ..)
    · exact h x (List.mem_cons_of_mem _ hx)
theorem DF.weight {w w1 : World} {R g c : Nat} {a : Option Addr} {len cap : Nat} {fs : List Fld} {p : Nat} (h : DF w w1 R a len cap (.slice (some ⟨g, 0, none⟩) fs.length c) fs p) (hlt : R < w.heap.size) (hp : 0 < fs.length) (z : Int) :
    DF w (w1.setCell ⟨g, 2, none⟩ (.int .i64 z)) R a len cap (.slice (some ⟨g, 0, none⟩) fs.length c) (setW fs z) p := by
  have hl := (h.1.lt g rfl).1
  obtain ⟨ho, hg⟩ := h.1.stored 2 (.int .i64 z)
  refine ⟨by rw [setW_len, setW_cells _ _ hp]; exact ho, Blk.other h.2.1 (by show R ≠ g; omega) _, ?_⟩
  have gr := h.2.2
  exact ⟨gr.os, gr.tape, gr.output, by simpa [World.setCell] using gr.size, fun i hi hn => (Below.heap_setCell _ _ _ _ (by show i ≠ g; omega)).trans (gr.block i hi hn)⟩

set_option maxHeartbeats 4000000 in
set_option maxRecDepth 100000 in
theorem l11AnyFields_any (R : Nat) (a : Option Addr) (len cap k : Nat) (w : World) (hR : Rd w R a len cap k) (hC : Code w R a len) (hk : k ≤ 800000) :
    Calls Tryz.prog 48 #[.pointer (some ⟨R, 0, none⟩)] w fun e w' => ∃ (v : Value) (fs : List Fld) (p : Nat), e = .returned v ∧ fs.length ≤ 5 ∧ FldsB fs ∧ p ≤ k + 9 ∧ DF w w' R a len cap v fs p := by
  obtain ⟨i0, hi, hz0, hz1, hz2⟩ := info_parts infoFld
  have hlt := hR.lt
  have HR : Hid (Rd w R a len cap k) := hR
  have HC : Hid (Code w R a len) := hC
  have hlit : (w.alloc (.cells #[] 72)).ownsRow w.heap.size 72 3 (.slice (some ⟨w.heap.size, 0, none⟩) 0 0) 0 [] := World.ownsRow_lit w #[] 0 (Nat.le_refl _) (by decide) rfl
  have HLIT : Hid ((w.alloc (.cells #[] 72)).ownsRow w.heap.size 72 3 (.slice (some ⟨w.heap.size, 0, none⟩) 0 0) 0 []) := hlit
  clear hR hC hlit
  go_enter Tryz.func48, Tryz.ntmps48
  go_wp2_with fail
  refine (l11Fields_any R a len cap k _ (HR.out.alloc _) (HC.out.kept (grown_alloc _ _ _) hlt) (by omega)).mono ?_
  rintro e w1 ⟨F, off, n, c, fs, rfl, hn, hnc, hfour, hF, hrow4, hR1, hg1⟩
  subst hn
  have hsm := four_small hfour
  have hn1 := hsm.2.1
  have hn4 := hsm.2.2
  have HB : Hid (FldsB fs) := hsm.1
  have hrow := fldRow_cells (four_row hfour hrow4)
  have HN : Hid (∀ j u, (fldCells fs)[j]? = some u → w1.cell? ((⟨F, off, none⟩ : Addr).add j) = some u) := hrow
  have HL1 : Hid (w1.ownsRow w.heap.size 72 3 (.slice (some ⟨w.heap.size, 0, none⟩) 0 0) 0 []) := own_kept HLIT.out hg1 hlt
  have HG1 : Hid (w.grownBy w1 (some R)) := grown_trans (grown_alloc _ _ _) hg1
  have HR1 : Hid (Rd w1 R a len cap ((k + 1 : Nat) : Int)) := hR1
  have hs1 := HG1.out.size
  have HCL : Hid ((fldCells fs).length = fs.length * 3) := fldCells_len fs
  clear hsm hrow hrow4 hR1 hg1 HLIT HR hfour
  go_wp2_with (at_builtin; refine wpList_append_own _ rfl _ _ 33 rfl w.heap.size 72 i0 (.agg #[.string ⟨#[]⟩, .int .i64 0, .int .i64 0]) 3 32 Tryz.underlying33 hi hz0 hz1 hz2 rfl (by decide) _ _ _ rfl HL1.out ⟨F, off, none⟩ fs.length c (fldCells fs) rfl HCL.out HN.out (flds_one _) (by unfold maxLen; omega) (by omega) (by omega) ?_)
  intro v w2 hown hgrow _
  have hrl : ∀ j, (Value.slice (some ⟨w.heap.size, 0, none⟩) 0 0).ownBlock = some j → w.heap.size ≤ j := fun j hj => (HL1.out.lt j hj).1
  have HD2 : Hid (DF w w2 R a len cap v fs (k + 1)) := ⟨by simpa using hown, HR1.out.grown hgrow (fun j hj => by have := hrl j hj; omega), grown_own HG1.out hgrow hrl⟩
  clear hown hgrow HL1 HN HR1 HG1 HCL hrl
  go_wp2_with fail
  refine (pick_any R a len cap (k + 1) _ _ HD2.out.2.1 (HC.out.kept HD2.out.2.2 hlt) (by omega) (by omega) (by omega)).mono ?_
  rintro e w3 ⟨x, rfl, hx0, hx1, hR3, hg3⟩
  have HD3 : Hid (DF w w3 R a len cap v fs (k + 1 + 1)) := HD2.out.picked hR3 hg3 hlt
  have hs3 := HD3.out.2.2.size
  clear HD2 hR3 hg3 hx0 hx1
  by_cases h0 : x = 0
  · subst h0
    have HST : Hid (Strs (w3.alloc (.cells #[.string ⟨#[116, 105, 116, 108, 101]⟩, .string ⟨#[122]⟩, .string ⟨#[]⟩] 9)) w3.heap.size 3 (fun t => t.size ≤ 9 ∧ t ≠ sZ)) := fun i hi => by
      rw [World.cell?_alloc_new]
      have : i = 0 ∨ i = 1 ∨ i = 2 := by omega
      rcases this with rfl | rfl | rfl <;> exact ⟨_, rfl, by decide +kernel⟩
    have HA : Hid (DF w (w3.alloc (.cells #[.string ⟨#[116, 105, 116, 108, 101]⟩, .string ⟨#[122]⟩, .string ⟨#[]⟩] 9)) R a len cap v fs (k + 1 + 1)) := HD3.out.alloc _
    go_wp2_with fail
    refine (of_any R w3.heap.size 3 a len cap (k + 1 + 1) (fun t => t.size ≤ 9 ∧ t ≠ sZ) _ HA.out.2.1 (HC.out.kept HA.out.2.2 hlt) (by omega) HST.out (by omega) (by omega) (by omega)).mono ?_
    rintro e w4 ⟨t, rfl, ht, hR4, hg4⟩
    have HD4 : Hid (DF w w4 R a len cap v fs (k + 1 + 1 + 1)) := HA.out.picked hR4 hg4 hlt
    clear HA HD3 hR4 hg4 HST
    go_wp2_with fail
    refine (pick_any R a len cap (k + 1 + 1 + 1) _ _ HD4.out.2.1 (HC.out.kept HD4.out.2.2 hlt) (by omega) (by omega) (by omega)).mono ?_
    rintro e w5 ⟨kd, rfl, _, _, hR5, hg5⟩
    have HD5 : Hid (DF w w5 R a len cap v fs (k + 1 + 1 + 1 + 1)) := HD4.out.picked hR5 hg5 hlt
    clear HD4 hR5 hg5
    go_wp2_with fail
    refine (pick_any R a len cap (k + 1 + 1 + 1 + 1) _ _ HD5.out.2.1 (HC.out.kept HD5.out.2.2 hlt) (by omega) (by omega) (by omega)).mono ?_
    rintro e w6 ⟨wt, rfl, _, _, hR6, hg6⟩
    have HD6 : Hid (DF w w6 R a len cap v fs (k + 1 + 1 + 1 + 1 + 1)) := HD5.out.picked hR6 hg6 hlt
    have hs6 := HD6.out.2.2.size
    clear HD5 hR6 hg6
    go_wp2_with (at_builtin; refine wpList_append_own _ rfl _ _ 33 rfl w.heap.size 72 i0 (.agg #[.string ⟨#[]⟩, .int .i64 0, .int .i64 0]) 3 32 Tryz.underlying33 hi hz0 hz1 hz2 rfl (by decide) _ _ _ rfl (HD6.out.1.alloc _) ⟨w6.heap.size, 0, none⟩ 1 1 [.string t, .int .i64 kd, .int .i64 wt] rfl rfl (cells_new _ _ _) (three_one _ _ _) (by unfold maxLen; omega) (by omega) (by simp; omega) ?_)
    intro v' w7 hown' hgrow _
    have HD7 : Hid (DF w w7 R a len cap v' (fs ++ [⟨t, kd, wt⟩]) (k + 1 + 1 + 1 + 1 + 1)) := HD6.out.snoc hlt hown' hgrow
    clear hown' hgrow HD6
    go_wp2
    go_ret
    exact ⟨v', fs ++ [⟨t, kd, wt⟩], k + 1 + 1 + 1 + 1 + 1, rfl, by simp; omega, HB.out.snoc ht, by omega, HD7.out⟩
  have h0' : (x == 0) = false := by simpa using h0
  by_cases h1 : x = 1
  · subst h1
    obtain ⟨g, cv, hv⟩ : ∃ g cv, v = .slice (some ⟨g, 0, none⟩) fs.length cv := by
      rcases HD3.out.1.2 with ⟨e, h⟩ | ⟨g, c, cur, e, _⟩
      · omega
      · exact ⟨g, c, e⟩
    subst hv
    have HA : Hid (DF w (w3.alloc (.cells #[.int .i64 0, .int .i64 9, .int .i64 10] 3)) R a len cap (.slice (some ⟨g, 0, none⟩) fs.length cv) fs (k + 1 + 1)) := HD3.out.alloc _
    have hS : Hid (∀ i, i < 3 → ∃ z, (w3.alloc (.cells #[.int .i64 0, .int .i64 9, .int .i64 10] 3)).cell? ⟨w3.heap.size, i, none⟩ = some (.int .i64 z)) := fun i hi => by
      rw [World.cell?_alloc_new]
      have : i = 0 ∨ i = 1 ∨ i = 2 := by omega
      rcases this with rfl | rfl | rfl <;> exact ⟨_, rfl⟩
    go_wp2_with fail
    refine (one_any R w3.heap.size 3 a len cap (k + 1 + 1) _ HA.out.2.1 (HC.out.kept HA.out.2.2 hlt) (by omega) hS.out (by omega) (by omega) (by omega)).mono ?_
    rintro e w4 ⟨z, rfl, hR4, hg4⟩
    have HD4 : Hid (DF w w4 R a len cap (.slice (some ⟨g, 0, none⟩) fs.length cv) fs (k + 1 + 1 + 1)) := HA.out.picked hR4 hg4 hlt
    clear HA hS HD3 hR4 hg4
    have z4 := HD4.out.1.cellAt 2 (by omega)
    rw [List.getElem?_eq_getElem (by rw [fldCells_len]; omega)] at z4
    generalize (fldCells fs)[2]'_ = o4 at z4
    have y4 := HD4.out.1.frozenAt 2
    have hpos : (0 : Int) < (fs.length : Int) := by omega
    have HD5 : Hid (DF w (w4.setCell ⟨g, 2, none⟩ (.int .i64 z)) R a len cap (.slice (some ⟨g, 0, none⟩) fs.length cv) (setW fs z) (k + 1 + 1 + 1)) := HD4.out.weight hlt (by omega) z
    clear HD4
    go_wp2
    go_ret
    exact ⟨_, setW fs z, k + 1 + 1 + 1, rfl, by rw [setW_len]; omega, setW_small HB.out z, by omega, HD5.out⟩
  have h1' : (x == 1) = false := by simpa using h1
  by_cases h2 : x = 2
  · subst h2
    go_wp2
    go_ret
    exact ⟨_, [], k + 1 + 1, rfl, by simp, (fun f hf => by cases hf), by omega, World.ownsRow_nil _ _ _ _, HD3.out.2⟩
  · have h2' : (x == 2) = false := by simpa using h2
    clear h0 h1 h2
    go_wp2
    go_ret
    exact ⟨v, fs, k + 1 + 1, rfl, by omega, HB.out, by omega, HD3.out⟩

end Go.Proofs.YtjkimadnopeakaaGreatDoor

/- Rows of cells that a call owns: small facts. -/
namespace Go.Proofs.YtjkimadnopeakaaGreatDoor
open Go.RowKit

/-- What lies in memory of cells. -/
def celCells (cs : List Cel) : List Value := cs.flatMap fun c => [.string c.name, .string c.text]
theorem celCells_snoc (cs : List Cel) (c : Cel) : celCells (cs ++ [c]) = celCells cs ++ [.string c.name, .string c.text] := by simp [celCells]
theorem celCells_cons (c : Cel) (cs : List Cel) : celCells (c :: cs) = .string c.name :: .string c.text :: celCells cs := by simp [celCells]
theorem celTo_cells : ∀ cs : List Cel, CelTo (celCells cs) cs cs.length
  | [], i, hi => absurd hi (by simp)
  | c :: cs, 0, _ => ⟨rfl, rfl⟩
  | c :: cs, i + 1, hi => by
    have h := celTo_cells cs i (by simpa using hi)
    have e1 : (i + 1) * 2 = i * 2 + 1 + 1 := by omega
    have e2 : (i + 1) * 2 + 1 = i * 2 + 1 + 1 + 1 := by omega
    rw [celCells_cons, e1]
    exact h
/-- Cells of small texts. -/
def CelsB (cs : List Cel) : Prop := ∀ c ∈ cs, c.name.size ≤ 1000 ∧ c.text.size ≤ 1000
theorem CelsB.snoc {cs : List Cel} (h : CelsB cs) {c : Cel} (h1 : c.name.size ≤ 1000) (h2 : c.text.size ≤ 1000) : CelsB (cs ++ [c]) := by
  intro x hx
  rcases List.mem_append.1 hx with hx | hx
  · exact h x hx
  · have : x = c := by simpa using hx
    subst this
    exact ⟨h1, h2⟩
theorem CelsB.small {cs : List Cel} (h : CelsB cs) : CelsSmall cs := by
  intro i hi
  have := h (cs[i]) (List.getElem_mem hi)
  rw [cat_get cs i hi]
  omega
theorem two_one (a b : ByteArray) : ∀ u ∈ [Value.string a, Value.string b], u.oneCell' = true := by
  intro u hu
  simp at hu
  rcases hu with rfl | rfl <;> rfl
theorem own_type {w : World} {B s n b : Nat} {e T : TypeId} {v : Value} {xs : List Value} {cs : Array Value} (hown : w.ownsRow B e s v n xs) (hb : Blk w b cs T) (hTe : T ≠ e) : v.ownBlock ≠ some b := by
  rcases hown.2 with ⟨rfl, _⟩ | ⟨g, cap, cur, rfl, _, hg, _⟩
  · simp [Value.ownBlock]
  · intro h
    simp only [Value.ownBlock, Option.some.injEq] at h
    subst h
    unfold Blk at hb
    rw [hg] at hb
    simp only [Option.some.injEq, Obj.cells.injEq] at hb
    exact hTe hb.2.1.symm
end Go.Proofs.YtjkimadnopeakaaGreatDoor

/- Contracts of the model's draws of documents: the facts. -/
namespace Go.Proofs.YtjkimadnopeakaaGreatDoor
open Go.RowKit

theorem Rd.blk {w : World} {R : Nat} {a : Option Addr} {len cap : Nat} {p : Int} (h : Rd w R a len cap p) : Blk w R #[.slice a len cap, .int .i64 p] 124 := h

/-- A document that a draw builds: its variable D, its cells, the reader. -/
structure DS (w wr : World) (R : Nat) (a : Option Addr) (len cap D : Nat) (key : ByteArray) (v : Value) (cs : List Cel) (p : Nat) : Prop where
  d : Blk wr D #[.string key, v] 37
  own : wr.ownsRow w.heap.size 59 2 v cs.length (celCells cs)
  rd : Rd wr R a len cap p
  grown : w.grownBy wr (some R)
  le : w.heap.size ≤ D
/-- Another block is written, or the reader goes on. -/
theorem DS.step {w wr w2 : World} {R : Nat} {a : Option Addr} {len cap D : Nat} {key : ByteArray} {v : Value} {cs : List Cel} {p q : Nat} {r : Nat} (h : DS w wr R a len cap D key v cs p) (hg : wr.grownBy w2 (some r)) (h1 : r ≠ D) (h2 : v.ownBlock ≠ some r) (h3 : r = R ∨ w.heap.size ≤ r) (hR : Rd w2 R a len cap q) : DS w w2 R a len cap D key v cs q :=
  ⟨h.d.grown hg (by simpa using h1.symm), h.own.kept hg (.inr h2), hR, by
    rcases h3 with rfl | h3
    · exact grown_trans h.grown hg
    · exact ⟨hg.os.trans h.grown.os, hg.tape.trans h.grown.tape, hg.output.trans h.grown.output, Nat.le_trans h.grown.size hg.size, fun i hi hn => (hg.block i (by have := h.grown.size; omega) (by simp; omega)).trans (h.grown.block i hi hn)⟩, h.le⟩
theorem DS.ne {w wr : World} {R : Nat} {a : Option Addr} {len cap D : Nat} {key : ByteArray} {v : Value} {cs : List Cel} {p : Nat} (h : DS w wr R a len cap D key v cs p) : R ≠ D := by
  intro e
  have h1 := h.d
  have h2 := h.rd
  unfold Blk at h1
  unfold Rd at h2
  rw [← e, h2] at h1
  simp at h1
theorem DS.read {w wr w2 : World} {R : Nat} {a : Option Addr} {len cap D : Nat} {key : ByteArray} {v : Value} {cs : List Cel} {p q : Nat} (h : DS w wr R a len cap D key v cs p) (hg : wr.grownBy w2 (some R)) (hR : Rd w2 R a len cap q) : DS w w2 R a len cap D key v cs q :=
  h.step hg h.ne (own_type h.own h.rd.blk (by decide)) (.inl rfl) hR
theorem DS.alloc {w wr : World} {R : Nat} {a : Option Addr} {len cap D : Nat} {key : ByteArray} {v : Value} {cs : List Cel} {p : Nat} (h : DS w wr R a len cap D key v cs p) (o : Obj) : DS w (wr.alloc o) R a len cap D key v cs p :=
  h.read (grown_alloc _ _ _) (h.rd.alloc o)
/-- A cell more, laid into the variable. -/
theorem DS.snoc {w wr w2 : World} {R : Nat} {a : Option Addr} {len cap D : Nat} {key nm tx : ByteArray} {v v' : Value} {cs : List Cel} {p : Nat} (h : DS w wr R a len cap D key v cs p)
    (ho : w2.ownsRow w.heap.size 59 2 v' (cs.length + 1) (celCells cs ++ [.string nm, .string tx])) (hg : wr.grownBy w2 v.ownBlock) : DS w (w2.setCell ⟨D, 1, none⟩ v') R a len cap D key v' (cs ++ [⟨nm, tx⟩]) p := by
  have hd2 : Blk w2 D #[.string key, v] 37 := h.d.grown hg (fun e => own_type h.own h.d (by decide) e.symm)
  have hR2 : Blk w2 R #[.slice a len cap, .int .i64 p] 124 := h.rd.blk.grown hg (fun e => own_type h.own h.rd.blk (by decide) e.symm)
  have hl : ∀ j, v.ownBlock = some j → w.heap.size ≤ j := fun j hj => (h.own.lt j hj).1
  have hg2 : w.grownBy w2 (some R) := ⟨hg.os.trans h.grown.os, hg.tape.trans h.grown.tape, hg.output.trans h.grown.output, Nat.le_trans h.grown.size hg.size, fun i hi hn => (hg.block i (by have := h.grown.size; omega) (fun e => by have := hl i e.symm; omega)).trans (h.grown.block i hi hn)⟩
  have hle := h.le
  refine ⟨hd2.set 1 v', ?_, Blk.other hR2 h.ne v', ?_, h.le⟩
  · rw [celCells_snoc, List.length_append]
    exact World.ownsRow.kept ho (grown_set w2 D 1 v') (.inr (own_type ho hd2 (by decide)))
  · exact ⟨hg2.os, hg2.tape, hg2.output, by simpa [World.setCell] using hg2.size, fun i hi hn => (Below.heap_setCell _ _ _ _ (by show i ≠ D; omega)).trans (hg2.block i hi hn)⟩
/-- Another key. -/
theorem DS.key {w wr : World} {R : Nat} {a : Option Addr} {len cap D : Nat} {key : ByteArray} {v : Value} {cs : List Cel} {p : Nat} (h : DS w wr R a len cap D key v cs p) (key' : ByteArray) : DS w (wr.setCell ⟨D, 0, none⟩ (.string key')) R a len cap D key' v cs p := by
  have hle := h.le
  refine ⟨h.d.set 0 _, World.ownsRow.kept h.own (grown_set wr D 0 _) (.inr (own_type h.own h.d (by decide))), Blk.other h.rd h.ne _, ?_, h.le⟩
  exact ⟨h.grown.os, h.grown.tape, h.grown.output, by simpa [World.setCell] using h.grown.size, fun i hi hn => (Below.heap_setCell _ _ _ _ (by show i ≠ D; omega)).trans (h.grown.block i hi hn)⟩
/-- The cells are laid anew as they were. -/
theorem DS.same {w wr : World} {R : Nat} {a : Option Addr} {len cap D : Nat} {key : ByteArray} {v : Value} {cs : List Cel} {p : Nat} (h : DS w wr R a len cap D key v cs p) : DS w (wr.setCell ⟨D, 1, none⟩ v) R a len cap D key v cs p := by
  have hle := h.le
  refine ⟨h.d.set 1 _, World.ownsRow.kept h.own (grown_set wr D 1 _) (.inr (own_type h.own h.d (by decide))), Blk.other h.rd h.ne _, ?_, h.le⟩
  exact ⟨h.grown.os, h.grown.tape, h.grown.output, by simpa [World.setCell] using h.grown.size, fun i hi hn => (Below.heap_setCell _ _ _ _ (by show i ≠ D; omega)).trans (h.grown.block i hi hn)⟩
theorem FldRow.kept {w w' : World} {R : Nat} {X : Option Addr} {fs : List Fld} (h : FldRow w X fs) (hg : w.grownBy w' (some R)) (hne : ∀ y, X = some y → y.block ≠ R) : FldRow w' X fs := fun hp => by
  obtain ⟨g, off, e, hl, hc⟩ := h hp
  have hb := hg.block g hl (by have := hne _ e; simpa using this)
  refine ⟨g, off, e, by have := hg.size; omega, fun i hi => ?_⟩
  obtain ⟨c0, c1, c2⟩ := hc i hi
  exact ⟨(World.cell?_of_block hb).trans c0, (World.cell?_of_block hb).trans c1, (World.cell?_of_block hb).trans c2⟩
end Go.Proofs.YtjkimadnopeakaaGreatDoor

/- The contract of l11Doc. -/
namespace Go.Proofs.YtjkimadnopeakaaGreatDoor
open Go.RowKit

def namesA : Array Value := #[.string ⟨#[98, 111, 100, 121]⟩, .string ⟨#[99, 111, 108, 111, 114]⟩, .string ⟨#[112, 114, 105, 99, 101]⟩, .string ⟨#[116, 105, 116, 108, 101]⟩]
theorem names_at {w : World} {N : Nat} {t : TypeId} (h : Blk w N namesA t) (k : Nat) (hk : k < 4) : ∃ s : ByteArray, w.cell? ⟨N, k, none⟩ = some (.string s) ∧ s.size ≤ 5 := by
  rw [h.cell k]
  match k, hk with
  | 0, _ => exact ⟨_, rfl, by decide⟩
  | 1, _ => exact ⟨_, rfl, by decide⟩
  | 2, _ => exact ⟨_, rfl, by decide⟩
  | 3, _ => exact ⟨_, rfl, by decide⟩

/-- The same, with the call's own result Q and the names N kept. -/
structure DK (w wr : World) (R : Nat) (a : Option Addr) (len cap D Q N : Nat) (key : ByteArray) (v : Value) (cs : List Cel) (p : Nat) : Prop where
  ds : DS w wr R a len cap D key v cs p
  q : Blk wr Q #[.string ⟨#[]⟩, .slice none 0 0] 37
  n : Blk wr N namesA 9
  qd : Q ≠ D
theorem Blk.ne {w : World} {A B : Nat} {C E : Array Value} {s t : TypeId} (h : Blk w A C s) (k : Blk w B E t) (hst : s ≠ t) : A ≠ B := by
  intro e
  subst e
  unfold Blk at h k
  rw [h] at k
  simp only [Option.some.injEq, Obj.cells.injEq] at k
  exact hst k.2.1
theorem DK.read {w wr w2 : World} {R : Nat} {a : Option Addr} {len cap D Q N : Nat} {key : ByteArray} {v : Value} {cs : List Cel} {p q : Nat} (h : DK w wr R a len cap D Q N key v cs p) (hg : wr.grownBy w2 (some R)) (hR : Rd w2 R a len cap q) : DK w w2 R a len cap D Q N key v cs q :=
  ⟨h.ds.read hg hR, h.q.grown hg (by simpa using h.q.ne h.ds.rd.blk (by decide)), h.n.grown hg (by simpa using h.n.ne h.ds.rd.blk (by decide)), h.qd⟩
theorem DK.alloc {w wr : World} {R : Nat} {a : Option Addr} {len cap D Q N : Nat} {key : ByteArray} {v : Value} {cs : List Cel} {p : Nat} (h : DK w wr R a len cap D Q N key v cs p) (o : Obj) : DK w (wr.alloc o) R a len cap D Q N key v cs p :=
  h.read (grown_alloc _ _ _) (h.ds.rd.alloc o)
/-- The cell's own variable is written. -/
theorem DK.store {w wr : World} {R : Nat} {a : Option Addr} {len cap D Q N c o : Nat} {key : ByteArray} {v : Value} {cs : List Cel} {p : Nat} {C : Array Value} (h : DK w wr R a len cap D Q N key v cs p) (hc : Blk wr c C 59) (hw : w.heap.size ≤ c) (hv : v.ownBlock ≠ some c) (u : Value) : DK w (wr.setCell ⟨c, o, none⟩ u) R a len cap D Q N key v cs p := by
  have h1 : c ≠ D := hc.ne h.ds.d (by decide)
  have h2 : c ≠ Q := hc.ne h.q (by decide)
  have h3 : c ≠ N := hc.ne h.n (by decide)
  have h4 : R ≠ c := h.ds.rd.blk.ne hc (by decide)
  exact ⟨h.ds.step (grown_set _ _ _ _) h1 hv (.inr hw) (Blk.other h.ds.rd h4 _), Blk.other h.q h2.symm _, Blk.other h.n h3.symm _, h.qd⟩
theorem DK.snoc {w wr w2 : World} {R : Nat} {a : Option Addr} {len cap D Q N : Nat} {key nm tx : ByteArray} {v v' : Value} {cs : List Cel} {p : Nat} (h : DK w wr R a len cap D Q N key v cs p)
    (ho : w2.ownsRow w.heap.size 59 2 v' (cs.length + 1) (celCells cs ++ [.string nm, .string tx])) (hg : wr.grownBy w2 v.ownBlock) : DK w (w2.setCell ⟨D, 1, none⟩ v') R a len cap D Q N key v' (cs ++ [⟨nm, tx⟩]) p :=
  ⟨h.ds.snoc ho hg, Blk.other (h.q.grown hg (fun e => own_type h.ds.own h.q (by decide) e.symm)) h.qd _, Blk.other (h.n.grown hg (fun e => own_type h.ds.own h.n (by decide) e.symm)) (h.n.ne h.ds.d (by decide)) _, h.qd⟩

theorem DK.fin {w wr : World} {R : Nat} {a : Option Addr} {len cap D Q N : Nat} {key : ByteArray} {v : Value} {cs : List Cel} {p : Nat} (h : DK w wr R a len cap D Q N key v cs p) (hQ : w.heap.size ≤ Q) (x y : Value) :
    ((wr.setCell ⟨Q, 0, none⟩ x).setCell ⟨Q, 1, none⟩ y).ownsRow w.heap.size 59 2 v cs.length (celCells cs) ∧ Rd ((wr.setCell ⟨Q, 0, none⟩ x).setCell ⟨Q, 1, none⟩ y) R a len cap p ∧ w.grownBy ((wr.setCell ⟨Q, 0, none⟩ x).setCell ⟨Q, 1, none⟩ y) (some R) := by
  have hRQ : R ≠ Q := h.ds.rd.blk.ne h.q (by decide)
  have hv := own_type h.ds.own h.q (by decide)
  refine ⟨World.ownsRow.kept (World.ownsRow.kept h.ds.own (grown_set _ Q 0 _) (.inr hv)) (grown_set _ Q 1 _) (.inr hv), Blk.other (Blk.other h.ds.rd hRQ _) hRQ _, ?_⟩
  have g := h.ds.grown
  exact ⟨g.os, g.tape, g.output, by simpa [World.setCell] using g.size, fun i hi hn => ((Below.heap_setCell _ _ _ _ (by show i ≠ Q; omega)).trans (Below.heap_setCell _ _ _ _ (by show i ≠ Q; omega))).trans (g.block i hi hn)⟩

set_option maxHeartbeats 2000000 in
set_option maxRecDepth 100000 in
theorem l11Doc_any (R : Nat) (X : Option Addr) (capf : Nat) (a : Option Addr) (len cap k : Nat) (fs : List Fld) (w : World) (hR : Rd w R a len cap k) (hC : Code w R a len) (hk : k ≤ 600000) (hfl : fs.length ≤ 1000) (hF : FldRow w X fs) (hFR : ∀ y, X = some y → y.block ≠ R) :
    Calls Tryz.prog 94 #[.pointer (some ⟨R, 0, none⟩), .slice X fs.length capf] w fun e w' => ∃ (key : ByteArray) (v : Value) (cs : List Cel) (p : Nat), e = .returned (.agg #[.string key, v]) ∧ key.size ≤ 9 ∧ cs.length ≤ 4 ∧ CelsB cs ∧ p ≤ k + 200 ∧ w'.ownsRow w.heap.size 59 2 v cs.length (celCells cs) ∧ Rd w' R a len cap p ∧ w.grownBy w' (some R) := by
  obtain ⟨i0, hi, hz0, hz1, hz2⟩ := info_parts infoCel
  have hlt := hR.lt
  have HR : Hid (Rd w R a len cap k) := hR
  have HC : Hid (Code w R a len) := hC
  have HF : Hid (FldRow w X fs) := hF
  have HFR : Hid (∀ y, X = some y → y.block ≠ R) := hFR
  clear hFR
  clear hR hC hF
  go_enter Tryz.func94, Tryz.ntmps94
  go_wp2_with fail
  have g0 : w.grownBy (w.alloc (.cells #[.string ⟨#[]⟩, .slice none 0 0] 37)) (some R) := grown_alloc _ _ _
  have s0 : (w.alloc (.cells #[.string ⟨#[]⟩, .slice none 0 0] 37)).heap.size = w.heap.size + 1 := by simp
  have S1 := strs_new (w.alloc (.cells #[.string ⟨#[]⟩, .slice none 0 0] 37)) #[.string ⟨#[97]⟩, .string ⟨#[98]⟩, .string ⟨#[99]⟩, .string ⟨#[100]⟩, .string ⟨#[101]⟩, .string ⟨#[107, 57]⟩] 9 9 (by decide +kernel)
  rw [s0] at S1
  refine (of_any R (w.heap.size + 1) 6 a len cap k _ _ ((HR.out.alloc _).alloc _) (HC.out.kept (grown_trans g0 (grown_alloc _ _ _)) hlt) (by omega) S1 (by omega) (by omega) (by omega)).mono ?_
  clear S1
  rintro e w1 ⟨key, rfl, hkey, hR1, hg1⟩
  have g1 : w.grownBy w1 (some R) := grown_trans (grown_trans g0 (grown_alloc _ _ _)) hg1
  have q1 : Blk w1 w.heap.size #[.string ⟨#[]⟩, .slice none 0 0] 37 := (((Blk.new w _ _).alloc _).grown hg1 (by simp; omega))
  have hs1 := q1.lt
  have d1 : DS w (w1.alloc (.cells #[.string key, .slice none 0 0] 37)) R a len cap w1.heap.size key (.slice none 0 0) [] (k + 1) := ⟨Blk.new _ _ _, World.ownsRow_nil _ _ _ _, hR1.alloc _, grown_trans g1 (grown_alloc _ _ _), by omega⟩
  have DK1 : Hid (DK w ((w1.alloc (.cells #[.string key, .slice none 0 0] 37)).alloc (.cells namesA 9)) R a len cap w1.heap.size w.heap.size (w1.heap.size + 1) key (.slice none 0 0) [] (k + 1)) :=
    ⟨d1.alloc _, (q1.alloc _).alloc _, by have := Blk.new (w1.alloc (.cells #[.string key, .slice none 0 0] 37)) namesA 9; rwa [show (w1.alloc (.cells #[.string key, .slice none 0 0] 37)).heap.size = w1.heap.size + 1 from by simp] at this, by omega⟩
  clear hg1 hR1 d1 q1 g1 g0 s0
  go_wp2
  go_loopw [7] (fun i wr => ∃ (j p : Nat) (v : Value) (cs : List Cel), j ≤ 4 ∧ i = .int .i64 j ∧ cs.length ≤ j ∧ CelsB cs ∧ p ≤ k + 1 + 40 * j ∧ DK w wr R a len cap w1.heap.size w.heap.size (w1.heap.size + 1) key v cs p) (fun i _ => 4 - (intOf i).toNat)
  case atStart => exact ⟨0, k + 1, .slice none 0 0, [], by omega, rfl, by simp, (fun _ h => by simp at h), by omega, DK1.out⟩
  case round =>
    clear DK1
    obtain ⟨j, p, v, cs, hj, rfl, hcs, hcb, hp, hdk⟩ := hrel
    obtain ⟨av, cv, rfl, -, -, -, -⟩ := owns_celRow hdk.ds.own (celTo_cells cs)
    have HD : Hid (DK w wr R a len cap w1.heap.size w.heap.size (w1.heap.size + 1) key (.slice av cs.length cv) cs p) := hdk
    have HCB : Hid (CelsB cs) := hcb
    clear hcb
    by_cases hlt4 : j < 4
    · obtain ⟨nm, cN, hnm⟩ := names_at hdk.n j hlt4
      have hj4 : (j : Int) < 4 := by omega
      have rF := HF.out.kept hdk.ds.grown HFR.out
      clear hdk
      go_wp2_with fail
      refine (l2Field_any _ capf fs nm _ (by omega) rF).mono ?_
      rintro e _ ⟨pz, rfl, hpos, rfl⟩
      rcases hpos with ⟨kk, hkk, rfl, -, -⟩ | ⟨rfl, -⟩
      · obtain ⟨gF, oF, eF, hgF, hcF⟩ := rF (by omega)
        obtain ⟨-, cK, -⟩ := hcF kk hkk
        have hFR : gF ≠ R := HFR.out _ eF
        subst eF
        clear hcF rF
        go_wp2_with fail
        refine (pick_any R a len cap p _ _ HD.out.ds.rd (HC.out.kept HD.out.ds.grown hlt) (by omega) (by omega) (by omega)).mono ?_
        rintro e w2 ⟨x, rfl, hx0, hx1, hR2, hg2⟩
        have HD2 : Hid (DK w w2 R a len cap w1.heap.size w.heap.size (w1.heap.size + 1) key (.slice av cs.length cv) cs (p + 1)) := HD.out.read hg2 hR2
        by_cases hx : x = 0
        · subst hx
          clear HD hR2 hg2
          go_wp2
          go_roundw
          case rel => exact ⟨j + 1, p + 1, _, cs, by omega, by go_num, by omega, HCB.out, by omega, HD2.out⟩
          case measure => simp [intOf]; omega
        · have hx' : (x == 0) = false := by simpa using hx
          have cN2 := (names_at HD2.out.n j hlt4)
          have cN2 : w2.cell? ⟨w1.heap.size + 1, j, none⟩ = some (.string nm) := hg2.cell cN (by simp; omega)
          have cK2 : w2.cell? ⟨gF, oF + kk * 3 + 1, none⟩ = some (.int .i64 (fat fs kk).kind) := hg2.cell cK (by simpa using hFR)
          clear hx HD hR2 hg2
          go_wp2_with fail
          have hs2 := HD2.out.ds.d.lt
          have hN2 := HD2.out.n.lt
          have hc2 : Code w2 R a len := HC.out.kept HD2.out.ds.grown hlt
          have hr2 := HD2.out.ds.rd
          have HDA : Hid (DK w (w2.alloc (.cells #[.string ⟨#[]⟩, .string ⟨#[]⟩] 59)) R a len cap w1.heap.size w.heap.size (w1.heap.size + 1) key (.slice av cs.length cv) cs (p + 1)) := HD2.out.alloc _
          have HCA : Hid (Blk (w2.alloc (.cells #[.string ⟨#[]⟩, .string ⟨#[]⟩] 59)) w2.heap.size #[.string ⟨#[]⟩, .string ⟨#[]⟩] 59) := Blk.new _ _ _
          have hOW : Hid (∀ j, (Value.slice av cs.length cv).ownBlock = some j → j < w2.heap.size) := fun j hj => (HD2.out.ds.own.lt j hj).2
          have hcA : Code (w2.alloc (.cells #[.string ⟨#[]⟩, .string ⟨#[]⟩] 59)) R a len := HC.out.kept HDA.out.ds.grown hlt
          have hrA := HDA.out.ds.rd
          go_cut [9] (fun c wx => ∃ (C q : Nat) (tx : ByteArray), c = .pointer (some ⟨C, 0, none⟩) ∧ w.heap.size ≤ C ∧ tx.size ≤ 1000 ∧ q ≤ p + 21 ∧ (Value.slice av cs.length cv).ownBlock ≠ some C ∧ Blk wx C #[.string nm, .string tx] 59 ∧ DK w wx R a len cap w1.heap.size w.heap.size (w1.heap.size + 1) key (.slice av cs.length cv) cs q)
          case first =>
            go_region_with (first
              | (go_at_call 126; refine (text_any R a len cap (p + 1) _ (by exact hr2) (by exact ⟨hc2.1, hc2.2⟩) (by omega)).mono ?_; rintro e w3 ⟨tx, q, rfl, htx, hq, hR3, hg3⟩; have hgd : w2.grownBy w3 (some R) := ⟨hg3.os, hg3.tape, hg3.output, hg3.size, hg3.block⟩; clear hg3; have hs3 : w1.heap.size + 1 < w3.heap.size := by { have := hgd.size; omega }; have cN3 : w3.cell? ⟨w1.heap.size + 1, j, none⟩ = some (.string nm) := hgd.cell cN2 (by simp; omega))
              | (go_at_call 126; refine (text_any R a len cap (p + 1) _ (by exact hrA) (by exact ⟨hcA.1, hcA.2⟩) (by omega)).mono ?_; rintro e w3 ⟨tx, q, rfl, htx, hq, hR3, hg3⟩; have hgd : (w2.alloc (.cells #[.string ⟨#[]⟩, .string ⟨#[]⟩] 59)).grownBy w3 (some R) := ⟨hg3.os, hg3.tape, hg3.output, hg3.size, hg3.block⟩; clear hg3; have hs3 : w1.heap.size + 1 < w3.heap.size := by { have := hgd.size; simp at this; omega }; have B3 := HCA.out.grown hgd (by simp; omega); have z0 := B3.cell 0; have z1 := B3.cell 1; have y0 := B3.frozen 0; have y1 := B3.frozen 1; simp at z0 z1; have cN3 : w3.cell? ⟨w1.heap.size + 1, j, none⟩ = some (.string nm) := hgd.cell ((World.cell?_alloc_lt _ _ _ hN2).trans cN2) (by simp; omega)))
            all_goals
              go_wp2_with fail
              go_meet
              case rel =>
                first
                | exact ⟨w3.heap.size, q, tx, rfl, by omega, by omega, by omega, (fun e => by have := hOW.out _ e; have := hgd.size; omega), Blk.new _ _ _, (HD2.out.read hgd hR3).alloc _⟩
                | exact ⟨w2.heap.size, q, tx, rfl, by omega, by omega, by omega, (fun e => by have := hOW.out _ e; omega), by simpa using (B3.set 0 (.string nm)).set 1 (.string tx), ((HDA.out.read hgd hR3).store B3 (by omega) (fun e => by have := hOW.out _ e; omega) _).store (B3.set 0 _) (by omega) (fun e => by have := hOW.out _ e; omega) _⟩
          case rest =>
            obtain ⟨C, q, tx, rfl, hC, htx, hq, hCv, hCB, hDK⟩ := hcut
            have rF := HF.out.kept hDK.ds.grown HFR.out
            obtain ⟨gF', oF', eF, hgF, hcF⟩ := rF (by omega)
            obtain ⟨-, cK, -⟩ := hcF kk hkk
            cases eF
            have hCR : C ≠ R := hCB.ne hDK.ds.rd.blk (by decide)
            have c0 := hCB.cell 0
            have c1 := hCB.cell 1
            have f1 := hCB.frozen 1
            simp at c0 c1
            have HDK : Hid (DK w wc R a len cap w1.heap.size w.heap.size (w1.heap.size + 1) key (.slice av cs.length cv) cs q) := hDK
            have HCBK : Hid (Blk wc C #[.string nm, .string tx] 59) := hCB
            clear hcF rF HD2 HDA HCA hcA hrA hc2 hr2 hOW cN2 cK2 hDK hCB
            generalize (fat fs kk).kind = kd at *
            go_upto_block 2 with fail
            go_cut [] (fun wx => ∃ (t : ByteArray) (r : Nat), t.size ≤ 1000 ∧ r ≤ p + 22 ∧ Blk wx C #[.string nm, .string t] 59 ∧ DK w wx R a len cap w1.heap.size w.heap.size (w1.heap.size + 1) key (.slice av cs.length cv) cs r)
            case first =>
              have hlc := HCBK.out.lt
              by_cases k2 : kd = 2
              · subst k2
                go_wp2_with fail
                refine (of_any R wc.heap.size 6 a len cap q _ _ (HDK.out.alloc _).ds.rd (HC.out.kept (HDK.out.alloc _).ds.grown hlt) (by omega) (strs_new wc _ _ 12 (by decide +kernel)) (by omega) (by omega) (by have := HDK.out.ds.rd.lt; omega)).mono ?_
                rintro e w4 ⟨t, rfl, ht, hR4, hg4⟩
                have HD4 : Hid (DK w w4 R a len cap w1.heap.size w.heap.size (w1.heap.size + 1) key (.slice av cs.length cv) cs (q + 1)) := (HDK.out.alloc _).read hg4 hR4
                have CB4 : Blk w4 C #[.string nm, .string tx] 59 := (HCBK.out.alloc _).grown hg4 (by simpa using hCR)
                have z1 := CB4.cell 1
                have y1 := CB4.frozen 1
                simp at z1
                have HC4 : Hid (Blk w4 C #[.string nm, .string tx] 59) := CB4
                clear CB4 hR4 hg4 HDK HCBK c0 c1 f1
                go_wp2_with fail
                go_meet
                case rel => exact ⟨t, q + 1, by omega, by omega, by simpa using HC4.out.set 1 (.string t), HD4.out.store HC4.out hC hCv _⟩
              by_cases k3 : kd = 3
              · subst k3
                go_wp2_with fail
                refine (of_any R wc.heap.size 5 a len cap q _ _ (HDK.out.alloc _).ds.rd (HC.out.kept (HDK.out.alloc _).ds.grown hlt) (by omega) (strs_new wc _ _ 12 (by decide +kernel)) (by omega) (by omega) (by have := HDK.out.ds.rd.lt; omega)).mono ?_
                rintro e w4 ⟨t, rfl, ht, hR4, hg4⟩
                have HD4 : Hid (DK w w4 R a len cap w1.heap.size w.heap.size (w1.heap.size + 1) key (.slice av cs.length cv) cs (q + 1)) := (HDK.out.alloc _).read hg4 hR4
                have CB4 : Blk w4 C #[.string nm, .string tx] 59 := (HCBK.out.alloc _).grown hg4 (by simpa using hCR)
                have z1 := CB4.cell 1
                have y1 := CB4.frozen 1
                simp at z1
                have HC4 : Hid (Blk w4 C #[.string nm, .string tx] 59) := CB4
                clear CB4 hR4 hg4 HDK HCBK c0 c1 f1
                go_wp2_with fail
                go_meet
                case rel => exact ⟨t, q + 1, by omega, by omega, by simpa using HC4.out.set 1 (.string t), HD4.out.store HC4.out hC hCv _⟩
              have h2 : (kd == 2) = false := by simpa using k2
              have h3 : (kd == 3) = false := by simpa using k3
              go_wp2_with fail
              go_meet
              case rel => exact ⟨tx, q, htx, by omega, HCBK.out, HDK.out⟩
            case rest =>
              obtain ⟨t, r, ht, hr, hCB, hDK⟩ := hcut
              clear HDK HCBK c0 c1 f1 cK hq htx
              have c0 := hCB.cell 0
              have c1 := hCB.cell 1
              have d1 := hDK.ds.d.cell 1
              simp at c0 c1 d1
              have hld := hDK.ds.d.lt
              have hlc := hCB.lt
              have HDK : Hid (DK w wc R a len cap w1.heap.size w.heap.size (w1.heap.size + 1) key (.slice av cs.length cv) cs r) := hDK
              have hsw := hDK.ds.grown.size
              clear hDK hCB
              go_wp2_with (at_builtin; refine wpList_append_own _ rfl _ _ 35 rfl w.heap.size 59 i0 (.agg #[.string ⟨#[]⟩, .string ⟨#[]⟩]) 2 32 Tryz.underlying35 hi hz0 hz1 hz2 rfl (by decide) _ _ _ rfl (HDK.out.ds.own.alloc _) ⟨wc.heap.size, 0, none⟩ 1 1 [.string nm, .string t] rfl rfl (cells_new _ _ _) (two_one _ _) (by unfold maxLen; omega) (by omega) (by simp; omega) ?_)
              intro v' w6 hown' hgrow _
              have hN := (HDK.out.alloc _).snoc hown' hgrow
              have hd6 : Blk w6 w1.heap.size #[.string key, .slice av cs.length cv] 37 := (HDK.out.alloc _).ds.d.grown hgrow (fun e => own_type HDK.out.ds.own HDK.out.ds.d (by decide) e.symm)
              have z1 := hd6.cell 1
              have y1 := hd6.frozen 1
              simp at z1
              obtain ⟨a6, n6, c6, rfl⟩ : ∃ a n c, v' = .slice a n c := by
                rcases hown'.2 with ⟨e, _⟩ | ⟨g, c, cur, e, _⟩
                · exact ⟨_, _, _, e⟩
                · exact ⟨_, _, _, e⟩
              have HN : Hid (DK w (w6.setCell ⟨w1.heap.size, 1, none⟩ (.slice a6 n6 c6)) R a len cap w1.heap.size w.heap.size (w1.heap.size + 1) key (.slice a6 n6 c6) (cs ++ [⟨nm, t⟩]) r) := hN
              clear hown' hgrow hd6 hN HDK
              go_wp2
              go_roundw
              case rel => exact ⟨j + 1, r, _, cs ++ [⟨nm, t⟩], by omega, by go_num, by simp; omega, HCB.out.snoc (by show nm.size ≤ 1000; omega) ht, by omega, HN.out⟩
              case measure => simp [intOf]; omega
      · clear rF
        go_wp2
        go_roundw
        case rel => exact ⟨j + 1, p, _, cs, by omega, by go_num, by omega, HCB.out, by omega, HD.out⟩
        case measure => simp [intOf]; omega
    · have hj4 : j = 4 := by omega
      subst hj4
      have e0 := hdk.ds.d.cell 0
      have e1 := hdk.ds.d.cell 1
      have q0 := hdk.q.cell 0
      have q1 := hdk.q.cell 1
      have f0 := hdk.q.frozen 0
      have f1 := hdk.q.frozen 1
      have q2 := ((hdk.q.set 0 (.string key)).set 1 (.slice av cs.length cv)).cell 0
      have q3 := ((hdk.q.set 0 (.string key)).set 1 (.slice av cs.length cv)).cell 1
      simp at e0 e1 q0 q1 q2 q3
      have Q2 : Hid (((wr.setCell ⟨w.heap.size, 0, none⟩ (.string key)).setCell ⟨w.heap.size, 1, none⟩ (.slice av cs.length cv)).cell? ⟨w.heap.size, 0, none⟩ = some (.string key)) := q2
      have Q3 : Hid (((wr.setCell ⟨w.heap.size, 0, none⟩ (.string key)).setCell ⟨w.heap.size, 1, none⟩ (.slice av cs.length cv)).cell? ⟨w.heap.size, 1, none⟩ = some (.slice av cs.length cv)) := q3
      clear hdk q2 q3
      go_wp2
      exact bodyPost_ret (v := .agg #[.string key, .slice av cs.length cv]) (by simp [results, Tryz.results94, go_sem, Q2.out, Q3.out]) rfl ⟨key, _, cs, p, rfl, hkey, hcs, HCB.out, by omega, HD.out.fin (Nat.le_refl _) _ _⟩
end Go.Proofs.YtjkimadnopeakaaGreatDoor

/- The contracts of l10Fields, l11Name, l11AnyDoc, DrawDocText. -/
namespace Go.Proofs.YtjkimadnopeakaaGreatDoor
open Go.RowKit

theorem l11Name_any (R : Nat) (a : Option Addr) (len cap k : Nat) (w : World) (hR : Rd w R a len cap k) (hC : Code w R a len) (hk : k ≤ 900000) :
    Calls Tryz.prog 70 #[.pointer (some ⟨R, 0, none⟩)] w fun e w' => ∃ t, e = .returned (.string t) ∧ t.size ≤ 18 ∧ w.grownBy w' (some R) := by
  have hlt := hR.lt
  have HR : Hid (Rd w R a len cap k) := hR
  clear hR
  go_enter Tryz.func70, Tryz.ntmps70
  go_wp2_with fail
  refine (of_any R w.heap.size 5 a len cap k _ _ (HR.out.alloc _) (hC.kept (grown_alloc _ _ _) hlt) (by omega) (strs_new w _ _ 18 (by decide +kernel)) (by omega) (by omega) (by omega)).mono ?_
  rintro e w1 ⟨t, rfl, ht, hR1, hg1⟩
  clear hC hR1
  go_wp2
  go_ret
  exact ⟨t, rfl, ht, grown_trans (grown_alloc _ _ _) hg1⟩

/-- The draw's document, with the call's own result Q kept. -/
structure DQ (w wr : World) (R : Nat) (a : Option Addr) (len cap D Q : Nat) (key : ByteArray) (v : Value) (cs : List Cel) (p : Nat) : Prop where
  ds : DS w wr R a len cap D key v cs p
  q : Blk wr Q #[.string ⟨#[]⟩, .slice none 0 0] 37
  qd : Q ≠ D
theorem DQ.read {w wr w2 : World} {R : Nat} {a : Option Addr} {len cap D Q : Nat} {key : ByteArray} {v : Value} {cs : List Cel} {p q : Nat} (h : DQ w wr R a len cap D Q key v cs p) (hg : wr.grownBy w2 (some R)) (hR : Rd w2 R a len cap q) : DQ w w2 R a len cap D Q key v cs q :=
  ⟨h.ds.read hg hR, h.q.grown hg (by simpa using h.q.ne h.ds.rd.blk (by decide)), h.qd⟩
theorem DQ.alloc {w wr : World} {R : Nat} {a : Option Addr} {len cap D Q : Nat} {key : ByteArray} {v : Value} {cs : List Cel} {p : Nat} (h : DQ w wr R a len cap D Q key v cs p) (o : Obj) : DQ w (wr.alloc o) R a len cap D Q key v cs p :=
  h.read (grown_alloc _ _ _) (h.ds.rd.alloc o)
theorem DQ.snoc {w wr w2 : World} {R : Nat} {a : Option Addr} {len cap D Q : Nat} {key nm tx : ByteArray} {v v' : Value} {cs : List Cel} {p : Nat} (h : DQ w wr R a len cap D Q key v cs p)
    (ho : w2.ownsRow w.heap.size 59 2 v' (cs.length + 1) (celCells cs ++ [.string nm, .string tx])) (hg : wr.grownBy w2 v.ownBlock) : DQ w (w2.setCell ⟨D, 1, none⟩ v') R a len cap D Q key v' (cs ++ [⟨nm, tx⟩]) p :=
  ⟨h.ds.snoc ho hg, Blk.other (h.q.grown hg (fun e => own_type h.ds.own h.q (by decide) e.symm)) h.qd _, h.qd⟩
theorem DQ.key {w wr : World} {R : Nat} {a : Option Addr} {len cap D Q : Nat} {key : ByteArray} {v : Value} {cs : List Cel} {p : Nat} (h : DQ w wr R a len cap D Q key v cs p) (key' : ByteArray) : DQ w (wr.setCell ⟨D, 0, none⟩ (.string key')) R a len cap D Q key' v cs p :=
  ⟨h.ds.key key', Blk.other h.q h.qd _, h.qd⟩
theorem DQ.fin {w wr : World} {R : Nat} {a : Option Addr} {len cap D Q : Nat} {key : ByteArray} {v : Value} {cs : List Cel} {p : Nat} (h : DQ w wr R a len cap D Q key v cs p) (hQ : w.heap.size ≤ Q) (x y : Value) :
    ((wr.setCell ⟨Q, 0, none⟩ x).setCell ⟨Q, 1, none⟩ y).ownsRow w.heap.size 59 2 v cs.length (celCells cs) ∧ Rd ((wr.setCell ⟨Q, 0, none⟩ x).setCell ⟨Q, 1, none⟩ y) R a len cap p ∧ w.grownBy ((wr.setCell ⟨Q, 0, none⟩ x).setCell ⟨Q, 1, none⟩ y) (some R) := by
  have hRQ : R ≠ Q := h.ds.rd.blk.ne h.q (by decide)
  have hv := own_type h.ds.own h.q (by decide)
  refine ⟨World.ownsRow.kept (World.ownsRow.kept h.ds.own (grown_set _ Q 0 _) (.inr hv)) (grown_set _ Q 1 _) (.inr hv), Blk.other (Blk.other h.ds.rd hRQ _) hRQ _, ?_⟩
  have g := h.ds.grown
  exact ⟨g.os, g.tape, g.output, by simpa [World.setCell] using g.size, fun i hi hn => ((Below.heap_setCell _ _ _ _ (by show i ≠ Q; omega)).trans (Below.heap_setCell _ _ _ _ (by show i ≠ Q; omega))).trans (g.block i hi hn)⟩
theorem celCells_set : ∀ (cs : List Cel) (j : Nat) (_ : j < cs.length) (t : ByteArray), celCells (cs.set j ⟨(cat cs j).name, t⟩) = (celCells cs).set (j * 2 + 1) (.string t)
  | c :: cs, 0, _, t => by simp [celCells_cons, cat]
  | c :: cs, j + 1, hj, t => by
    have ih := celCells_set cs j (by simpa using hj) t
    have e : (j + 1) * 2 + 1 = j * 2 + 1 + 1 + 1 := by omega
    have ec : cat (c :: cs) (j + 1) = cat cs j := by simp [cat]
    rw [ec, List.set_cons_succ, celCells_cons, celCells_cons, e, List.set_cons_succ, List.set_cons_succ, ih]
  | [], j, hj, t => absurd hj (by simp)
/-- A cell's text is written anew. -/
theorem DQ.text {w wr : World} {R g : Nat} {a : Option Addr} {len cap D Q c : Nat} {key : ByteArray} {cs : List Cel} {p : Nat} (h : DQ w wr R a len cap D Q key (.slice (some ⟨g, 0, none⟩) cs.length c) cs p) (j : Nat) (hj : j < cs.length) (t : ByteArray) :
    DQ w (wr.setCell ⟨g, j * 2 + 1, none⟩ (.string t)) R a len cap D Q key (.slice (some ⟨g, 0, none⟩) (cs.set j ⟨(cat cs j).name, t⟩).length c) (cs.set j ⟨(cat cs j).name, t⟩) p := by
  have hgD : D ≠ g := fun e => own_type h.ds.own h.ds.d (by decide) (by rw [e]; rfl)
  have hgQ : Q ≠ g := fun e => own_type h.ds.own h.q (by decide) (by rw [e]; rfl)
  have hgR : R ≠ g := fun e => own_type h.ds.own h.ds.rd.blk (by decide) (by rw [e]; rfl)
  have hl := (h.ds.own.lt g rfl).1
  obtain ⟨ho, hg⟩ := h.ds.own.stored (j * 2 + 1) (.string t)
  have gr := h.ds.grown
  refine ⟨⟨?_, ?_, Blk.other h.ds.rd hgR _, ⟨gr.os, gr.tape, gr.output, by simpa [World.setCell] using gr.size, fun i hi hn => (Below.heap_setCell _ _ _ _ (by show i ≠ g; omega)).trans (gr.block i hi hn)⟩, h.ds.le⟩, Blk.other h.q hgQ _, h.qd⟩
  · rw [List.length_set]
    exact Blk.other h.ds.d hgD _
  · rw [List.length_set, show celCells (cs.set j ⟨(cat cs j).name, t⟩) = (celCells cs).set (j * 2 + 1) (.string t) from celCells_set cs j hj t]
    exact ho
end Go.Proofs.YtjkimadnopeakaaGreatDoor
