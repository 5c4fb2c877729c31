/- Contracts of the model's reader of drawn bytes: l1Open, pick, of. What matters of a draw: that it ends, what it may hand out, and that it writes into nothing but the reader. -/
import Derived.Test.YtfakoalkbcnejaaDoorLeaf
import Derived.Test.YtfakoalkbcnejaaDoorPlain
import Derived.Laws.BitsAllLaws
import Derived.Deep.QuietTactic
import Derived.BigQuiet
import Derived.Deep.DeepCutAuto
namespace Go.Proofs.YtfakoalkbcnejaaDoor
open Go.RowKit

theorem xor_nonneg (a b : Nat) (ha : a < 4294967296) (hb : b < 4294967296) : 0 ≤ bits .xor .i64 (a : Int) (b : Int) ∧ bits .xor .i64 (a : Int) (b : Int) < 4294967296 := by
  have hx : a ^^^ b < 2 ^ 32 := Nat.xor_lt_two_pow (by omega) (by omega)
  have h1 : (BitVec.ofInt 64 (a : Int)).toNat = a := by
    rw [BitVec.ofInt_natCast, BitVec.toNat_ofNat]; exact Nat.mod_eq_of_lt (by omega)
  have h2 : (BitVec.ofInt 64 (b : Int)).toNat = b := by
    rw [BitVec.ofInt_natCast, BitVec.toNat_ofNat]; exact Nat.mod_eq_of_lt (by omega)
  have h : bits .xor .i64 (a : Int) (b : Int) = ((a ^^^ b : Nat) : Int) := by
    show IntKind.i64.wrap ((BitVec.ofInt 64 (a : Int) ^^^ BitVec.ofInt 64 (b : Int)).toNat : Int) = _
    rw [BitVec.toNat_xor, h1, h2]
    simp [IntKind.wrap, IntKind.bits, IntKind.signed]
    omega
  rw [h]
  omega
theorem xor_nonneg' (x y : Int) (h0 : 0 ≤ x) (h1 : x < 4294967296) (h2 : 0 ≤ y) (h3 : y < 4294967296) : 0 ≤ bits .xor .i64 x y ∧ bits .xor .i64 x y < 4294967296 := by
  obtain ⟨a, rfl⟩ := Int.eq_ofNat_of_zero_le h0
  obtain ⟨b, rfl⟩ := Int.eq_ofNat_of_zero_le h2
  exact xor_nonneg a b (by omega) (by omega)

theorem pick_val (x n : Int) (h0 : 0 ≤ x) (h1 : x < 4294967296) (hn : 1 ≤ n) : 0 ≤ (bits .xor .i64 x (x / 64)).tmod n ∧ (bits .xor .i64 x (x / 64)).tmod n < n := by
  have h := xor_nonneg' x (x / 64) h0 h1 (by omega) (by omega)
  exact ⟨Int.tmod_nonneg _ h.1, Int.tmod_lt_of_pos _ (by omega)⟩

/-- The reader: a block of the call's own. -/
def Rd (w : World) (R : Nat) (a : Option Addr) (len cap : Nat) (p : Int) : Prop := w.heap[R]? = some (.cells #[.slice a len cap, .int .i64 p] 91 (0, 0))
theorem Rd.c0 {w : World} {R : Nat} {a : Option Addr} {len cap : Nat} {p : Int} (h : Rd w R a len cap p) : w.cell? ⟨R, 0, none⟩ = some (.slice a len cap) := by
  unfold Rd at h
  simp [World.cell?, h]
theorem Rd.c1 {w : World} {R : Nat} {a : Option Addr} {len cap : Nat} {p : Int} (h : Rd w R a len cap p) : w.cell? ⟨R, 1, none⟩ = some (.int .i64 p) := by
  unfold Rd at h
  simp [World.cell?, h]
theorem Rd.f1 {w : World} {R : Nat} {a : Option Addr} {len cap : Nat} {p : Int} (h : Rd w R a len cap p) : w.frozen? ⟨R, 1, none⟩ = false := by
  unfold Rd at h
  simp [World.frozen?, h]
theorem Rd.lt {w : World} {R : Nat} {a : Option Addr} {len cap : Nat} {p : Int} (h : Rd w R a len cap p) : R < w.heap.size := lt_of_block h
theorem Rd.step {w : World} {R : Nat} {a : Option Addr} {len cap : Nat} {p : Int} (h : Rd w R a len cap p) (q : Int) : Rd (w.setCell ⟨R, 1, none⟩ (.int .i64 q)) R a len cap q := by
  unfold Rd at h ⊢
  simp only [World.setCell, Array.getElem?_modify, if_true, h]
  rfl
theorem grown_set (w : World) (R : Nat) (o : Nat) (v : Value) : w.grownBy (w.setCell ⟨R, o, none⟩ v) (some R) :=
  ⟨rfl, rfl, rfl, by simp [World.setCell], fun k hk hne => Below.heap_setCell _ _ _ _ (by intro e; apply hne; simp [e])⟩

/-- The bytes that came in: read below R. -/
structure Code (w : World) (R : Nat) (a : Option Addr) (len : Nat) : Prop where
  small : len ≤ 2000
  cells : 0 < len → ∃ (b off : Nat) (z : Nat → Int), a = some ⟨b, off, none⟩ ∧ b < R ∧ ∀ i, i < len → w.cell? ⟨b, off + i, none⟩ = some (.int .u8 (z i)) ∧ 0 ≤ z i ∧ z i ≤ 255
theorem Code.kept {w w' : World} {R len : Nat} {a : Option Addr} (h : Code w R a len) (hg : w.grownBy w' (some R)) (hR : R < w.heap.size) : Code w' R a len :=
  ⟨h.small, fun hp => by
    obtain ⟨b, off, z, e, hb, hc⟩ := h.cells hp
    exact ⟨b, off, z, e, hb, fun i hi => ⟨by rw [← (hc i hi).1]; exact World.cell?_of_block (hg.block b (by omega) (by intro e; cases e; omega)), (hc i hi).2⟩⟩⟩

set_option maxHeartbeats 1000000 in
theorem pick_any (R : Nat) (a : Option Addr) (len cap k : Nat) (n : Int) (w : World) (hR : Rd w R a len cap k) (hC : Code w R a len) (hk : k ≤ 1000000) (hn1 : 1 ≤ n) (hn2 : n ≤ 1000000) :
    Calls Tryd.prog 79 #[.pointer (some ⟨R, 0, none⟩), .int .i64 n] w fun e w' => ∃ v : Int, e = .returned (.int .i64 v) ∧ 0 ≤ v ∧ v < n ∧ Rd w' R a len cap ((k + 1 : Nat) : Int) ∧ w.grownBy w' (some R) := by
  have c0 := hR.c0
  have c1 := hR.c1
  have f1 := hR.f1
  have HR : Hid (Rd w R a len cap k) := hR
  have HC : Hid (Code w R a len) := hC
  have hsm := hC.small
  clear hR hC
  by_cases h0 : len = 0
  · subst h0
    go_enter Tryd.func79, Tryd.ntmps79
    go_wp2
    go_ret
    exact ⟨0, rfl, by omega, by omega, HR.out.step _, grown_set _ _ _ _⟩
  · obtain ⟨b, off, z, rfl, hb, hc⟩ := HC.out.cells (by omega)
    have hl0 : ((len : Int) == 0) = false := by simp; omega
    by_cases hlt : k < len
    · obtain ⟨hck, hz0, hz1⟩ := hc k hlt
      clear hc
      go_enter Tryd.func79, Tryd.ntmps79
      go_wp2
      go_ret
      refine ⟨_, rfl, ?_, ?_, HR.out.step _, grown_set _ _ _ _⟩
      · exact Int.emod_nonneg _ (by omega)
      · exact Int.emod_lt_of_pos _ (by omega)
    · have i1 : k % len < len := Nat.mod_lt _ (by omega)
      have i2 : (k * 7 + 3) % len < len := Nat.mod_lt _ (by omega)
      obtain ⟨hc1, hx0, hx1⟩ := hc _ i1
      obtain ⟨hc2, hy0, hy1⟩ := hc _ i2
      have j1 : 0 ≤ (k : Int) % (len : Int) ∧ (k : Int) % (len : Int) < (len : Int) := ⟨Int.emod_nonneg _ (by omega), Int.emod_lt_of_pos _ (by omega)⟩
      have j2 : 0 ≤ ((k : Int) * 7 + 3) % (len : Int) ∧ ((k : Int) * 7 + 3) % (len : Int) < (len : Int) := ⟨Int.emod_nonneg _ (by omega), Int.emod_lt_of_pos _ (by omega)⟩
      have hd : 0 ≤ (k : Int) / (len : Int) ∧ (k : Int) / (len : Int) ≤ 1000000 := ⟨Int.ediv_nonneg (by omega) (by omega), Int.le_trans (Int.ediv_le_self _ (by omega)) (by omega)⟩
      obtain ⟨hd0, hd1⟩ := hd
      obtain ⟨j1a, j1b⟩ := j1
      obtain ⟨j2a, j2b⟩ := j2
      clear hc
      go_enter Tryd.func79, Tryd.ntmps79
      go_wp2
      go_quiet (fail)
      go_wp2
      go_ret
      refine ⟨_, rfl, ?_, ?_, ?_, ?_⟩
      · exact (pick_val _ _ (by omega) (by omega) (by omega)).1
      · exact (pick_val _ _ (by omega) (by omega) (by omega)).2
      · exact HR.out.step _
      · exact ⟨rfl, rfl, rfl, (grown_set w R 1 _).size, (grown_set w R 1 _).block⟩
end Go.Proofs.YtfakoalkbcnejaaDoor
