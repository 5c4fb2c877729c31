/- Contracts of the model's draws of words and texts: a text comes, of a bounded size; nothing is written but the reader. -/
import Derived.Test.YtfakoalkbcnejaaDoorCommon
import Derived.Test.YtfakoalkbcnejaaDoorDraw
import Derived.OpenShut
namespace Go.Proofs.YtfakoalkbcnejaaDoor
open Go.RowKit

/-- A slice of bytes that came in. -/
structure BytesIn (w : World) (a : Option Addr) (len cap : Nat) : Prop where
  le : len ≤ cap
  max : cap ≤ maxLen
  cells : 0 < len → ∃ (b off : Nat) (z : Nat → Int), a = some ⟨b, off, none⟩ ∧ b < w.heap.size ∧ ∀ i, i < len → w.cell? ⟨b, off + i, none⟩ = some (.int .u8 (z i)) ∧ 0 ≤ z i ∧ z i ≤ 255

theorem bytes_in {w : World} {a : Option Addr} {len cap : Nat} {zs : List Int} (h : (a = none ∧ len = 0 ∧ cap = 0 ∧ zs = []) ∨
    ∃ x, a = some x ∧ len ≤ cap ∧ cap ≤ maxLen ∧ zs.length = cap ∧ (∀ i, i < zs.length → w.cell? (x.add i) = some (.int .u8 (zs.getD i 0))) ∧ ∀ n ∈ zs, (Lit.int .u8 n).wf = true) : BytesIn w a len cap := by
  rcases h with ⟨rfl, rfl, rfl, rfl⟩ | ⟨x, rfl, h1, h2, h3, h4, h5⟩
  · exact ⟨Nat.le_refl _, by decide, fun h => by omega⟩
  · refine ⟨h1, h2, fun hp => ?_⟩
    obtain ⟨b, off, spot⟩ := x
    have hc0 := h4 0 (by omega)
    have hspot : spot = none := by simpa [Addr.add] using World.cell?_spot hc0
    subst hspot
    have hadd : ∀ i, (⟨b, off, none⟩ : Addr).add i = ⟨b, off + i, none⟩ := fun i => by
      unfold Addr.add
      by_cases e : i = 0
      · simp [e]
      · simp [e]
    refine ⟨b, off, fun i => zs.getD i 0, rfl, ?_, fun i hi => ⟨?_, ?_⟩⟩
    · exact cell_lt (o := off) (v := .int .u8 (zs.getD 0 0)) (by rw [← hc0, hadd]; simp)
    · rw [← hadd]; exact h4 i (by omega)
    · have hm : zs.getD i 0 ∈ zs := by
        rw [List.getD_eq_getElem?_getD, List.getElem?_eq_getElem (by omega)]
        exact List.getElem_mem _
      have := bounds_u8 (h5 _ hm)
      omega

theorem BytesIn.below {w w' : World} {a : Option Addr} {len cap : Nat} (h : BytesIn w a len cap) (hb : Below w.heap.size w w') : BytesIn w' a len cap :=
  ⟨h.le, h.max, fun hp => by
    obtain ⟨b, off, z, e, hbs, hc⟩ := h.cells hp
    exact ⟨b, off, z, e, by have := hb.size; omega, fun i hi => ⟨by rw [hb.cell (p := ⟨b, off + i, none⟩) hbs]; exact (hc i hi).1, (hc i hi).2⟩⟩⟩
theorem open_any (a : Option Addr) (len cap : Nat) (w : World) (h : BytesIn w a len cap) :
    Calls Tryd.prog 54 #[.slice a len cap] w fun e w' => ∃ len', e = .returned (.pointer (some ⟨w.heap.size, 0, none⟩)) ∧ Rd w' w.heap.size a len' cap ((0 : Nat) : Int) ∧ Code w' w.heap.size a len' ∧ Below w.heap.size w w' := by
  have hle := h.le
  have hmx := h.max
  unfold maxLen at hmx
  have fin : ∀ len', len' ≤ len → len' ≤ 2000 → Rd (w.alloc (.cells #[.slice a len' cap, .int .i64 0] 91)) w.heap.size a len' cap ((0 : Nat) : Int) ∧ Code (w.alloc (.cells #[.slice a len' cap, .int .i64 0] 91)) w.heap.size a len' ∧ Below w.heap.size w (w.alloc (.cells #[.slice a len' cap, .int .i64 0] 91)) := by
    intro len' h1 h2
    refine ⟨heap_alloc_new w _, ⟨h2, fun hp => ?_⟩, (Below.refl _ w).alloc (Nat.le_refl _) _⟩
    obtain ⟨b, off, z, e, hb, hc⟩ := h.cells (by omega)
    exact ⟨b, off, z, e, hb, fun i hi => ⟨by rw [World.cell?_alloc_lt _ _ _ hb]; exact (hc i (by omega)).1, (hc i (by omega)).2⟩⟩
  have FIN : Hid (∀ len', len' ≤ len → len' ≤ 2000 → Rd (w.alloc (.cells #[.slice a len' cap, .int .i64 0] 91)) w.heap.size a len' cap ((0 : Nat) : Int) ∧ Code (w.alloc (.cells #[.slice a len' cap, .int .i64 0] 91)) w.heap.size a len' ∧ Below w.heap.size w (w.alloc (.cells #[.slice a len' cap, .int .i64 0] 91))) := fin
  clear fin
  by_cases hl : 2000 < (len : Int)
  · obtain ⟨b, off, z, rfl, hb, hc⟩ := h.cells (by omega)
    clear hc h
    go_enter Tryd.func54, Tryd.ntmps54
    go_wp2
    go_ret
    exact ⟨2000, rfl, FIN.out 2000 (by omega) (by omega)⟩
  · clear h
    go_enter Tryd.func54, Tryd.ntmps54
    go_wp2
    go_ret
    first | exact ⟨len, rfl, FIN.out len (Nat.le_refl _) (by omega)⟩ | exact ⟨rfl, len, FIN.out len (Nat.le_refl _) (by omega)⟩

/-- Strings that lie in a row, each of a kind. -/
def Strs (w : World) (L m : Nat) (p : ByteArray → Prop) : Prop := ∀ i, i < m → ∃ t, w.cell? ⟨L, i, none⟩ = some (.string t) ∧ p t
def strB (n : Nat) : Value → Bool
  | .string t => decide (t.size ≤ n)
  | _ => false
theorem strs_new (w : World) (C : Array Value) (e : TypeId) (n : Nat) (h : C.toList.all (strB n) = true) : Strs (w.alloc (.cells C e)) w.heap.size C.size (fun t => t.size ≤ n) := by
  intro i hi
  have hm := List.all_eq_true.1 h C[i] (by simp)
  rw [World.cell?_alloc_new, Array.getElem?_eq_getElem hi]
  cases hc : C[i] with
  | string t =>
    rw [hc] at hm
    exact ⟨t, rfl, by simpa [strB] using hm⟩
  | _ => rw [hc] at hm; simp [strB] at hm
theorem Rd.alloc {w : World} {R : Nat} {a : Option Addr} {len cap : Nat} {p : Int} (h : Rd w R a len cap p) (o : Obj) : Rd (w.alloc o) R a len cap p := by
  have := h.lt
  unfold Rd at h ⊢
  rw [Below.heap_alloc w o R this]
  exact h
theorem grown_alloc (w : World) (o : Obj) (R : Nat) : w.grownBy (w.alloc o) (some R) := World.grownBy_alloc w o _
theorem grown_trans {a b c : World} {R : Nat} (h : a.grownBy b (some R)) (k : b.grownBy c (some R)) : a.grownBy c (some R) :=
  ⟨k.os.trans h.os, k.tape.trans h.tape, k.output.trans h.output, Nat.le_trans h.size k.size, fun i hi hn => (k.block i (by have := h.size; omega) hn).trans (h.block i hi hn)⟩

theorem of_any (R L m : Nat) (a : Option Addr) (len cap k : Nat) (p : ByteArray → Prop) (w : World) (hR : Rd w R a len cap k) (hC : Code w R a len) (hk : k ≤ 1000000) (hS : Strs w L m p) (hm1 : 1 ≤ m) (hm2 : m ≤ 1000) (hL : L ≠ R) :
    Calls Tryd.prog 80 #[.pointer (some ⟨R, 0, none⟩), .slice (some ⟨L, 0, none⟩) m m] w fun e w' => ∃ t, e = .returned (.string t) ∧ p t ∧ Rd w' R a len cap ((k + 1 : Nat) : Int) ∧ w.grownBy w' (some R) := by
  go_enter Tryd.func80, Tryd.ntmps80
  go_wp2_with fail
  refine (pick_any R a len cap k _ _ hR hC hk (by omega) (by omega)).mono ?_
  rintro e w1 ⟨v, rfl, hv0, hv1, hR1, hg1⟩
  obtain ⟨j, rfl⟩ := Int.eq_ofNat_of_zero_le hv0
  have hj : j < m := by omega
  obtain ⟨t, hct, hpt⟩ := hS j hj
  have hcj : w1.cell? ⟨L, j, none⟩ = some (.string t) := hg1.cell hct (by simpa using hL)
  have HR1 : Hid (Rd w1 R a len cap ((k + 1 : Nat) : Int)) := hR1
  clear hR hC hS hR1 hct
  go_wp2
  go_ret
  exact ⟨t, rfl, hpt, HR1.out, hg1⟩

end Go.Proofs.YtfakoalkbcnejaaDoor
