/- A number drawn out of a list; what a draw leaves as it was. -/
import Derived.Test.YtfakoalkbcnejaaDoorDrawText
namespace Go.Proofs.YtfakoalkbcnejaaDoor
open Go.RowKit

theorem grown_own {w w1 w2 : World} {R : Nat} {r : Option Nat} (h : w.grownBy w1 (some R)) (k : w1.grownBy w2 r) (hr : ∀ j, r = some j → w.heap.size ≤ j) : w.grownBy w2 (some R) :=
  ⟨k.os.trans h.os, k.tape.trans h.tape, k.output.trans h.output, Nat.le_trans h.size k.size, fun i hi hn => (k.block i (by have := h.size; omega) (fun e => by have := hr i e.symm; omega)).trans (h.block i hi hn)⟩
theorem Rd.grown {w w2 : World} {R : Nat} {a : Option Addr} {len cap : Nat} {p : Int} {r : Option Nat} (h : Rd w R a len cap p) (k : w.grownBy w2 r) (hr : ∀ j, r = some j → R < j) : Rd w2 R a len cap p := by
  have := h.lt
  unfold Rd at h ⊢
  rw [k.block R this (fun e => by have := hr R e.symm; omega)]
  exact h
theorem own_kept {w w' : World} {base R : Nat} {e : TypeId} {s : Nat} {v : Value} {n : Nat} {xs : List Value} (h : w.ownsRow base e s v n xs) (hg : w.grownBy w' (some R)) (hb : R < base) : w'.ownsRow base e s v n xs := by
  refine h.kept hg ?_
  cases hv : v.ownBlock with
  | none => exact .inl rfl
  | some j => exact .inr (fun e => by have := (h.lt j hv).1; cases e; omega)

theorem one_any (R L m : Nat) (a : Option Addr) (len cap k : Nat) (w : World) (hR : Rd w R a len cap k) (hC : Code w R a len) (hk : k ≤ 1000000) (hS : ∀ i, i < m → ∃ z, w.cell? ⟨L, i, none⟩ = some (.int .i64 z)) (hm1 : 1 ≤ m) (hm2 : m ≤ 1000) (hL : L ≠ R) :
    Calls Tryd.prog 81 #[.pointer (some ⟨R, 0, none⟩), .slice (some ⟨L, 0, none⟩) m m] w fun e w' => ∃ z, e = .returned (.int .i64 z) ∧ Rd w' R a len cap ((k + 1 : Nat) : Int) ∧ w.grownBy w' (some R) := by
  go_enter Tryd.func81, Tryd.ntmps81
  go_wp2_with fail
  refine (pick_any R a len cap k _ _ hR hC hk (by omega) (by omega)).mono ?_
  rintro e w1 ⟨v, rfl, hv0, hv1, hR1, hg1⟩
  obtain ⟨j, rfl⟩ := Int.eq_ofNat_of_zero_le hv0
  have hj : j < m := by omega
  obtain ⟨t, hct⟩ := hS j hj
  have hcj : w1.cell? ⟨L, j, none⟩ = some (.int .i64 t) := hg1.cell hct (by simpa using hL)
  have HR1 : Hid (Rd w1 R a len cap ((k + 1 : Nat) : Int)) := hR1
  clear hR hC hS hR1 hct
  go_wp2
  go_ret
  exact ⟨t, rfl, HR1.out, hg1⟩
end Go.Proofs.YtfakoalkbcnejaaDoor
