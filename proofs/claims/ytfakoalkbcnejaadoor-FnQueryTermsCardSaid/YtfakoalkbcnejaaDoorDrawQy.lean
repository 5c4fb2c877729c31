/- A question without parts, drawn. -/
import Derived.Test.YtfakoalkbcnejaaDoorQys
import Derived.Test.YtfakoalkbcnejaaDoorBlk
import Derived.Test.YtfakoalkbcnejaaDoorOne
import Derived.Test.YtfakoalkbcnejaaDoorDrawMore
import Derived.Deep.CutBlock
namespace Go.Proofs.YtfakoalkbcnejaaDoor
open Go.RowKit
set_option linter.unusedVariables false

/-- While a question is drawn: the reader, the answer's cells, the question in the making. -/
structure LQ (w wx : World) (R : Nat) (a : Option Addr) (len cap p M : Nat) (k : Int) (f t : ByteArray) (lo hi : Int) : Prop where
  rd : Rd wx R a len cap p
  z : Blk wx w.heap.size #[.int .i64 0, .string ⟨#[]⟩, .string ⟨#[]⟩, .int .i64 0, .int .i64 0, .slice none 0 0] 29
  x : Blk wx M #[.int .i64 k, .string f, .string t, .int .i64 lo, .int .i64 hi, .slice none 0 0] 29
  grown : w.grownBy wx (some R)
  lt : R < w.heap.size
  le : w.heap.size < M
theorem LQ.read {w wx wy : World} {R : Nat} {a : Option Addr} {len cap p q M : Nat} {k lo hi : Int} {f t : ByteArray} (h : LQ w wx R a len cap p M k f t lo hi) (hg : wx.grownBy wy (some R)) (hR : Rd wy R a len cap q) : LQ w wy R a len cap q M k f t lo hi :=
  ⟨hR, h.z.grown hg (by have := h.lt; simp; omega), h.x.grown hg (by have := h.lt; have := h.le; simp; omega), grown_trans h.grown hg, h.lt, h.le⟩
theorem LQ.alloc {w wx : World} {R : Nat} {a : Option Addr} {len cap p M : Nat} {k lo hi : Int} {f t : ByteArray} (h : LQ w wx R a len cap p M k f t lo hi) (o : Obj) : LQ w (wx.alloc o) R a len cap p M k f t lo hi := h.read (grown_alloc _ _ _) (h.rd.alloc o)
theorem LQ.set {w wx : World} {R : Nat} {a : Option Addr} {len cap p M : Nat} {k lo hi k' lo' hi' : Int} {f t f' t' : ByteArray} (h : LQ w wx R a len cap p M k f t lo hi) (j : Nat) (v : Value) (he : #[.int .i64 k, .string f, .string t, .int .i64 lo, .int .i64 hi, .slice none 0 0].setIfInBounds j v = #[.int .i64 k', .string f', .string t', .int .i64 lo', .int .i64 hi', .slice none 0 0]) : LQ w (wx.setCell ⟨M, j, none⟩ v) R a len cap p M k' f' t' lo' hi' := by
  have hx := h.x.set j v
  rw [he] at hx
  have hRM : R ≠ M := by have := h.lt; have := h.le; omega
  exact ⟨(show Rd _ R a len cap p from (Below.heap_setCell _ _ _ _ hRM).trans h.rd), h.z.other (by have := h.le; simp; omega) v, hx, grown_own h.grown (grown_set wx M j v) (fun j hj => by cases hj; have := h.le; omega), h.lt, h.le⟩
theorem rd_sets {w : World} {R n : Nat} {a : Option Addr} {len cap : Nat} {p : Int} (h : Rd w R a len cap p) (hn : R < n) (v0 v1 v2 v3 v4 v5 : Value) : Rd ((((((w.setCell ⟨n, 0, none⟩ v0).setCell ⟨n, 1, none⟩ v1).setCell ⟨n, 2, none⟩ v2).setCell ⟨n, 3, none⟩ v3).setCell ⟨n, 4, none⟩ v4).setCell ⟨n, 5, none⟩ v5) R a len cap p := by
  have hne : ∀ j, R ≠ (⟨n, j, none⟩ : Addr).block := fun j => by show R ≠ n; omega
  unfold Rd at h ⊢
  rw [Below.heap_setCell _ _ _ _ (hne 5), Below.heap_setCell _ _ _ _ (hne 4), Below.heap_setCell _ _ _ _ (hne 3), Below.heap_setCell _ _ _ _ (hne 2), Below.heap_setCell _ _ _ _ (hne 1), Below.heap_setCell _ _ _ _ (hne 0)]
  exact h
theorem grown_sets {w wx : World} {R : Nat} (h : w.grownBy wx (some R)) (v0 v1 v2 v3 v4 v5 : Value) : w.grownBy ((((((wx.setCell ⟨w.heap.size, 0, none⟩ v0).setCell ⟨w.heap.size, 1, none⟩ v1).setCell ⟨w.heap.size, 2, none⟩ v2).setCell ⟨w.heap.size, 3, none⟩ v3).setCell ⟨w.heap.size, 4, none⟩ v4).setCell ⟨w.heap.size, 5, none⟩ v5) (some R) :=
  grown_own (grown_own (grown_own (grown_own (grown_own (grown_own h (grown_set _ w.heap.size 0 v0) (fun j e => by cases e; exact Nat.le_refl _)) (grown_set _ w.heap.size 1 v1) (fun j e => by cases e; exact Nat.le_refl _)) (grown_set _ w.heap.size 2 v2) (fun j e => by cases e; exact Nat.le_refl _)) (grown_set _ w.heap.size 3 v3) (fun j e => by cases e; exact Nat.le_refl _)) (grown_set _ w.heap.size 4 v4) (fun j e => by cases e; exact Nat.le_refl _)) (grown_set _ w.heap.size 5 v5) (fun j e => by cases e; exact Nat.le_refl _)
def ints8 : Array Value := #[.int .i64 1, .int .i64 2, .int .i64 2, .int .i64 2, .int .i64 3, .int .i64 4, .int .i64 5, .int .i64 6]
def intV : Value → Bool
  | .int .i64 _ => true
  | _ => false
theorem ints_new (w : World) (C : Array Value) (e : TypeId) (h : C.toList.all intV = true) : ∀ i, i < C.size → ∃ z, (w.alloc (.cells C e)).cell? ⟨w.heap.size, i, none⟩ = some (.int .i64 z) := fun i hi => by
  have h1 := List.all_eq_true.1 h C[i] (by simp)
  rw [World.cell?_alloc_new]
  cases hc : C[i] with
  | int k z =>
    rw [hc] at h1
    cases k with
    | i64 => exact ⟨z, by simp [hi, hc]⟩
    | _ => cases h1
  | _ => rw [hc] at h1; cases h1
set_option maxRecDepth 100000 in
set_option maxHeartbeats 8000000 in
theorem l11Leaf_any (R : Nat) (a : Option Addr) (len cap k0 : Nat) (fv : Value) (w : World) (hR : Rd w R a len cap k0) (hC : Code w R a len) (hk : k0 ≤ 900000) :
    Calls Tryd.prog 110 #[.pointer (some ⟨R, 0, none⟩), fv] w fun e w' => ∃ (k lo hi : Int) (f t : ByteArray) (p : Nat), e = .returned (.agg #[.int .i64 k, .string f, .string t, .int .i64 lo, .int .i64 hi, .slice none 0 0]) ∧ f.size ≤ 16 ∧ t.size ≤ 16 ∧ p ≤ k0 + 4 ∧ Rd w' R a len cap p ∧ w.grownBy w' (some R) := by
  have hlt := hR.lt
  have hRa := (hR.alloc (.cells #[.int .i64 0, .string ⟨#[]⟩, .string ⟨#[]⟩, .int .i64 0, .int .i64 0, .slice none 0 0] 29)).alloc (.cells ints8 3)
  have hga := grown_trans (grown_alloc w (.cells #[.int .i64 0, .string ⟨#[]⟩, .string ⟨#[]⟩, .int .i64 0, .int .i64 0, .slice none 0 0] 29) R) (grown_alloc _ (.cells ints8 3) R)
  have BZ := (Blk.new w #[.int .i64 0, .string ⟨#[]⟩, .string ⟨#[]⟩, .int .i64 0, .int .i64 0, .slice none 0 0] 29).alloc (.cells ints8 3)
  have SA := ints_new (w.alloc (.cells #[.int .i64 0, .string ⟨#[]⟩, .string ⟨#[]⟩, .int .i64 0, .int .i64 0, .slice none 0 0] 29)) ints8 3 (by decide)
  have HC : Hid (∀ wx, w.grownBy wx (some R) → Code wx R a len) := fun wx h => hC.kept h hlt
  clear hR hC
  go_enter Tryd.func110, Tryd.ntmps110
  go_wp2_with fail
  refine (one_any R (w.heap.size + 1) 8 a len cap k0 _ hRa (HC.out _ hga) (by omega) (by rw [show (w.alloc (.cells #[.int .i64 0, .string ⟨#[]⟩, .string ⟨#[]⟩, .int .i64 0, .int .i64 0, .slice none 0 0] 29)).heap.size = w.heap.size + 1 by simp] at SA; exact SA) (by decide) (by decide) (by omega)).mono ?_
  rintro e w2 ⟨kd, rfl, hR2, hg2⟩
  have hgw2 := grown_trans hga hg2
  have BZ2 := BZ.grown hg2 (by simp; omega)
  have hM : w.heap.size + 2 ≤ w2.heap.size := by have := hg2.size; simp at this; omega
  obtain ⟨M, hMe⟩ : ∃ M, w2.heap.size = M := ⟨_, rfl⟩
  have hq3 : LQ w (w2.alloc (.cells #[.int .i64 kd, .string ⟨#[]⟩, .string ⟨#[]⟩, .int .i64 0, .int .i64 0, .slice none 0 0] 29)) R a len cap (k0 + 1 : Nat) M kd ⟨#[]⟩ ⟨#[]⟩ 0 0 := ⟨hR2.alloc _, BZ2.alloc _, hMe ▸ Blk.new w2 _ _, grown_trans hgw2 (grown_alloc _ _ _), hlt, by omega⟩
  clear hRa hga BZ SA hR2 hg2 hgw2 BZ2
  go_upto_region 2 with fail
  obtain ⟨w3, hw3⟩ : ∃ w3, w2.alloc (.cells #[.int .i64 kd, .string ⟨#[]⟩, .string ⟨#[]⟩, .int .i64 0, .int .i64 0, .slice none 0 0] 29) = w3 := ⟨_, rfl⟩
  rw [hw3]
  rw [hw3] at hq3
  have HQ : Hid (LQ w w3 R a len cap (k0 + 1 : Nat) M kd ⟨#[]⟩ ⟨#[]⟩ 0 0) := hq3
  have x0 := hq3.x.cell 0
  have hl3 := hq3.x.lt
  simp at x0
  clear hw3 hMe hq3 hM
  by_cases h234 : kd = 2 ∨ kd = 3 ∨ kd = 4
  · rcases h234 with rfl | rfl | rfl
    · go_wp2_with fail
      refine (of_any R w3.heap.size 6 a len cap (k0 + 1) _ _ (HQ.out.rd.alloc _) (HC.out _ (grown_trans HQ.out.grown (grown_alloc _ _ _))) (by omega) (strs_new w3 _ _ 16 (by decide +kernel)) (by omega) (by omega) (by have := HQ.out.rd.lt; omega)).mono ?_
      rintro e w4 ⟨t, rfl, ht, hR4, hg4⟩
      have HQ4 : Hid (LQ w w4 R a len cap (k0 + 1 + 1 : Nat) M 2 ⟨#[]⟩ ⟨#[]⟩ 0 0) := (HQ.out.alloc _).read hg4 hR4
      have HQ5 : Hid (LQ w (w4.setCell ⟨M, 2, none⟩ (.string t)) R a len cap (k0 + 1 + 1 : Nat) M 2 ⟨#[]⟩ t 0 0) := HQ4.out.set 2 (.string t) rfl
      have y2 := HQ4.out.x.cell 2
      have g2 := HQ4.out.x.frozen 2
      have y0 := HQ4.out.x.cell 0
      have hr5 := HQ5.out.rd
      simp at y0 y2
      clear hR4 hg4 HQ HQ4
      go_wp2_with fail
      refine (pick_any R a len cap (k0 + 1 + 1) 3 _ hr5 (HC.out _ HQ5.out.grown) (by omega) (by decide) (by decide)).mono ?_
      rintro e w6 ⟨v, rfl, hv0, hv1, hR6, hg6⟩
      have HQ6 : Hid (LQ w w6 R a len cap (k0 + 1 + 1 + 1 : Nat) M 2 ⟨#[]⟩ t 0 0) := HQ5.out.read hg6 hR6
      clear y0 y2 g2 hr5 HQ5 hR6 hg6
      by_cases hv : v = 0
      · subst hv
        go_wp2_with fail
        refine (of_any R w6.heap.size 2 a len cap (k0 + 1 + 1 + 1) _ _ (HQ6.out.rd.alloc _) (HC.out _ (grown_trans HQ6.out.grown (grown_alloc _ _ _))) (by omega) (strs_new w6 _ _ 16 (by decide +kernel)) (by omega) (by omega) (by have := HQ6.out.rd.lt; omega)).mono ?_
        rintro e w8 ⟨fd, rfl, hfd, hR8, hg8⟩
        have HQ8 : Hid (LQ w w8 R a len cap (k0 + 1 + 1 + 1 + 1 : Nat) M 2 ⟨#[]⟩ t 0 0) := (HQ6.out.alloc _).read hg8 hR8
        have HQ9 : Hid (LQ w (w8.setCell ⟨M, 1, none⟩ (.string fd)) R a len cap (k0 + 1 + 1 + 1 + 1 : Nat) M 2 fd t 0 0) := HQ8.out.set 1 (.string fd) rfl
        have g1 := HQ8.out.x.frozen 1
        clear hR8 hg8 HQ6
        have X := HQ8.out.x
        have Z := HQ8.out.z
        have x0 := X.cell 0
        have x1 := X.cell 1
        have x2 := X.cell 2
        have x3 := X.cell 3
        have x4 := X.cell 4
        have x5 := X.cell 5
        have z0 := Z.cell 0
        have z1 := Z.cell 1
        have z2 := Z.cell 2
        have z3 := Z.cell 3
        have z4 := Z.cell 4
        have z5 := Z.cell 5
        have f0 := Z.frozen 0
        have f1 := Z.frozen 1
        have f2 := Z.frozen 2
        have f3 := Z.frozen 3
        have f4 := Z.frozen 4
        have f5 := Z.frozen 5
        have hMn : ¬ w.heap.size = M := by have := HQ9.out.le; omega
        have hnM : ¬ M = w.heap.size := by have := HQ9.out.le; omega
        have hqr := rd_sets HQ9.out.rd HQ9.out.lt (.int .i64 2) (.string fd) (.string t) (.int .i64 0) (.int .i64 0) (.slice none 0 0)
        have hqg := grown_sets HQ9.out.grown (.int .i64 2) (.string fd) (.string t) (.int .i64 0) (.int .i64 0) (.slice none 0 0)
        have HQR : Hid _ := hqr
        have HQG : Hid _ := hqg
        simp at x0 x1 x2 x3 x4 x5 z0 z1 z2 z3 z4 z5
        clear X Z hqr hqg
        go_wp2
        refine bodyPost_ret (v := .agg #[.int .i64 2, .string fd, .string t, .int .i64 0, .int .i64 0, .slice none 0 0]) (by simp [results, Tryd.results110, go_sem, z0, z1, z2, z3, z4, z5]) rfl ⟨2, 0, 0, fd, t, k0 + 1 + 1 + 1 + 1, rfl, hfd, ht, by omega, HQR.out, HQG.out⟩
      · have hvb : (v == 0) = false := beq_eq_false_iff_ne.2 hv
        have X := HQ6.out.x
        have Z := HQ6.out.z
        have x0 := X.cell 0
        have x1 := X.cell 1
        have x2 := X.cell 2
        have x3 := X.cell 3
        have x4 := X.cell 4
        have x5 := X.cell 5
        have z0 := Z.cell 0
        have z1 := Z.cell 1
        have z2 := Z.cell 2
        have z3 := Z.cell 3
        have z4 := Z.cell 4
        have z5 := Z.cell 5
        have f0 := Z.frozen 0
        have f1 := Z.frozen 1
        have f2 := Z.frozen 2
        have f3 := Z.frozen 3
        have f4 := Z.frozen 4
        have f5 := Z.frozen 5
        have hMn : ¬ w.heap.size = M := by have := HQ6.out.le; omega
        have hnM : ¬ M = w.heap.size := by have := HQ6.out.le; omega
        have hqr := rd_sets HQ6.out.rd HQ6.out.lt (.int .i64 2) (.string ⟨#[]⟩) (.string t) (.int .i64 0) (.int .i64 0) (.slice none 0 0)
        have hqg := grown_sets HQ6.out.grown (.int .i64 2) (.string ⟨#[]⟩) (.string t) (.int .i64 0) (.int .i64 0) (.slice none 0 0)
        have HQR : Hid _ := hqr
        have HQG : Hid _ := hqg
        simp at x0 x1 x2 x3 x4 x5 z0 z1 z2 z3 z4 z5
        clear X Z hqr hqg
        go_wp2
        refine bodyPost_ret (v := .agg #[.int .i64 2, .string ⟨#[]⟩, .string t, .int .i64 0, .int .i64 0, .slice none 0 0]) (by simp [results, Tryd.results110, go_sem, z0, z1, z2, z3, z4, z5]) rfl ⟨2, 0, 0, ⟨#[]⟩, t, k0 + 1 + 1 + 1, rfl, by decide, ht, by omega, HQR.out, HQG.out⟩
    · go_wp2_with fail
      refine (of_any R w3.heap.size 5 a len cap (k0 + 1) _ _ (HQ.out.rd.alloc _) (HC.out _ (grown_trans HQ.out.grown (grown_alloc _ _ _))) (by omega) (strs_new w3 _ _ 16 (by decide +kernel)) (by omega) (by omega) (by have := HQ.out.rd.lt; omega)).mono ?_
      rintro e w4 ⟨t, rfl, ht, hR4, hg4⟩
      have HQ4 : Hid (LQ w w4 R a len cap (k0 + 1 + 1 : Nat) M 3 ⟨#[]⟩ ⟨#[]⟩ 0 0) := (HQ.out.alloc _).read hg4 hR4
      have HQ5 : Hid (LQ w (w4.setCell ⟨M, 2, none⟩ (.string t)) R a len cap (k0 + 1 + 1 : Nat) M 3 ⟨#[]⟩ t 0 0) := HQ4.out.set 2 (.string t) rfl
      have y2 := HQ4.out.x.cell 2
      have g2 := HQ4.out.x.frozen 2
      have y0 := HQ4.out.x.cell 0
      have hr5 := HQ5.out.rd
      simp at y0 y2
      clear hR4 hg4 HQ HQ4
      go_wp2_with fail
      refine (pick_any R a len cap (k0 + 1 + 1) 3 _ hr5 (HC.out _ HQ5.out.grown) (by omega) (by decide) (by decide)).mono ?_
      rintro e w6 ⟨v, rfl, hv0, hv1, hR6, hg6⟩
      have HQ6 : Hid (LQ w w6 R a len cap (k0 + 1 + 1 + 1 : Nat) M 3 ⟨#[]⟩ t 0 0) := HQ5.out.read hg6 hR6
      clear y0 y2 g2 hr5 HQ5 hR6 hg6
      by_cases hv : v = 0
      · subst hv
        go_wp2_with fail
        refine (of_any R w6.heap.size 2 a len cap (k0 + 1 + 1 + 1) _ _ (HQ6.out.rd.alloc _) (HC.out _ (grown_trans HQ6.out.grown (grown_alloc _ _ _))) (by omega) (strs_new w6 _ _ 16 (by decide +kernel)) (by omega) (by omega) (by have := HQ6.out.rd.lt; omega)).mono ?_
        rintro e w8 ⟨fd, rfl, hfd, hR8, hg8⟩
        have HQ8 : Hid (LQ w w8 R a len cap (k0 + 1 + 1 + 1 + 1 : Nat) M 3 ⟨#[]⟩ t 0 0) := (HQ6.out.alloc _).read hg8 hR8
        have HQ9 : Hid (LQ w (w8.setCell ⟨M, 1, none⟩ (.string fd)) R a len cap (k0 + 1 + 1 + 1 + 1 : Nat) M 3 fd t 0 0) := HQ8.out.set 1 (.string fd) rfl
        have g1 := HQ8.out.x.frozen 1
        clear hR8 hg8 HQ6
        have X := HQ8.out.x
        have Z := HQ8.out.z
        have x0 := X.cell 0
        have x1 := X.cell 1
        have x2 := X.cell 2
        have x3 := X.cell 3
        have x4 := X.cell 4
        have x5 := X.cell 5
        have z0 := Z.cell 0
        have z1 := Z.cell 1
        have z2 := Z.cell 2
        have z3 := Z.cell 3
        have z4 := Z.cell 4
        have z5 := Z.cell 5
        have f0 := Z.frozen 0
        have f1 := Z.frozen 1
        have f2 := Z.frozen 2
        have f3 := Z.frozen 3
        have f4 := Z.frozen 4
        have f5 := Z.frozen 5
        have hMn : ¬ w.heap.size = M := by have := HQ9.out.le; omega
        have hnM : ¬ M = w.heap.size := by have := HQ9.out.le; omega
        have hqr := rd_sets HQ9.out.rd HQ9.out.lt (.int .i64 3) (.string fd) (.string t) (.int .i64 0) (.int .i64 0) (.slice none 0 0)
        have hqg := grown_sets HQ9.out.grown (.int .i64 3) (.string fd) (.string t) (.int .i64 0) (.int .i64 0) (.slice none 0 0)
        have HQR : Hid _ := hqr
        have HQG : Hid _ := hqg
        simp at x0 x1 x2 x3 x4 x5 z0 z1 z2 z3 z4 z5
        clear X Z hqr hqg
        go_wp2
        refine bodyPost_ret (v := .agg #[.int .i64 3, .string fd, .string t, .int .i64 0, .int .i64 0, .slice none 0 0]) (by simp [results, Tryd.results110, go_sem, z0, z1, z2, z3, z4, z5]) rfl ⟨3, 0, 0, fd, t, k0 + 1 + 1 + 1 + 1, rfl, hfd, ht, by omega, HQR.out, HQG.out⟩
      · have hvb : (v == 0) = false := beq_eq_false_iff_ne.2 hv
        have X := HQ6.out.x
        have Z := HQ6.out.z
        have x0 := X.cell 0
        have x1 := X.cell 1
        have x2 := X.cell 2
        have x3 := X.cell 3
        have x4 := X.cell 4
        have x5 := X.cell 5
        have z0 := Z.cell 0
        have z1 := Z.cell 1
        have z2 := Z.cell 2
        have z3 := Z.cell 3
        have z4 := Z.cell 4
        have z5 := Z.cell 5
        have f0 := Z.frozen 0
        have f1 := Z.frozen 1
        have f2 := Z.frozen 2
        have f3 := Z.frozen 3
        have f4 := Z.frozen 4
        have f5 := Z.frozen 5
        have hMn : ¬ w.heap.size = M := by have := HQ6.out.le; omega
        have hnM : ¬ M = w.heap.size := by have := HQ6.out.le; omega
        have hqr := rd_sets HQ6.out.rd HQ6.out.lt (.int .i64 3) (.string ⟨#[]⟩) (.string t) (.int .i64 0) (.int .i64 0) (.slice none 0 0)
        have hqg := grown_sets HQ6.out.grown (.int .i64 3) (.string ⟨#[]⟩) (.string t) (.int .i64 0) (.int .i64 0) (.slice none 0 0)
        have HQR : Hid _ := hqr
        have HQG : Hid _ := hqg
        simp at x0 x1 x2 x3 x4 x5 z0 z1 z2 z3 z4 z5
        clear X Z hqr hqg
        go_wp2
        refine bodyPost_ret (v := .agg #[.int .i64 3, .string ⟨#[]⟩, .string t, .int .i64 0, .int .i64 0, .slice none 0 0]) (by simp [results, Tryd.results110, go_sem, z0, z1, z2, z3, z4, z5]) rfl ⟨3, 0, 0, ⟨#[]⟩, t, k0 + 1 + 1 + 1, rfl, by decide, ht, by omega, HQR.out, HQG.out⟩
    · go_wp2_with fail
      refine (of_any R w3.heap.size 5 a len cap (k0 + 1) _ _ (HQ.out.rd.alloc _) (HC.out _ (grown_trans HQ.out.grown (grown_alloc _ _ _))) (by omega) (strs_new w3 _ _ 16 (by decide +kernel)) (by omega) (by omega) (by have := HQ.out.rd.lt; omega)).mono ?_
      rintro e w4 ⟨t, rfl, ht, hR4, hg4⟩
      have HQ4 : Hid (LQ w w4 R a len cap (k0 + 1 + 1 : Nat) M 4 ⟨#[]⟩ ⟨#[]⟩ 0 0) := (HQ.out.alloc _).read hg4 hR4
      have HQ5 : Hid (LQ w (w4.setCell ⟨M, 2, none⟩ (.string t)) R a len cap (k0 + 1 + 1 : Nat) M 4 ⟨#[]⟩ t 0 0) := HQ4.out.set 2 (.string t) rfl
      have y2 := HQ4.out.x.cell 2
      have g2 := HQ4.out.x.frozen 2
      have y0 := HQ4.out.x.cell 0
      have hr5 := HQ5.out.rd
      simp at y0 y2
      clear hR4 hg4 HQ HQ4
      go_wp2_with fail
      refine (pick_any R a len cap (k0 + 1 + 1) 3 _ hr5 (HC.out _ HQ5.out.grown) (by omega) (by decide) (by decide)).mono ?_
      rintro e w6 ⟨v, rfl, hv0, hv1, hR6, hg6⟩
      have HQ6 : Hid (LQ w w6 R a len cap (k0 + 1 + 1 + 1 : Nat) M 4 ⟨#[]⟩ t 0 0) := HQ5.out.read hg6 hR6
      clear y0 y2 g2 hr5 HQ5 hR6 hg6
      by_cases hv : v = 0
      · subst hv
        go_wp2_with fail
        refine (of_any R w6.heap.size 2 a len cap (k0 + 1 + 1 + 1) _ _ (HQ6.out.rd.alloc _) (HC.out _ (grown_trans HQ6.out.grown (grown_alloc _ _ _))) (by omega) (strs_new w6 _ _ 16 (by decide +kernel)) (by omega) (by omega) (by have := HQ6.out.rd.lt; omega)).mono ?_
        rintro e w8 ⟨fd, rfl, hfd, hR8, hg8⟩
        have HQ8 : Hid (LQ w w8 R a len cap (k0 + 1 + 1 + 1 + 1 : Nat) M 4 ⟨#[]⟩ t 0 0) := (HQ6.out.alloc _).read hg8 hR8
        have HQ9 : Hid (LQ w (w8.setCell ⟨M, 1, none⟩ (.string fd)) R a len cap (k0 + 1 + 1 + 1 + 1 : Nat) M 4 fd t 0 0) := HQ8.out.set 1 (.string fd) rfl
        have g1 := HQ8.out.x.frozen 1
        clear hR8 hg8 HQ6
        have X := HQ8.out.x
        have Z := HQ8.out.z
        have x0 := X.cell 0
        have x1 := X.cell 1
        have x2 := X.cell 2
        have x3 := X.cell 3
        have x4 := X.cell 4
        have x5 := X.cell 5
        have z0 := Z.cell 0
        have z1 := Z.cell 1
        have z2 := Z.cell 2
        have z3 := Z.cell 3
        have z4 := Z.cell 4
        have z5 := Z.cell 5
        have f0 := Z.frozen 0
        have f1 := Z.frozen 1
        have f2 := Z.frozen 2
        have f3 := Z.frozen 3
        have f4 := Z.frozen 4
        have f5 := Z.frozen 5
        have hMn : ¬ w.heap.size = M := by have := HQ9.out.le; omega
        have hnM : ¬ M = w.heap.size := by have := HQ9.out.le; omega
        have hqr := rd_sets HQ9.out.rd HQ9.out.lt (.int .i64 4) (.string fd) (.string t) (.int .i64 0) (.int .i64 0) (.slice none 0 0)
        have hqg := grown_sets HQ9.out.grown (.int .i64 4) (.string fd) (.string t) (.int .i64 0) (.int .i64 0) (.slice none 0 0)
        have HQR : Hid _ := hqr
        have HQG : Hid _ := hqg
        simp at x0 x1 x2 x3 x4 x5 z0 z1 z2 z3 z4 z5
        clear X Z hqr hqg
        go_wp2
        refine bodyPost_ret (v := .agg #[.int .i64 4, .string fd, .string t, .int .i64 0, .int .i64 0, .slice none 0 0]) (by simp [results, Tryd.results110, go_sem, z0, z1, z2, z3, z4, z5]) rfl ⟨4, 0, 0, fd, t, k0 + 1 + 1 + 1 + 1, rfl, hfd, ht, by omega, HQR.out, HQG.out⟩
      · have hvb : (v == 0) = false := beq_eq_false_iff_ne.2 hv
        have X := HQ6.out.x
        have Z := HQ6.out.z
        have x0 := X.cell 0
        have x1 := X.cell 1
        have x2 := X.cell 2
        have x3 := X.cell 3
        have x4 := X.cell 4
        have x5 := X.cell 5
        have z0 := Z.cell 0
        have z1 := Z.cell 1
        have z2 := Z.cell 2
        have z3 := Z.cell 3
        have z4 := Z.cell 4
        have z5 := Z.cell 5
        have f0 := Z.frozen 0
        have f1 := Z.frozen 1
        have f2 := Z.frozen 2
        have f3 := Z.frozen 3
        have f4 := Z.frozen 4
        have f5 := Z.frozen 5
        have hMn : ¬ w.heap.size = M := by have := HQ6.out.le; omega
        have hnM : ¬ M = w.heap.size := by have := HQ6.out.le; omega
        have hqr := rd_sets HQ6.out.rd HQ6.out.lt (.int .i64 4) (.string ⟨#[]⟩) (.string t) (.int .i64 0) (.int .i64 0) (.slice none 0 0)
        have hqg := grown_sets HQ6.out.grown (.int .i64 4) (.string ⟨#[]⟩) (.string t) (.int .i64 0) (.int .i64 0) (.slice none 0 0)
        have HQR : Hid _ := hqr
        have HQG : Hid _ := hqg
        simp at x0 x1 x2 x3 x4 x5 z0 z1 z2 z3 z4 z5
        clear X Z hqr hqg
        go_wp2
        refine bodyPost_ret (v := .agg #[.int .i64 4, .string ⟨#[]⟩, .string t, .int .i64 0, .int .i64 0, .slice none 0 0]) (by simp [results, Tryd.results110, go_sem, z0, z1, z2, z3, z4, z5]) rfl ⟨4, 0, 0, ⟨#[]⟩, t, k0 + 1 + 1 + 1, rfl, by decide, ht, by omega, HQR.out, HQG.out⟩
  have h2b : (kd == 2) = false := beq_eq_false_iff_ne.2 (by omega)
  have h3b : (kd == 3) = false := beq_eq_false_iff_ne.2 (by omega)
  have h4b : (kd == 4) = false := beq_eq_false_iff_ne.2 (by omega)
  by_cases h5 : kd = 5
  · subst h5
    have y1 := HQ.out.x.cell 1
    have g1 := HQ.out.x.frozen 1
    simp at y1
    go_upto_region 11 with fail
    have hq4 : LQ w (w3.setCell ⟨M, 1, none⟩ (.string ⟨#[112, 114, 105, 99, 101]⟩)) R a len cap (k0 + 1 : Nat) M 5 ⟨#[112, 114, 105, 99, 101]⟩ ⟨#[]⟩ 0 0 := HQ.out.set 1 _ rfl
    obtain ⟨w4, hw4⟩ : ∃ w4, w3.setCell ⟨M, 1, none⟩ (.string ⟨#[112, 114, 105, 99, 101]⟩) = w4 := ⟨_, rfl⟩
    rw [hw4] at hq4 ⊢
    have HQ4 : Hid (LQ w w4 R a len cap (k0 + 1 : Nat) M 5 ⟨#[112, 114, 105, 99, 101]⟩ ⟨#[]⟩ 0 0) := hq4
    clear hw4 hq4 y1 g1 HQ x0 hl3
    go_wp2_with fail
    refine (one_any R w4.heap.size 4 a len cap (k0 + 1) _ (HQ4.out.rd.alloc _) (HC.out _ (grown_trans HQ4.out.grown (grown_alloc _ _ _))) (by omega) (ints_new w4 #[.int .i64 (-5), .int .i64 0, .int .i64 5, .int .i64 6] 3 (by decide +kernel)) (by omega) (by omega) (by have := HQ4.out.rd.lt; omega)).mono ?_
    rintro e w5 ⟨lo, rfl, hR5, hg5⟩
    have HQ5 : Hid (LQ w w5 R a len cap (k0 + 1 + 1 : Nat) M 5 ⟨#[112, 114, 105, 99, 101]⟩ ⟨#[]⟩ 0 0) := (HQ4.out.alloc _).read hg5 hR5
    have y3 := HQ5.out.x.cell 3
    have g3 := HQ5.out.x.frozen 3
    simp at y3
    clear HQ4 hR5 hg5
    go_upto_region 12 with fail
    have hq6 : LQ w (w5.setCell ⟨M, 3, none⟩ (.int .i64 lo)) R a len cap (k0 + 1 + 1 : Nat) M 5 ⟨#[112, 114, 105, 99, 101]⟩ ⟨#[]⟩ lo 0 := HQ5.out.set 3 _ rfl
    obtain ⟨w6, hw6⟩ : ∃ w6, w5.setCell ⟨M, 3, none⟩ (.int .i64 lo) = w6 := ⟨_, rfl⟩
    rw [hw6] at hq6 ⊢
    have HQ6 : Hid (LQ w w6 R a len cap (k0 + 1 + 1 : Nat) M 5 ⟨#[112, 114, 105, 99, 101]⟩ ⟨#[]⟩ lo 0) := hq6
    clear hw6 hq6 y3 g3 HQ5
    go_wp2_with fail
    refine (one_any R w6.heap.size 5 a len cap (k0 + 1 + 1) _ (HQ6.out.rd.alloc _) (HC.out _ (grown_trans HQ6.out.grown (grown_alloc _ _ _))) (by omega) (ints_new w6 #[.int .i64 (-3), .int .i64 0, .int .i64 5, .int .i64 12, .int .i64 999999999] 3 (by decide +kernel)) (by omega) (by omega) (by have := HQ6.out.rd.lt; omega)).mono ?_
    rintro e w7 ⟨hi, rfl, hR7, hg7⟩
    have HQ7 : Hid (LQ w w7 R a len cap (k0 + 1 + 1 + 1 : Nat) M 5 ⟨#[112, 114, 105, 99, 101]⟩ ⟨#[]⟩ lo 0) := (HQ6.out.alloc _).read hg7 hR7
    have HQ8 : Hid (LQ w (w7.setCell ⟨M, 4, none⟩ (.int .i64 hi)) R a len cap (k0 + 1 + 1 + 1 : Nat) M 5 ⟨#[112, 114, 105, 99, 101]⟩ ⟨#[]⟩ lo hi) := HQ7.out.set 4 _ rfl
    have g4 := HQ7.out.x.frozen 4
    clear HQ6 hR7 hg7
    have X := HQ7.out.x
    have Z := HQ7.out.z
    have x0 := X.cell 0
    have x1 := X.cell 1
    have x2 := X.cell 2
    have x3 := X.cell 3
    have x4 := X.cell 4
    have x5 := X.cell 5
    have z0 := Z.cell 0
    have z1 := Z.cell 1
    have z2 := Z.cell 2
    have z3 := Z.cell 3
    have z4 := Z.cell 4
    have z5 := Z.cell 5
    have f0 := Z.frozen 0
    have f1 := Z.frozen 1
    have f2 := Z.frozen 2
    have f3 := Z.frozen 3
    have f4 := Z.frozen 4
    have f5 := Z.frozen 5
    have hMn : ¬ w.heap.size = M := by have := HQ8.out.le; omega
    have hnM : ¬ M = w.heap.size := by have := HQ8.out.le; omega
    have hqr := rd_sets HQ8.out.rd HQ8.out.lt (.int .i64 5) (.string ⟨#[112, 114, 105, 99, 101]⟩) (.string ⟨#[]⟩) (.int .i64 lo) (.int .i64 hi) (.slice none 0 0)
    have hqg := grown_sets HQ8.out.grown (.int .i64 5) (.string ⟨#[112, 114, 105, 99, 101]⟩) (.string ⟨#[]⟩) (.int .i64 lo) (.int .i64 hi) (.slice none 0 0)
    have HQR : Hid _ := hqr
    have HQG : Hid _ := hqg
    simp at x0 x1 x2 x3 x4 x5 z0 z1 z2 z3 z4 z5
    clear X Z hqr hqg
    go_wp2
    refine bodyPost_ret (v := .agg #[.int .i64 5, .string ⟨#[112, 114, 105, 99, 101]⟩, .string ⟨#[]⟩, .int .i64 lo, .int .i64 hi, .slice none 0 0]) (by simp [results, Tryd.results110, go_sem, z0, z1, z2, z3, z4, z5]) rfl ⟨5, lo, hi, ⟨#[112, 114, 105, 99, 101]⟩, ⟨#[]⟩, k0 + 1 + 1 + 1, rfl, by decide, by decide, by omega, HQR.out, HQG.out⟩
  have h5b : (kd == 5) = false := beq_eq_false_iff_ne.2 h5
  by_cases h6 : kd = 6
  · subst h6
    have y1 := HQ.out.x.cell 1
    have g1 := HQ.out.x.frozen 1
    simp at y1
    go_upto_region 16 with fail
    have hq4 : LQ w (w3.setCell ⟨M, 1, none⟩ (.string ⟨#[99, 111, 108, 111, 114]⟩)) R a len cap (k0 + 1 : Nat) M 6 ⟨#[99, 111, 108, 111, 114]⟩ ⟨#[]⟩ 0 0 := HQ.out.set 1 _ rfl
    obtain ⟨w4, hw4⟩ : ∃ w4, w3.setCell ⟨M, 1, none⟩ (.string ⟨#[99, 111, 108, 111, 114]⟩) = w4 := ⟨_, rfl⟩
    rw [hw4] at hq4 ⊢
    have HQ4 : Hid (LQ w w4 R a len cap (k0 + 1 : Nat) M 6 ⟨#[99, 111, 108, 111, 114]⟩ ⟨#[]⟩ 0 0) := hq4
    clear hw4 hq4 y1 g1 HQ x0 hl3
    go_wp2_with fail
    refine (of_any R w4.heap.size 3 a len cap (k0 + 1) _ _ (HQ4.out.rd.alloc _) (HC.out _ (grown_trans HQ4.out.grown (grown_alloc _ _ _))) (by omega) (strs_new w4 _ _ 16 (by decide +kernel)) (by omega) (by omega) (by have := HQ4.out.rd.lt; omega)).mono ?_
    rintro e w5 ⟨t, rfl, ht, hR5, hg5⟩
    have HQ5 : Hid (LQ w w5 R a len cap (k0 + 1 + 1 : Nat) M 6 ⟨#[99, 111, 108, 111, 114]⟩ ⟨#[]⟩ 0 0) := (HQ4.out.alloc _).read hg5 hR5
    have HQ6 : Hid (LQ w (w5.setCell ⟨M, 2, none⟩ (.string t)) R a len cap (k0 + 1 + 1 : Nat) M 6 ⟨#[99, 111, 108, 111, 114]⟩ t 0 0) := HQ5.out.set 2 _ rfl
    have g2 := HQ5.out.x.frozen 2
    clear HQ4 hR5 hg5
    have X := HQ5.out.x
    have Z := HQ5.out.z
    have x0 := X.cell 0
    have x1 := X.cell 1
    have x2 := X.cell 2
    have x3 := X.cell 3
    have x4 := X.cell 4
    have x5 := X.cell 5
    have z0 := Z.cell 0
    have z1 := Z.cell 1
    have z2 := Z.cell 2
    have z3 := Z.cell 3
    have z4 := Z.cell 4
    have z5 := Z.cell 5
    have f0 := Z.frozen 0
    have f1 := Z.frozen 1
    have f2 := Z.frozen 2
    have f3 := Z.frozen 3
    have f4 := Z.frozen 4
    have f5 := Z.frozen 5
    have hMn : ¬ w.heap.size = M := by have := HQ6.out.le; omega
    have hnM : ¬ M = w.heap.size := by have := HQ6.out.le; omega
    have hqr := rd_sets HQ6.out.rd HQ6.out.lt (.int .i64 6) (.string ⟨#[99, 111, 108, 111, 114]⟩) (.string t) (.int .i64 0) (.int .i64 0) (.slice none 0 0)
    have hqg := grown_sets HQ6.out.grown (.int .i64 6) (.string ⟨#[99, 111, 108, 111, 114]⟩) (.string t) (.int .i64 0) (.int .i64 0) (.slice none 0 0)
    have HQR : Hid _ := hqr
    have HQG : Hid _ := hqg
    simp at x0 x1 x2 x3 x4 x5 z0 z1 z2 z3 z4 z5
    clear X Z hqr hqg
    go_wp2
    refine bodyPost_ret (v := .agg #[.int .i64 6, .string ⟨#[99, 111, 108, 111, 114]⟩, .string t, .int .i64 0, .int .i64 0, .slice none 0 0]) (by simp [results, Tryd.results110, go_sem, z0, z1, z2, z3, z4, z5]) rfl ⟨6, 0, 0, ⟨#[99, 111, 108, 111, 114]⟩, t, k0 + 1 + 1, rfl, by decide, ht, by omega, HQR.out, HQG.out⟩
  have h6b : (kd == 6) = false := beq_eq_false_iff_ne.2 h6
  by_cases h1 : kd = 1
  · subst h1
    have X := HQ.out.x
    have Z := HQ.out.z
    have x0 := X.cell 0
    have x1 := X.cell 1
    have x2 := X.cell 2
    have x3 := X.cell 3
    have x4 := X.cell 4
    have x5 := X.cell 5
    have z0 := Z.cell 0
    have z1 := Z.cell 1
    have z2 := Z.cell 2
    have z3 := Z.cell 3
    have z4 := Z.cell 4
    have z5 := Z.cell 5
    have f0 := Z.frozen 0
    have f1 := Z.frozen 1
    have f2 := Z.frozen 2
    have f3 := Z.frozen 3
    have f4 := Z.frozen 4
    have f5 := Z.frozen 5
    have hMn : ¬ w.heap.size = M := by have := HQ.out.le; omega
    have hnM : ¬ M = w.heap.size := by have := HQ.out.le; omega
    have hqr := rd_sets HQ.out.rd HQ.out.lt (.int .i64 1) (.string ⟨#[]⟩) (.string ⟨#[]⟩) (.int .i64 0) (.int .i64 0) (.slice none 0 0)
    have hqg := grown_sets HQ.out.grown (.int .i64 1) (.string ⟨#[]⟩) (.string ⟨#[]⟩) (.int .i64 0) (.int .i64 0) (.slice none 0 0)
    have HQR : Hid _ := hqr
    have HQG : Hid _ := hqg
    simp at x0 x1 x2 x3 x4 x5 z0 z1 z2 z3 z4 z5
    clear X Z hqr hqg
    go_wp2
    refine bodyPost_ret (v := .agg #[.int .i64 1, .string ⟨#[]⟩, .string ⟨#[]⟩, .int .i64 0, .int .i64 0, .slice none 0 0]) (by simp [results, Tryd.results110, go_sem, z0, z1, z2, z3, z4, z5]) rfl ⟨1, 0, 0, ⟨#[]⟩, ⟨#[]⟩, k0 + 1, rfl, by decide, by decide, by omega, HQR.out, HQG.out⟩
  have h1b : (kd != 1) = true := bne_iff_ne.2 h1
  have hr3 := HQ.out.rd
  go_wp2_with fail
  refine (pick_any R a len cap (k0 + 1) 3 _ hr3 (HC.out _ HQ.out.grown) (by omega) (by decide) (by decide)).mono ?_
  rintro e w6 ⟨v, rfl, hv0, hv1, hR6, hg6⟩
  have HQ6 : Hid (LQ w w6 R a len cap (k0 + 1 + 1 : Nat) M kd ⟨#[]⟩ ⟨#[]⟩ 0 0) := HQ.out.read hg6 hR6
  clear x0 hr3 hl3 HQ hR6 hg6
  by_cases hv : v = 0
  · subst hv
    go_wp2_with fail
    refine (of_any R w6.heap.size 2 a len cap (k0 + 1 + 1) _ _ (HQ6.out.rd.alloc _) (HC.out _ (grown_trans HQ6.out.grown (grown_alloc _ _ _))) (by omega) (strs_new w6 _ _ 16 (by decide +kernel)) (by omega) (by omega) (by have := HQ6.out.rd.lt; omega)).mono ?_
    rintro e w8 ⟨fd, rfl, hfd, hR8, hg8⟩
    have HQ8 : Hid (LQ w w8 R a len cap (k0 + 1 + 1 + 1 : Nat) M kd ⟨#[]⟩ ⟨#[]⟩ 0 0) := (HQ6.out.alloc _).read hg8 hR8
    have HQ9 : Hid (LQ w (w8.setCell ⟨M, 1, none⟩ (.string fd)) R a len cap (k0 + 1 + 1 + 1 : Nat) M kd fd ⟨#[]⟩ 0 0) := HQ8.out.set 1 (.string fd) rfl
    have g1 := HQ8.out.x.frozen 1
    clear hR8 hg8 HQ6
    have X := HQ8.out.x
    have Z := HQ8.out.z
    have x0 := X.cell 0
    have x1 := X.cell 1
    have x2 := X.cell 2
    have x3 := X.cell 3
    have x4 := X.cell 4
    have x5 := X.cell 5
    have z0 := Z.cell 0
    have z1 := Z.cell 1
    have z2 := Z.cell 2
    have z3 := Z.cell 3
    have z4 := Z.cell 4
    have z5 := Z.cell 5
    have f0 := Z.frozen 0
    have f1 := Z.frozen 1
    have f2 := Z.frozen 2
    have f3 := Z.frozen 3
    have f4 := Z.frozen 4
    have f5 := Z.frozen 5
    have hMn : ¬ w.heap.size = M := by have := HQ9.out.le; omega
    have hnM : ¬ M = w.heap.size := by have := HQ9.out.le; omega
    have hqr := rd_sets HQ9.out.rd HQ9.out.lt (.int .i64 kd) (.string fd) (.string ⟨#[]⟩) (.int .i64 0) (.int .i64 0) (.slice none 0 0)
    have hqg := grown_sets HQ9.out.grown (.int .i64 kd) (.string fd) (.string ⟨#[]⟩) (.int .i64 0) (.int .i64 0) (.slice none 0 0)
    have HQR : Hid _ := hqr
    have HQG : Hid _ := hqg
    simp at x0 x1 x2 x3 x4 x5 z0 z1 z2 z3 z4 z5
    clear X Z hqr hqg
    go_wp2
    refine bodyPost_ret (v := .agg #[.int .i64 kd, .string fd, .string ⟨#[]⟩, .int .i64 0, .int .i64 0, .slice none 0 0]) (by simp [results, Tryd.results110, go_sem, z0, z1, z2, z3, z4, z5]) rfl ⟨kd, 0, 0, fd, ⟨#[]⟩, k0 + 1 + 1 + 1, rfl, hfd, by decide, by omega, HQR.out, HQG.out⟩
  · have hvb : (v == 0) = false := beq_eq_false_iff_ne.2 hv
    have X := HQ6.out.x
    have Z := HQ6.out.z
    have x0 := X.cell 0
    have x1 := X.cell 1
    have x2 := X.cell 2
    have x3 := X.cell 3
    have x4 := X.cell 4
    have x5 := X.cell 5
    have z0 := Z.cell 0
    have z1 := Z.cell 1
    have z2 := Z.cell 2
    have z3 := Z.cell 3
    have z4 := Z.cell 4
    have z5 := Z.cell 5
    have f0 := Z.frozen 0
    have f1 := Z.frozen 1
    have f2 := Z.frozen 2
    have f3 := Z.frozen 3
    have f4 := Z.frozen 4
    have f5 := Z.frozen 5
    have hMn : ¬ w.heap.size = M := by have := HQ6.out.le; omega
    have hnM : ¬ M = w.heap.size := by have := HQ6.out.le; omega
    have hqr := rd_sets HQ6.out.rd HQ6.out.lt (.int .i64 kd) (.string ⟨#[]⟩) (.string ⟨#[]⟩) (.int .i64 0) (.int .i64 0) (.slice none 0 0)
    have hqg := grown_sets HQ6.out.grown (.int .i64 kd) (.string ⟨#[]⟩) (.string ⟨#[]⟩) (.int .i64 0) (.int .i64 0) (.slice none 0 0)
    have HQR : Hid _ := hqr
    have HQG : Hid _ := hqg
    simp at x0 x1 x2 x3 x4 x5 z0 z1 z2 z3 z4 z5
    clear X Z hqr hqg
    go_wp2
    refine bodyPost_ret (v := .agg #[.int .i64 kd, .string ⟨#[]⟩, .string ⟨#[]⟩, .int .i64 0, .int .i64 0, .slice none 0 0]) (by simp [results, Tryd.results110, go_sem, z0, z1, z2, z3, z4, z5]) rfl ⟨kd, 0, 0, ⟨#[]⟩, ⟨#[]⟩, k0 + 1 + 1, rfl, by decide, by decide, by omega, HQR.out, HQG.out⟩
end Go.Proofs.YtfakoalkbcnejaaDoor
