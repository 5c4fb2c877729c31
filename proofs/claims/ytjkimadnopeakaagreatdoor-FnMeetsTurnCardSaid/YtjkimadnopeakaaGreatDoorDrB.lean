/- DrawQy, QyAsked, QyAskI, QyMade, QyCopy, QyToOwn, QyCopyI, QyOwnS, DrawQy2, DrawQy3: in one text. -/
import Derived.Test.YtjkimadnopeakaaGreatDoorQys
import Derived.Test.YtjkimadnopeakaaGreatDoorMg0FnExactMeets
import Derived.Test.YtjkimadnopeakaaGreatDoorDrA
import Derived.Deep.CutBlock
import Derived.Test.YtjkimadnopeakaaGreatDoorQyFits
import Derived.Test.YtjkimadnopeakaaGreatDoorTermsS
import Derived.Test.YtjkimadnopeakaaGreatDoorQyFitsS
import Derived.Laws.AppendOwnNone
import Derived.Test.YtjkimadnopeakaaGreatDoorQyOwn
import Derived.Test.YtjkimadnopeakaaGreatDoorQyTo
import Derived.Maps.AppendAt
import Derived.Deep.AppendLies
import Derived.Deep.RegionLaw
/- A question without parts, drawn. -/
namespace Go.Proofs.YtjkimadnopeakaaGreatDoor
open Go.RowKit
set_option linter.unusedVariables false

/-- While a question is drawn: the reader, the answer's cells, the question in the making. -/
structure LQ (w wx : World) (R : Nat) (a : Option Addr) (len cap p M : Nat) (k : Int) (f t : ByteArray) (lo hi : Int) : Prop where
  rd : Rd wx R a len cap p
  z : Blk wx w.heap.size #[.int .i64 0, .string ⟨#[]⟩, .string ⟨#[]⟩, .int .i64 0, .int .i64 0, .slice none 0 0] 41
  x : Blk wx M #[.int .i64 k, .string f, .string t, .int .i64 lo, .int .i64 hi, .slice none 0 0] 41
  grown : w.grownBy wx (some R)
  lt : R < w.heap.size
  le : w.heap.size < M
theorem LQ.read {w wx wy : World} {R : Nat} {a : Option Addr} {len cap p q M : Nat} {k lo hi : Int} {f t : ByteArray} (h : LQ w wx R a len cap p M k f t lo hi) (hg : wx.grownBy wy (some R)) (hR : Rd wy R a len cap q) : LQ w wy R a len cap q M k f t lo hi :=
  ⟨hR, h.z.grown hg (by have := h.lt; simp; omega), h.x.grown hg (by have := h.lt; have := h.le; simp; omega), grown_trans h.grown hg, h.lt, h.le⟩
theorem LQ.alloc {w wx : World} {R : Nat} {a : Option Addr} {len cap p M : Nat} {k lo hi : Int} {f t : ByteArray} (h : LQ w wx R a len cap p M k f t lo hi) (o : Obj) : LQ w (wx.alloc o) R a len cap p M k f t lo hi := h.read (grown_alloc _ _ _) (h.rd.alloc o)
theorem LQ.set {w wx : World} {R : Nat} {a : Option Addr} {len cap p M : Nat} {k lo hi k' lo' hi' : Int} {f t f' t' : ByteArray} (h : LQ w wx R a len cap p M k f t lo hi) (j : Nat) (v : Value) (he : #[.int .i64 k, .string f, .string t, .int .i64 lo, .int .i64 hi, .slice none 0 0].setIfInBounds j v = #[.int .i64 k', .string f', .string t', .int .i64 lo', .int .i64 hi', .slice none 0 0]) : LQ w (wx.setCell ⟨M, j, none⟩ v) R a len cap p M k' f' t' lo' hi' := by
  have hx := h.x.set j v
  rw [he] at hx
  have hRM : R ≠ M := by have := h.lt; have := h.le; omega
  exact ⟨(show Rd _ R a len cap p from (Below.heap_setCell _ _ _ _ hRM).trans h.rd), h.z.other (by have := h.le; simp; omega) v, hx, grown_own h.grown (grown_set wx M j v) (fun j hj => by cases hj; have := h.le; omega), h.lt, h.le⟩
theorem rd_sets {w : World} {R n : Nat} {a : Option Addr} {len cap : Nat} {p : Int} (h : Rd w R a len cap p) (hn : R < n) (v0 v1 v2 v3 v4 v5 : Value) : Rd ((((((w.setCell ⟨n, 0, none⟩ v0).setCell ⟨n, 1, none⟩ v1).setCell ⟨n, 2, none⟩ v2).setCell ⟨n, 3, none⟩ v3).setCell ⟨n, 4, none⟩ v4).setCell ⟨n, 5, none⟩ v5) R a len cap p := by
  have hne : ∀ j, R ≠ (⟨n, j, none⟩ : Addr).block := fun j => by show R ≠ n; omega
  unfold Rd at h ⊢
  rw [Below.heap_setCell _ _ _ _ (hne 5), Below.heap_setCell _ _ _ _ (hne 4), Below.heap_setCell _ _ _ _ (hne 3), Below.heap_setCell _ _ _ _ (hne 2), Below.heap_setCell _ _ _ _ (hne 1), Below.heap_setCell _ _ _ _ (hne 0)]
  exact h
theorem grown_sets {w wx : World} {R : Nat} (h : w.grownBy wx (some R)) (v0 v1 v2 v3 v4 v5 : Value) : w.grownBy ((((((wx.setCell ⟨w.heap.size, 0, none⟩ v0).setCell ⟨w.heap.size, 1, none⟩ v1).setCell ⟨w.heap.size, 2, none⟩ v2).setCell ⟨w.heap.size, 3, none⟩ v3).setCell ⟨w.heap.size, 4, none⟩ v4).setCell ⟨w.heap.size, 5, none⟩ v5) (some R) :=
  grown_own (grown_own (grown_own (grown_own (grown_own (grown_own h (grown_set _ w.heap.size 0 v0) (fun j e => by cases e; exact Nat.le_refl _)) (grown_set _ w.heap.size 1 v1) (fun j e => by cases e; exact Nat.le_refl _)) (grown_set _ w.heap.size 2 v2) (fun j e => by cases e; exact Nat.le_refl _)) (grown_set _ w.heap.size 3 v3) (fun j e => by cases e; exact Nat.le_refl _)) (grown_set _ w.heap.size 4 v4) (fun j e => by cases e; exact Nat.le_refl _)) (grown_set _ w.heap.size 5 v5) (fun j e => by cases e; exact Nat.le_refl _)
def ints8 : Array Value := #[.int .i64 1, .int .i64 2, .int .i64 2, .int .i64 2, .int .i64 3, .int .i64 4, .int .i64 5, .int .i64 6]
def intV : Value → Bool
  | .int .i64 _ => true
  | _ => false
theorem ints_new (w : World) (C : Array Value) (e : TypeId) (h : C.toList.all intV = true) : ∀ i, i < C.size → ∃ z, (w.alloc (.cells C e)).cell? ⟨w.heap.size, i, none⟩ = some (.int .i64 z) := fun i hi => by
  have h1 := List.all_eq_true.1 h C[i] (by simp)
  rw [World.cell?_alloc_new]
  cases hc : C[i] with
  | int k z =>
    rw [hc] at h1
    cases k with
    | i64 => exact ⟨z, by simp [hi, hc]⟩
    | _ => cases h1
  | _ => rw [hc] at h1; cases h1
set_option maxRecDepth 100000 in
set_option maxHeartbeats 8000000 in
theorem l11Leaf_any (R : Nat) (a : Option Addr) (len cap k0 : Nat) (fv : Value) (w : World) (hR : Rd w R a len cap k0) (hC : Code w R a len) (hk : k0 ≤ 900000) :
    Calls Tryz.prog 128 #[.pointer (some ⟨R, 0, none⟩), fv] w fun e w' => ∃ (k lo hi : Int) (f t : ByteArray) (p : Nat), e = .returned (.agg #[.int .i64 k, .string f, .string t, .int .i64 lo, .int .i64 hi, .slice none 0 0]) ∧ f.size ≤ 16 ∧ t.size ≤ 16 ∧ p ≤ k0 + 4 ∧ Rd w' R a len cap p ∧ w.grownBy w' (some R) := by
  have hlt := hR.lt
  have hRa := (hR.alloc (.cells #[.int .i64 0, .string ⟨#[]⟩, .string ⟨#[]⟩, .int .i64 0, .int .i64 0, .slice none 0 0] 41)).alloc (.cells ints8 3)
  have hga := grown_trans (grown_alloc w (.cells #[.int .i64 0, .string ⟨#[]⟩, .string ⟨#[]⟩, .int .i64 0, .int .i64 0, .slice none 0 0] 41) R) (grown_alloc _ (.cells ints8 3) R)
  have BZ := (Blk.new w #[.int .i64 0, .string ⟨#[]⟩, .string ⟨#[]⟩, .int .i64 0, .int .i64 0, .slice none 0 0] 41).alloc (.cells ints8 3)
  have SA := ints_new (w.alloc (.cells #[.int .i64 0, .string ⟨#[]⟩, .string ⟨#[]⟩, .int .i64 0, .int .i64 0, .slice none 0 0] 41)) ints8 3 (by decide)
  have HC : Hid (∀ wx, w.grownBy wx (some R) → Code wx R a len) := fun wx h => hC.kept h hlt
  clear hR hC
  go_enter Tryz.func128, Tryz.ntmps128
  go_wp2_with fail
  refine (one_any R (w.heap.size + 1) 8 a len cap k0 _ hRa (HC.out _ hga) (by omega) (by rw [show (w.alloc (.cells #[.int .i64 0, .string ⟨#[]⟩, .string ⟨#[]⟩, .int .i64 0, .int .i64 0, .slice none 0 0] 41)).heap.size = w.heap.size + 1 by simp] at SA; exact SA) (by decide) (by decide) (by omega)).mono ?_
  rintro e w2 ⟨kd, rfl, hR2, hg2⟩
  have hgw2 := grown_trans hga hg2
  have BZ2 := BZ.grown hg2 (by simp; omega)
  have hM : w.heap.size + 2 ≤ w2.heap.size := by have := hg2.size; simp at this; omega
  obtain ⟨M, hMe⟩ : ∃ M, w2.heap.size = M := ⟨_, rfl⟩
  have hq3 : LQ w (w2.alloc (.cells #[.int .i64 kd, .string ⟨#[]⟩, .string ⟨#[]⟩, .int .i64 0, .int .i64 0, .slice none 0 0] 41)) R a len cap (k0 + 1 : Nat) M kd ⟨#[]⟩ ⟨#[]⟩ 0 0 := ⟨hR2.alloc _, BZ2.alloc _, hMe ▸ Blk.new w2 _ _, grown_trans hgw2 (grown_alloc _ _ _), hlt, by omega⟩
  clear hRa hga BZ SA hR2 hg2 hgw2 BZ2
  go_upto_region 2 with fail
  obtain ⟨w3, hw3⟩ : ∃ w3, w2.alloc (.cells #[.int .i64 kd, .string ⟨#[]⟩, .string ⟨#[]⟩, .int .i64 0, .int .i64 0, .slice none 0 0] 41) = w3 := ⟨_, rfl⟩
  rw [hw3]
  rw [hw3] at hq3
  have HQ : Hid (LQ w w3 R a len cap (k0 + 1 : Nat) M kd ⟨#[]⟩ ⟨#[]⟩ 0 0) := hq3
  have x0 := hq3.x.cell 0
  have hl3 := hq3.x.lt
  simp at x0
  clear hw3 hMe hq3 hM
  by_cases h234 : kd = 2 ∨ kd = 3 ∨ kd = 4
  · rcases h234 with rfl | rfl | rfl
    · go_wp2_with fail
      refine (of_any R w3.heap.size 6 a len cap (k0 + 1) _ _ (HQ.out.rd.alloc _) (HC.out _ (grown_trans HQ.out.grown (grown_alloc _ _ _))) (by omega) (strs_new w3 _ _ 16 (by decide +kernel)) (by omega) (by omega) (by have := HQ.out.rd.lt; omega)).mono ?_
      rintro e w4 ⟨t, rfl, ht, hR4, hg4⟩
      have HQ4 : Hid (LQ w w4 R a len cap (k0 + 1 + 1 : Nat) M 2 ⟨#[]⟩ ⟨#[]⟩ 0 0) := (HQ.out.alloc _).read hg4 hR4
      have HQ5 : Hid (LQ w (w4.setCell ⟨M, 2, none⟩ (.string t)) R a len cap (k0 + 1 + 1 : Nat) M 2 ⟨#[]⟩ t 0 0) := HQ4.out.set 2 (.string t) rfl
      have y2 := HQ4.out.x.cell 2
      have g2 := HQ4.out.x.frozen 2
      have y0 := HQ4.out.x.cell 0
      have hr5 := HQ5.out.rd
      simp at y0 y2
      clear hR4 hg4 HQ HQ4
      go_wp2_with fail
      refine (pick_any R a len cap (k0 + 1 + 1) 3 _ hr5 (HC.out _ HQ5.out.grown) (by omega) (by decide) (by decide)).mono ?_
      rintro e w6 ⟨v, rfl, hv0, hv1, hR6, hg6⟩
      have HQ6 : Hid (LQ w w6 R a len cap (k0 + 1 + 1 + 1 : Nat) M 2 ⟨#[]⟩ t 0 0) := HQ5.out.read hg6 hR6
      clear y0 y2 g2 hr5 HQ5 hR6 hg6
      by_cases hv : v = 0
      · subst hv
        go_wp2_with fail
        refine (of_any R w6.heap.size 2 a len cap (k0 + 1 + 1 + 1) _ _ (HQ6.out.rd.alloc _) (HC.out _ (grown_trans HQ6.out.grown (grown_alloc _ _ _))) (by omega) (strs_new w6 _ _ 16 (by decide +kernel)) (by omega) (by omega) (by have := HQ6.out.rd.lt; omega)).mono ?_
        rintro e w8 ⟨fd, rfl, hfd, hR8, hg8⟩
        have HQ8 : Hid (LQ w w8 R a len cap (k0 + 1 + 1 + 1 + 1 : Nat) M 2 ⟨#[]⟩ t 0 0) := (HQ6.out.alloc _).read hg8 hR8
        have HQ9 : Hid (LQ w (w8.setCell ⟨M, 1, none⟩ (.string fd)) R a len cap (k0 + 1 + 1 + 1 + 1 : Nat) M 2 fd t 0 0) := HQ8.out.set 1 (.string fd) rfl
        have g1 := HQ8.out.x.frozen 1
        clear hR8 hg8 HQ6
        have X := HQ8.out.x
        have Z := HQ8.out.z
        have x0 := X.cell 0
        have x1 := X.cell 1
        have x2 := X.cell 2
        have x3 := X.cell 3
        have x4 := X.cell 4
        have x5 := X.cell 5
        have z0 := Z.cell 0
        have z1 := Z.cell 1
        have z2 := Z.cell 2
        have z3 := Z.cell 3
        have z4 := Z.cell 4
        have z5 := Z.cell 5
        have f0 := Z.frozen 0
        have f1 := Z.frozen 1
        have f2 := Z.frozen 2
        have f3 := Z.frozen 3
        have f4 := Z.frozen 4
        have f5 := Z.frozen 5
        have hMn : ¬ w.heap.size = M := by have := HQ9.out.le; omega
        have hnM : ¬ M = w.heap.size := by have := HQ9.out.le; omega
        have hqr := rd_sets HQ9.out.rd HQ9.out.lt (.int .i64 2) (.string fd) (.string t) (.int .i64 0) (.int .i64 0) (.slice none 0 0)
        have hqg := grown_sets HQ9.out.grown (.int .i64 2) (.string fd) (.string t) (.int .i64 0) (.int .i64 0) (.slice none 0 0)
        have HQR : Hid _ := hqr
        have HQG : Hid _ := hqg
        simp at x0 x1 x2 x3 x4 x5 z0 z1 z2 z3 z4 z5
        clear X Z hqr hqg
        go_wp2
        refine bodyPost_ret (v := .agg #[.int .i64 2, .string fd, .string t, .int .i64 0, .int .i64 0, .slice none 0 0]) (by simp [results, Tryz.results128, go_sem, z0, z1, z2, z3, z4, z5]) rfl ⟨2, 0, 0, fd, t, k0 + 1 + 1 + 1 + 1, rfl, hfd, ht, by omega, HQR.out, HQG.out⟩
      · have hvb : (v == 0) = false := beq_eq_false_iff_ne.2 hv
        have X := HQ6.out.x
        have Z := HQ6.out.z
        have x0 := X.cell 0
        have x1 := X.cell 1
        have x2 := X.cell 2
        have x3 := X.cell 3
        have x4 := X.cell 4
        have x5 := X.cell 5
        have z0 := Z.cell 0
        have z1 := Z.cell 1
        have z2 := Z.cell 2
        have z3 := Z.cell 3
        have z4 := Z.cell 4
        have z5 := Z.cell 5
        have f0 := Z.frozen 0
        have f1 := Z.frozen 1
        have f2 := Z.frozen 2
        have f3 := Z.frozen 3
        have f4 := Z.frozen 4
        have f5 := Z.frozen 5
        have hMn : ¬ w.heap.size = M := by have := HQ6.out.le; omega
        have hnM : ¬ M = w.heap.size := by have := HQ6.out.le; omega
        have hqr := rd_sets HQ6.out.rd HQ6.out.lt (.int .i64 2) (.string ⟨#[]⟩) (.string t) (.int .i64 0) (.int .i64 0) (.slice none 0 0)
        have hqg := grown_sets HQ6.out.grown (.int .i64 2) (.string ⟨#[]⟩) (.string t) (.int .i64 0) (.int .i64 0) (.slice none 0 0)
        have HQR : Hid _ := hqr
        have HQG : Hid _ := hqg
        simp at x0 x1 x2 x3 x4 x5 z0 z1 z2 z3 z4 z5
        clear X Z hqr hqg
        go_wp2
        refine bodyPost_ret (v := .agg #[.int .i64 2, .string ⟨#[]⟩, .string t, .int .i64 0, .int .i64 0, .slice none 0 0]) (by simp [results, Tryz.results128, go_sem, z0, z1, z2, z3, z4, z5]) rfl ⟨2, 0, 0, ⟨#[]⟩, t, k0 + 1 + 1 + 1, rfl, by decide, ht, by omega, HQR.out, HQG.out⟩
    · go_wp2_with fail
      refine (of_any R w3.heap.size 5 a len cap (k0 + 1) _ _ (HQ.out.rd.alloc _) (HC.out _ (grown_trans HQ.out.grown (grown_alloc _ _ _))) (by omega) (strs_new w3 _ _ 16 (by decide +kernel)) (by omega) (by omega) (by have := HQ.out.rd.lt; omega)).mono ?_
      rintro e w4 ⟨t, rfl, ht, hR4, hg4⟩
      have HQ4 : Hid (LQ w w4 R a len cap (k0 + 1 + 1 : Nat) M 3 ⟨#[]⟩ ⟨#[]⟩ 0 0) := (HQ.out.alloc _).read hg4 hR4
      have HQ5 : Hid (LQ w (w4.setCell ⟨M, 2, none⟩ (.string t)) R a len cap (k0 + 1 + 1 : Nat) M 3 ⟨#[]⟩ t 0 0) := HQ4.out.set 2 (.string t) rfl
      have y2 := HQ4.out.x.cell 2
      have g2 := HQ4.out.x.frozen 2
      have y0 := HQ4.out.x.cell 0
      have hr5 := HQ5.out.rd
      simp at y0 y2
      clear hR4 hg4 HQ HQ4
      go_wp2_with fail
      refine (pick_any R a len cap (k0 + 1 + 1) 3 _ hr5 (HC.out _ HQ5.out.grown) (by omega) (by decide) (by decide)).mono ?_
      rintro e w6 ⟨v, rfl, hv0, hv1, hR6, hg6⟩
      have HQ6 : Hid (LQ w w6 R a len cap (k0 + 1 + 1 + 1 : Nat) M 3 ⟨#[]⟩ t 0 0) := HQ5.out.read hg6 hR6
      clear y0 y2 g2 hr5 HQ5 hR6 hg6
      by_cases hv : v = 0
      · subst hv
        go_wp2_with fail
        refine (of_any R w6.heap.size 2 a len cap (k0 + 1 + 1 + 1) _ _ (HQ6.out.rd.alloc _) (HC.out _ (grown_trans HQ6.out.grown (grown_alloc _ _ _))) (by omega) (strs_new w6 _ _ 16 (by decide +kernel)) (by omega) (by omega) (by have := HQ6.out.rd.lt; omega)).mono ?_
        rintro e w8 ⟨fd, rfl, hfd, hR8, hg8⟩
        have HQ8 : Hid (LQ w w8 R a len cap (k0 + 1 + 1 + 1 + 1 : Nat) M 3 ⟨#[]⟩ t 0 0) := (HQ6.out.alloc _).read hg8 hR8
        have HQ9 : Hid (LQ w (w8.setCell ⟨M, 1, none⟩ (.string fd)) R a len cap (k0 + 1 + 1 + 1 + 1 : Nat) M 3 fd t 0 0) := HQ8.out.set 1 (.string fd) rfl
        have g1 := HQ8.out.x.frozen 1
        clear hR8 hg8 HQ6
        have X := HQ8.out.x
        have Z := HQ8.out.z
        have x0 := X.cell 0
        have x1 := X.cell 1
        have x2 := X.cell 2
        have x3 := X.cell 3
        have x4 := X.cell 4
        have x5 := X.cell 5
        have z0 := Z.cell 0
        have z1 := Z.cell 1
        have z2 := Z.cell 2
        have z3 := Z.cell 3
        have z4 := Z.cell 4
        have z5 := Z.cell 5
        have f0 := Z.frozen 0
        have f1 := Z.frozen 1
        have f2 := Z.frozen 2
        have f3 := Z.frozen 3
        have f4 := Z.frozen 4
        have f5 := Z.frozen 5
        have hMn : ¬ w.heap.size = M := by have := HQ9.out.le; omega
        have hnM : ¬ M = w.heap.size := by have := HQ9.out.le; omega
        have hqr := rd_sets HQ9.out.rd HQ9.out.lt (.int .i64 3) (.string fd) (.string t) (.int .i64 0) (.int .i64 0) (.slice none 0 0)
        have hqg := grown_sets HQ9.out.grown (.int .i64 3) (.string fd) (.string t) (.int .i64 0) (.int .i64 0) (.slice none 0 0)
        have HQR : Hid _ := hqr
        have HQG : Hid _ := hqg
        simp at x0 x1 x2 x3 x4 x5 z0 z1 z2 z3 z4 z5
        clear X Z hqr hqg
        go_wp2
        refine bodyPost_ret (v := .agg #[.int .i64 3, .string fd, .string t, .int .i64 0, .int .i64 0, .slice none 0 0]) (by simp [results, Tryz.results128, go_sem, z0, z1, z2, z3, z4, z5]) rfl ⟨3, 0, 0, fd, t, k0 + 1 + 1 + 1 + 1, rfl, hfd, ht, by omega, HQR.out, HQG.out⟩
      · have hvb : (v == 0) = false := beq_eq_false_iff_ne.2 hv
        have X := HQ6.out.x
        have Z := HQ6.out.z
        have x0 := X.cell 0
        have x1 := X.cell 1
        have x2 := X.cell 2
        have x3 := X.cell 3
        have x4 := X.cell 4
        have x5 := X.cell 5
        have z0 := Z.cell 0
        have z1 := Z.cell 1
        have z2 := Z.cell 2
        have z3 := Z.cell 3
        have z4 := Z.cell 4
        have z5 := Z.cell 5
        have f0 := Z.frozen 0
        have f1 := Z.frozen 1
        have f2 := Z.frozen 2
        have f3 := Z.frozen 3
        have f4 := Z.frozen 4
        have f5 := Z.frozen 5
        have hMn : ¬ w.heap.size = M := by have := HQ6.out.le; omega
        have hnM : ¬ M = w.heap.size := by have := HQ6.out.le; omega
        have hqr := rd_sets HQ6.out.rd HQ6.out.lt (.int .i64 3) (.string ⟨#[]⟩) (.string t) (.int .i64 0) (.int .i64 0) (.slice none 0 0)
        have hqg := grown_sets HQ6.out.grown (.int .i64 3) (.string ⟨#[]⟩) (.string t) (.int .i64 0) (.int .i64 0) (.slice none 0 0)
        have HQR : Hid _ := hqr
        have HQG : Hid _ := hqg
        simp at x0 x1 x2 x3 x4 x5 z0 z1 z2 z3 z4 z5
        clear X Z hqr hqg
        go_wp2
        refine bodyPost_ret (v := .agg #[.int .i64 3, .string ⟨#[]⟩, .string t, .int .i64 0, .int .i64 0, .slice none 0 0]) (by simp [results, Tryz.results128, go_sem, z0, z1, z2, z3, z4, z5]) rfl ⟨3, 0, 0, ⟨#[]⟩, t, k0 + 1 + 1 + 1, rfl, by decide, ht, by omega, HQR.out, HQG.out⟩
    · go_wp2_with fail
      refine (of_any R w3.heap.size 5 a len cap (k0 + 1) _ _ (HQ.out.rd.alloc _) (HC.out _ (grown_trans HQ.out.grown (grown_alloc _ _ _))) (by omega) (strs_new w3 _ _ 16 (by decide +kernel)) (by omega) (by omega) (by have := HQ.out.rd.lt; omega)).mono ?_
      rintro e w4 ⟨t, rfl, ht, hR4, hg4⟩
      have HQ4 : Hid (LQ w w4 R a len cap (k0 + 1 + 1 : Nat) M 4 ⟨#[]⟩ ⟨#[]⟩ 0 0) := (HQ.out.alloc _).read hg4 hR4
      have HQ5 : Hid (LQ w (w4.setCell ⟨M, 2, none⟩ (.string t)) R a len cap (k0 + 1 + 1 : Nat) M 4 ⟨#[]⟩ t 0 0) := HQ4.out.set 2 (.string t) rfl
      have y2 := HQ4.out.x.cell 2
      have g2 := HQ4.out.x.frozen 2
      have y0 := HQ4.out.x.cell 0
      have hr5 := HQ5.out.rd
      simp at y0 y2
      clear hR4 hg4 HQ HQ4
      go_wp2_with fail
      refine (pick_any R a len cap (k0 + 1 + 1) 3 _ hr5 (HC.out _ HQ5.out.grown) (by omega) (by decide) (by decide)).mono ?_
      rintro e w6 ⟨v, rfl, hv0, hv1, hR6, hg6⟩
      have HQ6 : Hid (LQ w w6 R a len cap (k0 + 1 + 1 + 1 : Nat) M 4 ⟨#[]⟩ t 0 0) := HQ5.out.read hg6 hR6
      clear y0 y2 g2 hr5 HQ5 hR6 hg6
      by_cases hv : v = 0
      · subst hv
        go_wp2_with fail
        refine (of_any R w6.heap.size 2 a len cap (k0 + 1 + 1 + 1) _ _ (HQ6.out.rd.alloc _) (HC.out _ (grown_trans HQ6.out.grown (grown_alloc _ _ _))) (by omega) (strs_new w6 _ _ 16 (by decide +kernel)) (by omega) (by omega) (by have := HQ6.out.rd.lt; omega)).mono ?_
        rintro e w8 ⟨fd, rfl, hfd, hR8, hg8⟩
        have HQ8 : Hid (LQ w w8 R a len cap (k0 + 1 + 1 + 1 + 1 : Nat) M 4 ⟨#[]⟩ t 0 0) := (HQ6.out.alloc _).read hg8 hR8
        have HQ9 : Hid (LQ w (w8.setCell ⟨M, 1, none⟩ (.string fd)) R a len cap (k0 + 1 + 1 + 1 + 1 : Nat) M 4 fd t 0 0) := HQ8.out.set 1 (.string fd) rfl
        have g1 := HQ8.out.x.frozen 1
        clear hR8 hg8 HQ6
        have X := HQ8.out.x
        have Z := HQ8.out.z
        have x0 := X.cell 0
        have x1 := X.cell 1
        have x2 := X.cell 2
        have x3 := X.cell 3
        have x4 := X.cell 4
        have x5 := X.cell 5
        have z0 := Z.cell 0
        have z1 := Z.cell 1
        have z2 := Z.cell 2
        have z3 := Z.cell 3
        have z4 := Z.cell 4
        have z5 := Z.cell 5
        have f0 := Z.frozen 0
        have f1 := Z.frozen 1
        have f2 := Z.frozen 2
        have f3 := Z.frozen 3
        have f4 := Z.frozen 4
        have f5 := Z.frozen 5
        have hMn : ¬ w.heap.size = M := by have := HQ9.out.le; omega
        have hnM : ¬ M = w.heap.size := by have := HQ9.out.le; omega
        have hqr := rd_sets HQ9.out.rd HQ9.out.lt (.int .i64 4) (.string fd) (.string t) (.int .i64 0) (.int .i64 0) (.slice none 0 0)
        have hqg := grown_sets HQ9.out.grown (.int .i64 4) (.string fd) (.string t) (.int .i64 0) (.int .i64 0) (.slice none 0 0)
        have HQR : Hid _ := hqr
        have HQG : Hid _ := hqg
        simp at x0 x1 x2 x3 x4 x5 z0 z1 z2 z3 z4 z5
        clear X Z hqr hqg
        go_wp2
        refine bodyPost_ret (v := .agg #[.int .i64 4, .string fd, .string t, .int .i64 0, .int .i64 0, .slice none 0 0]) (by simp [results, Tryz.results128, go_sem, z0, z1, z2, z3, z4, z5]) rfl ⟨4, 0, 0, fd, t, k0 + 1 + 1 + 1 + 1, rfl, hfd, ht, by omega, HQR.out, HQG.out⟩
      · have hvb : (v == 0) = false := beq_eq_false_iff_ne.2 hv
        have X := HQ6.out.x
        have Z := HQ6.out.z
        have x0 := X.cell 0
        have x1 := X.cell 1
        have x2 := X.cell 2
        have x3 := X.cell 3
        have x4 := X.cell 4
        have x5 := X.cell 5
        have z0 := Z.cell 0
        have z1 := Z.cell 1
        have z2 := Z.cell 2
        have z3 := Z.cell 3
        have z4 := Z.cell 4
        have z5 := Z.cell 5
        have f0 := Z.frozen 0
        have f1 := Z.frozen 1
        have f2 := Z.frozen 2
        have f3 := Z.frozen 3
        have f4 := Z.frozen 4
        have f5 := Z.frozen 5
        have hMn : ¬ w.heap.size = M := by have := HQ6.out.le; omega
        have hnM : ¬ M = w.heap.size := by have := HQ6.out.le; omega
        have hqr := rd_sets HQ6.out.rd HQ6.out.lt (.int .i64 4) (.string ⟨#[]⟩) (.string t) (.int .i64 0) (.int .i64 0) (.slice none 0 0)
        have hqg := grown_sets HQ6.out.grown (.int .i64 4) (.string ⟨#[]⟩) (.string t) (.int .i64 0) (.int .i64 0) (.slice none 0 0)
        have HQR : Hid _ := hqr
        have HQG : Hid _ := hqg
        simp at x0 x1 x2 x3 x4 x5 z0 z1 z2 z3 z4 z5
        clear X Z hqr hqg
        go_wp2
        refine bodyPost_ret (v := .agg #[.int .i64 4, .string ⟨#[]⟩, .string t, .int .i64 0, .int .i64 0, .slice none 0 0]) (by simp [results, Tryz.results128, go_sem, z0, z1, z2, z3, z4, z5]) rfl ⟨4, 0, 0, ⟨#[]⟩, t, k0 + 1 + 1 + 1, rfl, by decide, ht, by omega, HQR.out, HQG.out⟩
  have h2b : (kd == 2) = false := beq_eq_false_iff_ne.2 (by omega)
  have h3b : (kd == 3) = false := beq_eq_false_iff_ne.2 (by omega)
  have h4b : (kd == 4) = false := beq_eq_false_iff_ne.2 (by omega)
  by_cases h5 : kd = 5
  · subst h5
    have y1 := HQ.out.x.cell 1
    have g1 := HQ.out.x.frozen 1
    simp at y1
    go_upto_region 11 with fail
    have hq4 : LQ w (w3.setCell ⟨M, 1, none⟩ (.string ⟨#[112, 114, 105, 99, 101]⟩)) R a len cap (k0 + 1 : Nat) M 5 ⟨#[112, 114, 105, 99, 101]⟩ ⟨#[]⟩ 0 0 := HQ.out.set 1 _ rfl
    obtain ⟨w4, hw4⟩ : ∃ w4, w3.setCell ⟨M, 1, none⟩ (.string ⟨#[112, 114, 105, 99, 101]⟩) = w4 := ⟨_, rfl⟩
    rw [hw4] at hq4 ⊢
    have HQ4 : Hid (LQ w w4 R a len cap (k0 + 1 : Nat) M 5 ⟨#[112, 114, 105, 99, 101]⟩ ⟨#[]⟩ 0 0) := hq4
    clear hw4 hq4 y1 g1 HQ x0 hl3
    go_wp2_with fail
    refine (one_any R w4.heap.size 4 a len cap (k0 + 1) _ (HQ4.out.rd.alloc _) (HC.out _ (grown_trans HQ4.out.grown (grown_alloc _ _ _))) (by omega) (ints_new w4 #[.int .i64 (-5), .int .i64 0, .int .i64 5, .int .i64 6] 3 (by decide +kernel)) (by omega) (by omega) (by have := HQ4.out.rd.lt; omega)).mono ?_
    rintro e w5 ⟨lo, rfl, hR5, hg5⟩
    have HQ5 : Hid (LQ w w5 R a len cap (k0 + 1 + 1 : Nat) M 5 ⟨#[112, 114, 105, 99, 101]⟩ ⟨#[]⟩ 0 0) := (HQ4.out.alloc _).read hg5 hR5
    have y3 := HQ5.out.x.cell 3
    have g3 := HQ5.out.x.frozen 3
    simp at y3
    clear HQ4 hR5 hg5
    go_upto_region 12 with fail
    have hq6 : LQ w (w5.setCell ⟨M, 3, none⟩ (.int .i64 lo)) R a len cap (k0 + 1 + 1 : Nat) M 5 ⟨#[112, 114, 105, 99, 101]⟩ ⟨#[]⟩ lo 0 := HQ5.out.set 3 _ rfl
    obtain ⟨w6, hw6⟩ : ∃ w6, w5.setCell ⟨M, 3, none⟩ (.int .i64 lo) = w6 := ⟨_, rfl⟩
    rw [hw6] at hq6 ⊢
    have HQ6 : Hid (LQ w w6 R a len cap (k0 + 1 + 1 : Nat) M 5 ⟨#[112, 114, 105, 99, 101]⟩ ⟨#[]⟩ lo 0) := hq6
    clear hw6 hq6 y3 g3 HQ5
    go_wp2_with fail
    refine (one_any R w6.heap.size 5 a len cap (k0 + 1 + 1) _ (HQ6.out.rd.alloc _) (HC.out _ (grown_trans HQ6.out.grown (grown_alloc _ _ _))) (by omega) (ints_new w6 #[.int .i64 (-3), .int .i64 0, .int .i64 5, .int .i64 12, .int .i64 999999999] 3 (by decide +kernel)) (by omega) (by omega) (by have := HQ6.out.rd.lt; omega)).mono ?_
    rintro e w7 ⟨hi, rfl, hR7, hg7⟩
    have HQ7 : Hid (LQ w w7 R a len cap (k0 + 1 + 1 + 1 : Nat) M 5 ⟨#[112, 114, 105, 99, 101]⟩ ⟨#[]⟩ lo 0) := (HQ6.out.alloc _).read hg7 hR7
    have HQ8 : Hid (LQ w (w7.setCell ⟨M, 4, none⟩ (.int .i64 hi)) R a len cap (k0 + 1 + 1 + 1 : Nat) M 5 ⟨#[112, 114, 105, 99, 101]⟩ ⟨#[]⟩ lo hi) := HQ7.out.set 4 _ rfl
    have g4 := HQ7.out.x.frozen 4
    clear HQ6 hR7 hg7
    have X := HQ7.out.x
    have Z := HQ7.out.z
    have x0 := X.cell 0
    have x1 := X.cell 1
    have x2 := X.cell 2
    have x3 := X.cell 3
    have x4 := X.cell 4
    have x5 := X.cell 5
    have z0 := Z.cell 0
    have z1 := Z.cell 1
    have z2 := Z.cell 2
    have z3 := Z.cell 3
    have z4 := Z.cell 4
    have z5 := Z.cell 5
    have f0 := Z.frozen 0
    have f1 := Z.frozen 1
    have f2 := Z.frozen 2
    have f3 := Z.frozen 3
    have f4 := Z.frozen 4
    have f5 := Z.frozen 5
    have hMn : ¬ w.heap.size = M := by have := HQ8.out.le; omega
    have hnM : ¬ M = w.heap.size := by have := HQ8.out.le; omega
    have hqr := rd_sets HQ8.out.rd HQ8.out.lt (.int .i64 5) (.string ⟨#[112, 114, 105, 99, 101]⟩) (.string ⟨#[]⟩) (.int .i64 lo) (.int .i64 hi) (.slice none 0 0)
    have hqg := grown_sets HQ8.out.grown (.int .i64 5) (.string ⟨#[112, 114, 105, 99, 101]⟩) (.string ⟨#[]⟩) (.int .i64 lo) (.int .i64 hi) (.slice none 0 0)
    have HQR : Hid _ := hqr
    have HQG : Hid _ := hqg
    simp at x0 x1 x2 x3 x4 x5 z0 z1 z2 z3 z4 z5
    clear X Z hqr hqg
    go_wp2
    refine bodyPost_ret (v := .agg #[.int .i64 5, .string ⟨#[112, 114, 105, 99, 101]⟩, .string ⟨#[]⟩, .int .i64 lo, .int .i64 hi, .slice none 0 0]) (by simp [results, Tryz.results128, go_sem, z0, z1, z2, z3, z4, z5]) rfl ⟨5, lo, hi, ⟨#[112, 114, 105, 99, 101]⟩, ⟨#[]⟩, k0 + 1 + 1 + 1, rfl, by decide, by decide, by omega, HQR.out, HQG.out⟩
  have h5b : (kd == 5) = false := beq_eq_false_iff_ne.2 h5
  by_cases h6 : kd = 6
  · subst h6
    have y1 := HQ.out.x.cell 1
    have g1 := HQ.out.x.frozen 1
    simp at y1
    go_upto_region 16 with fail
    have hq4 : LQ w (w3.setCell ⟨M, 1, none⟩ (.string ⟨#[99, 111, 108, 111, 114]⟩)) R a len cap (k0 + 1 : Nat) M 6 ⟨#[99, 111, 108, 111, 114]⟩ ⟨#[]⟩ 0 0 := HQ.out.set 1 _ rfl
    obtain ⟨w4, hw4⟩ : ∃ w4, w3.setCell ⟨M, 1, none⟩ (.string ⟨#[99, 111, 108, 111, 114]⟩) = w4 := ⟨_, rfl⟩
    rw [hw4] at hq4 ⊢
    have HQ4 : Hid (LQ w w4 R a len cap (k0 + 1 : Nat) M 6 ⟨#[99, 111, 108, 111, 114]⟩ ⟨#[]⟩ 0 0) := hq4
    clear hw4 hq4 y1 g1 HQ x0 hl3
    go_wp2_with fail
    refine (of_any R w4.heap.size 3 a len cap (k0 + 1) _ _ (HQ4.out.rd.alloc _) (HC.out _ (grown_trans HQ4.out.grown (grown_alloc _ _ _))) (by omega) (strs_new w4 _ _ 16 (by decide +kernel)) (by omega) (by omega) (by have := HQ4.out.rd.lt; omega)).mono ?_
    rintro e w5 ⟨t, rfl, ht, hR5, hg5⟩
    have HQ5 : Hid (LQ w w5 R a len cap (k0 + 1 + 1 : Nat) M 6 ⟨#[99, 111, 108, 111, 114]⟩ ⟨#[]⟩ 0 0) := (HQ4.out.alloc _).read hg5 hR5
    have HQ6 : Hid (LQ w (w5.setCell ⟨M, 2, none⟩ (.string t)) R a len cap (k0 + 1 + 1 : Nat) M 6 ⟨#[99, 111, 108, 111, 114]⟩ t 0 0) := HQ5.out.set 2 _ rfl
    have g2 := HQ5.out.x.frozen 2
    clear HQ4 hR5 hg5
    have X := HQ5.out.x
    have Z := HQ5.out.z
    have x0 := X.cell 0
    have x1 := X.cell 1
    have x2 := X.cell 2
    have x3 := X.cell 3
    have x4 := X.cell 4
    have x5 := X.cell 5
    have z0 := Z.cell 0
    have z1 := Z.cell 1
    have z2 := Z.cell 2
    have z3 := Z.cell 3
    have z4 := Z.cell 4
    have z5 := Z.cell 5
    have f0 := Z.frozen 0
    have f1 := Z.frozen 1
    have f2 := Z.frozen 2
    have f3 := Z.frozen 3
    have f4 := Z.frozen 4
    have f5 := Z.frozen 5
    have hMn : ¬ w.heap.size = M := by have := HQ6.out.le; omega
    have hnM : ¬ M = w.heap.size := by have := HQ6.out.le; omega
    have hqr := rd_sets HQ6.out.rd HQ6.out.lt (.int .i64 6) (.string ⟨#[99, 111, 108, 111, 114]⟩) (.string t) (.int .i64 0) (.int .i64 0) (.slice none 0 0)
    have hqg := grown_sets HQ6.out.grown (.int .i64 6) (.string ⟨#[99, 111, 108, 111, 114]⟩) (.string t) (.int .i64 0) (.int .i64 0) (.slice none 0 0)
    have HQR : Hid _ := hqr
    have HQG : Hid _ := hqg
    simp at x0 x1 x2 x3 x4 x5 z0 z1 z2 z3 z4 z5
    clear X Z hqr hqg
    go_wp2
    refine bodyPost_ret (v := .agg #[.int .i64 6, .string ⟨#[99, 111, 108, 111, 114]⟩, .string t, .int .i64 0, .int .i64 0, .slice none 0 0]) (by simp [results, Tryz.results128, go_sem, z0, z1, z2, z3, z4, z5]) rfl ⟨6, 0, 0, ⟨#[99, 111, 108, 111, 114]⟩, t, k0 + 1 + 1, rfl, by decide, ht, by omega, HQR.out, HQG.out⟩
  have h6b : (kd == 6) = false := beq_eq_false_iff_ne.2 h6
  by_cases h1 : kd = 1
  · subst h1
    have X := HQ.out.x
    have Z := HQ.out.z
    have x0 := X.cell 0
    have x1 := X.cell 1
    have x2 := X.cell 2
    have x3 := X.cell 3
    have x4 := X.cell 4
    have x5 := X.cell 5
    have z0 := Z.cell 0
    have z1 := Z.cell 1
    have z2 := Z.cell 2
    have z3 := Z.cell 3
    have z4 := Z.cell 4
    have z5 := Z.cell 5
    have f0 := Z.frozen 0
    have f1 := Z.frozen 1
    have f2 := Z.frozen 2
    have f3 := Z.frozen 3
    have f4 := Z.frozen 4
    have f5 := Z.frozen 5
    have hMn : ¬ w.heap.size = M := by have := HQ.out.le; omega
    have hnM : ¬ M = w.heap.size := by have := HQ.out.le; omega
    have hqr := rd_sets HQ.out.rd HQ.out.lt (.int .i64 1) (.string ⟨#[]⟩) (.string ⟨#[]⟩) (.int .i64 0) (.int .i64 0) (.slice none 0 0)
    have hqg := grown_sets HQ.out.grown (.int .i64 1) (.string ⟨#[]⟩) (.string ⟨#[]⟩) (.int .i64 0) (.int .i64 0) (.slice none 0 0)
    have HQR : Hid _ := hqr
    have HQG : Hid _ := hqg
    simp at x0 x1 x2 x3 x4 x5 z0 z1 z2 z3 z4 z5
    clear X Z hqr hqg
    go_wp2
    refine bodyPost_ret (v := .agg #[.int .i64 1, .string ⟨#[]⟩, .string ⟨#[]⟩, .int .i64 0, .int .i64 0, .slice none 0 0]) (by simp [results, Tryz.results128, go_sem, z0, z1, z2, z3, z4, z5]) rfl ⟨1, 0, 0, ⟨#[]⟩, ⟨#[]⟩, k0 + 1, rfl, by decide, by decide, by omega, HQR.out, HQG.out⟩
  have h1b : (kd != 1) = true := bne_iff_ne.2 h1
  have hr3 := HQ.out.rd
  go_wp2_with fail
  refine (pick_any R a len cap (k0 + 1) 3 _ hr3 (HC.out _ HQ.out.grown) (by omega) (by decide) (by decide)).mono ?_
  rintro e w6 ⟨v, rfl, hv0, hv1, hR6, hg6⟩
  have HQ6 : Hid (LQ w w6 R a len cap (k0 + 1 + 1 : Nat) M kd ⟨#[]⟩ ⟨#[]⟩ 0 0) := HQ.out.read hg6 hR6
  clear x0 hr3 hl3 HQ hR6 hg6
  by_cases hv : v = 0
  · subst hv
    go_wp2_with fail
    refine (of_any R w6.heap.size 2 a len cap (k0 + 1 + 1) _ _ (HQ6.out.rd.alloc _) (HC.out _ (grown_trans HQ6.out.grown (grown_alloc _ _ _))) (by omega) (strs_new w6 _ _ 16 (by decide +kernel)) (by omega) (by omega) (by have := HQ6.out.rd.lt; omega)).mono ?_
    rintro e w8 ⟨fd, rfl, hfd, hR8, hg8⟩
    have HQ8 : Hid (LQ w w8 R a len cap (k0 + 1 + 1 + 1 : Nat) M kd ⟨#[]⟩ ⟨#[]⟩ 0 0) := (HQ6.out.alloc _).read hg8 hR8
    have HQ9 : Hid (LQ w (w8.setCell ⟨M, 1, none⟩ (.string fd)) R a len cap (k0 + 1 + 1 + 1 : Nat) M kd fd ⟨#[]⟩ 0 0) := HQ8.out.set 1 (.string fd) rfl
    have g1 := HQ8.out.x.frozen 1
    clear hR8 hg8 HQ6
    have X := HQ8.out.x
    have Z := HQ8.out.z
    have x0 := X.cell 0
    have x1 := X.cell 1
    have x2 := X.cell 2
    have x3 := X.cell 3
    have x4 := X.cell 4
    have x5 := X.cell 5
    have z0 := Z.cell 0
    have z1 := Z.cell 1
    have z2 := Z.cell 2
    have z3 := Z.cell 3
    have z4 := Z.cell 4
    have z5 := Z.cell 5
    have f0 := Z.frozen 0
    have f1 := Z.frozen 1
    have f2 := Z.frozen 2
    have f3 := Z.frozen 3
    have f4 := Z.frozen 4
    have f5 := Z.frozen 5
    have hMn : ¬ w.heap.size = M := by have := HQ9.out.le; omega
    have hnM : ¬ M = w.heap.size := by have := HQ9.out.le; omega
    have hqr := rd_sets HQ9.out.rd HQ9.out.lt (.int .i64 kd) (.string fd) (.string ⟨#[]⟩) (.int .i64 0) (.int .i64 0) (.slice none 0 0)
    have hqg := grown_sets HQ9.out.grown (.int .i64 kd) (.string fd) (.string ⟨#[]⟩) (.int .i64 0) (.int .i64 0) (.slice none 0 0)
    have HQR : Hid _ := hqr
    have HQG : Hid _ := hqg
    simp at x0 x1 x2 x3 x4 x5 z0 z1 z2 z3 z4 z5
    clear X Z hqr hqg
    go_wp2
    refine bodyPost_ret (v := .agg #[.int .i64 kd, .string fd, .string ⟨#[]⟩, .int .i64 0, .int .i64 0, .slice none 0 0]) (by simp [results, Tryz.results128, go_sem, z0, z1, z2, z3, z4, z5]) rfl ⟨kd, 0, 0, fd, ⟨#[]⟩, k0 + 1 + 1 + 1, rfl, hfd, by decide, by omega, HQR.out, HQG.out⟩
  · have hvb : (v == 0) = false := beq_eq_false_iff_ne.2 hv
    have X := HQ6.out.x
    have Z := HQ6.out.z
    have x0 := X.cell 0
    have x1 := X.cell 1
    have x2 := X.cell 2
    have x3 := X.cell 3
    have x4 := X.cell 4
    have x5 := X.cell 5
    have z0 := Z.cell 0
    have z1 := Z.cell 1
    have z2 := Z.cell 2
    have z3 := Z.cell 3
    have z4 := Z.cell 4
    have z5 := Z.cell 5
    have f0 := Z.frozen 0
    have f1 := Z.frozen 1
    have f2 := Z.frozen 2
    have f3 := Z.frozen 3
    have f4 := Z.frozen 4
    have f5 := Z.frozen 5
    have hMn : ¬ w.heap.size = M := by have := HQ6.out.le; omega
    have hnM : ¬ M = w.heap.size := by have := HQ6.out.le; omega
    have hqr := rd_sets HQ6.out.rd HQ6.out.lt (.int .i64 kd) (.string ⟨#[]⟩) (.string ⟨#[]⟩) (.int .i64 0) (.int .i64 0) (.slice none 0 0)
    have hqg := grown_sets HQ6.out.grown (.int .i64 kd) (.string ⟨#[]⟩) (.string ⟨#[]⟩) (.int .i64 0) (.int .i64 0) (.slice none 0 0)
    have HQR : Hid _ := hqr
    have HQG : Hid _ := hqg
    simp at x0 x1 x2 x3 x4 x5 z0 z1 z2 z3 z4 z5
    clear X Z hqr hqg
    go_wp2
    refine bodyPost_ret (v := .agg #[.int .i64 kd, .string ⟨#[]⟩, .string ⟨#[]⟩, .int .i64 0, .int .i64 0, .slice none 0 0]) (by simp [results, Tryz.results128, go_sem, z0, z1, z2, z3, z4, z5]) rfl ⟨kd, 0, 0, ⟨#[]⟩, ⟨#[]⟩, k0 + 1 + 1, rfl, by decide, by decide, by omega, HQR.out, HQG.out⟩
end Go.Proofs.YtjkimadnopeakaaGreatDoor

/- impl.termsAsked: the words that a question looks for, in its order. -/
namespace Go.Proofs.YtjkimadnopeakaaGreatDoor
open Go.RowKit
set_option linter.unusedVariables false

def nonE (l : List ByteArray) : List ByteArray := l.filter fun x => !x.toList.isEmpty
def asked : Nat → Qy → List ByteArray
  | 0, q => if q.kind = 2 ∨ q.kind = 3 then nonE (termsL q.text) else []
  | d + 1, q => if q.kind = 2 ∨ q.kind = 3 then nonE (termsL q.text) else if q.kind = 7 ∨ q.kind = 8 then (List.range q.parts.length).flatMap fun i => asked d (qat q.parts i) else []
/-- What the first j parts look for. -/
def askedT (D : Nat) (ps : List Qy) (j : Nat) : List ByteArray := match D with
  | 0 => []
  | d + 1 => (List.range j).flatMap fun i => asked d (qat ps i)
theorem asked_23 (D : Nat) (k : Int) (f t : ByteArray) (lo hi : Int) (ps : List Qy) (h : k = 2 ∨ k = 3) : asked D (.mk k f t lo hi ps) = nonE (termsL t) := by cases D <;> exact if_pos h
theorem asked_78 (D : Nat) (k : Int) (f t : ByteArray) (lo hi : Int) (ps : List Qy) (h : k = 7 ∨ k = 8) : asked D (.mk k f t lo hi ps) = askedT D ps ps.length := by
  cases D with
  | zero => exact if_neg (by show ¬ (k = 2 ∨ k = 3); omega)
  | succ d =>
    show (if k = 2 ∨ k = 3 then _ else if k = 7 ∨ k = 8 then _ else _) = _
    rw [if_neg (by omega), if_pos h]
    rfl
theorem asked_no (D : Nat) (k : Int) (f t : ByteArray) (lo hi : Int) (ps : List Qy) (h2 : ¬ (k = 2 ∨ k = 3)) (h : ¬ (k = 7 ∨ k = 8)) : asked D (.mk k f t lo hi ps) = [] := by
  cases D with
  | zero => exact if_neg h2
  | succ d =>
    show (if k = 2 ∨ k = 3 then _ else if k = 7 ∨ k = 8 then _ else _) = _
    rw [if_neg h2, if_neg h]
theorem askedT_succ (d : Nat) (ps : List Qy) (j : Nat) : askedT (d + 1) ps (j + 1) = askedT (d + 1) ps j ++ asked d (qat ps j) := by
  show (List.range (j + 1)).flatMap _ = _
  rw [List.range_succ, List.flatMap_append]
  simp [askedT]
theorem nonE_len (l : List ByteArray) : (nonE l).length ≤ l.length := List.length_filter_le _ _
theorem form_many {d : Nat} {k : Int} {f t : ByteArray} {lo hi : Int} {ps : List Qy} (h : qformB (d + 1) (.mk k f t lo hi ps) = true) (hk : k = 7 ∨ k = 8) : ps.length ≤ 4 := by
  rw [show qformB (d + 1) (.mk k f t lo hi ps) = if ps.length = 0 then leafB k f t lo hi else manyPartsB k f t lo hi ps.length && allTo (fun i => qformB d (qat ps i)) ps.length from rfl] at h
  split at h
  · omega
  · unfold manyPartsB at h
    rw [if_pos hk] at h
    simp only [Bool.and_eq_true, decide_eq_true_iff] at h
    exact h.1.1.1.1.2
theorem form_leaf {d : Nat} {k : Int} {f t : ByteArray} {lo hi : Int} {ps : List Qy} (h : qformB d (.mk k f t lo hi ps) = true) (h7 : k ≠ 7) (h8 : k ≠ 8) (h9 : k ≠ 9) : ps.length = 0 ∧ leafB k f t lo hi = true := by
  cases d with
  | zero => cases h
  | succ d =>
    rw [show qformB (d + 1) (.mk k f t lo hi ps) = if ps.length = 0 then leafB k f t lo hi else manyPartsB k f t lo hi ps.length && allTo (fun i => qformB d (qat ps i)) ps.length from rfl] at h
    split at h
    · exact ⟨‹_›, h⟩
    · unfold manyPartsB at h
      rw [if_neg (by omega), if_neg h9] at h
      simp at h
theorem leaf_text {k : Int} {f t : ByteArray} {lo hi : Int} (h : leafB k f t lo hi = true) (hk : k = 2 ∨ k = 3) : t.size ≤ 60 := by
  unfold leafB at h
  rw [if_neg (by omega), if_pos (by omega)] at h
  unfold wantB at h
  simp only [Bool.and_eq_true, decide_eq_true_iff] at h
  have := h.1.2.1
  omega
theorem asked_len : ∀ (D d : Nat) (q : Qy), qformB d q = true → (asked D q).length ≤ 60 * 4 ^ d := by
  intro D
  induction D with
  | zero =>
    intro d q h
    obtain ⟨k, f, t, lo, hi, ps⟩ := q
    by_cases h2 : k = 2 ∨ k = 3
    · rw [asked_23 _ _ _ _ _ _ _ h2]
      have h1 := leaf_text (form_leaf h (by omega) (by omega) (by omega)).2 h2
      have h3 := nonE_len (termsL t)
      have h4 := termsL_le t
      have h5 : 1 ≤ 4 ^ d := Nat.pow_pos (by decide)
      omega
    · rw [show asked 0 (.mk k f t lo hi ps) = [] from if_neg h2]
      exact Nat.zero_le _
  | succ D ih =>
    intro d q h
    obtain ⟨k, f, t, lo, hi, ps⟩ := q
    by_cases h2 : k = 2 ∨ k = 3
    · rw [asked_23 _ _ _ _ _ _ _ h2]
      have h1 := leaf_text (form_leaf h (by omega) (by omega) (by omega)).2 h2
      have h3 := nonE_len (termsL t)
      have h4 := termsL_le t
      have h5 : 1 ≤ 4 ^ d := Nat.pow_pos (by decide)
      omega
    by_cases h7 : k = 7 ∨ k = 8
    · rw [asked_78 _ _ _ _ _ _ _ h7]
      cases d with
      | zero => cases h
      | succ d =>
        have h4 := form_many h h7
        have hj : ∀ j, j ≤ ps.length → (askedT (D + 1) ps j).length ≤ j * (60 * 4 ^ d) := by
          intro j
          induction j with
          | zero => intro _; simp [askedT]
          | succ j ihj =>
            intro hj
            obtain ⟨d', hd', h'⟩ := form_part h (i := j) (by show j < ps.length; omega)
            obtain rfl : d = d' := by omega
            have := ih d _ h'
            have := ihj (by omega)
            rw [askedT_succ, List.length_append, Nat.add_mul]
            show _ + (asked D (qat ps j)).length ≤ _
            have e : (asked D (qat (Qy.mk k f t lo hi ps).parts j)).length = (asked D (qat ps j)).length := rfl
            omega
        have := hj ps.length (Nat.le_refl _)
        have h5 : ps.length * (60 * 4 ^ d) ≤ 4 * (60 * 4 ^ d) := Nat.mul_le_mul_right _ h4
        rw [Nat.pow_succ]
        omega
    · rw [asked_no _ _ _ _ _ _ _ h2 h7]
      exact Nat.zero_le _
theorem nonE_snoc (l : List ByteArray) (j : Nat) (h : j < l.length) : nonE (l.take (j + 1)) = nonE (l.take j) ++ (if l[j].toList.isEmpty = true then [] else [l[j]]) := by
  unfold nonE
  rw [List.take_add_one, List.getElem?_eq_getElem h, List.filter_append]
  congr 1
  cases hb : l[j].toList.isEmpty <;> simp [hb]
theorem str_oneQ (a : ByteArray) : ∀ u ∈ [Value.string a], u.oneCell' = true := by
  intro u hu
  simp at hu
  subst hu
  rfl
theorem strs_oneQ (ss : List ByteArray) : ∀ u ∈ ss.map Value.string, u.oneCell' = true := by
  intro u hu
  obtain ⟨a, _, rfl⟩ := List.mem_map.1 hu
  rfl
end Go.Proofs.YtjkimadnopeakaaGreatDoor

/- The walk of impl.termsAsked. -/
namespace Go.Proofs.YtjkimadnopeakaaGreatDoor
open Go.RowKit
set_option linter.unusedVariables false

theorem apps_keep {w : World} {B : Nat} {v : Value} {n : Nat} {xs : List Value} {w' : World} (h : w.ownsRow B 9 1 v n xs) (hb : Below w.heap.size w w') : w'.ownsRow B 9 1 v n xs := h.kept (grown_none hb) (Classical.em _)
theorem pow_4 {d : Nat} (h : d ≤ 4) : 60 * 4 ^ d ≤ 15360 := by
  rcases (show d = 0 ∨ d = 1 ∨ d = 2 ∨ d = 3 ∨ d = 4 by omega) with rfl | rfl | rfl | rfl | rfl <;> decide
theorem askedT_mono (D : Nat) (ps : List Qy) (j m : Nat) : (askedT D ps j).length ≤ (askedT D ps (j + m)).length := by
  induction m with
  | zero => exact Nat.le_refl _
  | succ m ih =>
    cases D with
    | zero => exact Nat.le_refl _
    | succ D =>
      rw [← Nat.add_assoc, askedT_succ, List.length_append]
      omega
theorem askedT_le {D d : Nat} {k : Int} {f t : ByteArray} {lo hi : Int} {ps : List Qy} (h : qformB d (.mk k f t lo hi ps) = true) (hd : d ≤ 4) (hk : k = 7 ∨ k = 8) (j : Nat) (hj : j ≤ ps.length) : (askedT D ps j).length ≤ 15360 := by
  have h1 := asked_len D d _ h
  rw [asked_78 _ _ _ _ _ _ _ hk] at h1
  have h2 := askedT_mono D ps j (ps.length - j)
  rw [show j + (ps.length - j) = ps.length by omega] at h2
  have := pow_4 hd
  omega
end Go.Proofs.YtjkimadnopeakaaGreatDoor

/- Lists of questions that are made one behind the other, each in blocks of its own: partsMade, queryCopy. -/
namespace Go.Proofs.YtjkimadnopeakaaGreatDoor
open Go.RowKit
set_option linter.unusedVariables false

theorem qat_app_left (ps : List Qy) (q : Qy) (i : Nat) (h : i < ps.length) : qat (ps ++ [q]) i = qat ps i := by
  unfold qat
  rw [List.getD_eq_getElem?_getD, List.getD_eq_getElem?_getD, List.getElem?_append_left h]
theorem qat_app_last (ps : List Qy) (q : Qy) : qat (ps ++ [q]) ps.length = q := by
  unfold qat
  rw [List.getD_eq_getElem?_getD]
  simp
theorem qVal_len (q : Qy) (p : Option Addr) (c : Nat) : (qVal q p c).length = 6 := rfl
/-- A list of questions of one's own, in the making. -/
theorem nodup_snocL {fps : Nat → List Nat} {k N : Nat} {fp : List Nat} (h : (fpAll fps k).Nodup) (ho : ∀ b ∈ fpAll fps k, b < N) (hf : fp.Nodup) (hN : ∀ b ∈ fp, N ≤ b) : (fpAll (fun i => if i = k then fp else fps i) (k + 1)).Nodup := by
  rw [fpAll_succ, fpAll_congr (fqs := fps) (fun i hi => if_neg (by omega)), if_pos rfl, List.nodup_append]
  exact ⟨h, hf, fun a ha b hb e => by have := ho a ha; have := hN b hb; omega⟩
structure QList (w : World) (B d : Nat) (v : Value) (xs : List Value) (qs : List Qy) (fps : Nat → List Nat) : Prop where
  row : w.ownsRow B 41 6 v qs.length xs
  el : ∀ i, i < qs.length → ∃ p c, Qx xs i (qat qs i) p c ∧ QOwn w d p c (qat qs i).parts (fps i) ∧ ∀ b ∈ fps i, B ≤ b
  nd : (fpAll fps qs.length).Nodup
  apart : ∀ g, v.ownBlock = some g → g ∉ fpAll fps qs.length
theorem QList.nil (w : World) (B d : Nat) : QList w B d (.slice none 0 0) [] [] (fun _ => []) := ⟨World.ownsRow_nil _ _ _ _, fun i hi => absurd hi (by simp), by simp [fpAll], fun g h => by cases h⟩
theorem QList.below {w w' : World} {B d : Nat} {v : Value} {xs : List Value} {qs : List Qy} {fps : Nat → List Nat} (h : QList w B d v xs qs fps) (hb : Below w.heap.size w w') : QList w' B d v xs qs fps :=
  ⟨h.row.kept (grown_none hb) (Classical.em _), fun i hi => by obtain ⟨p, c, h1, h2, h3⟩ := h.el i hi; exact ⟨p, c, h1, h2.below hb, h3⟩, h.nd, h.apart⟩
theorem QList.snoc {w w3 w4 : World} {B d c : Nat} {v v' : Value} {xs : List Value} {qs : List Qy} {fps : Nat → List Nat} {q : Qy} {p : Option Addr} {fp : List Nat} (h : QList w B d v xs qs fps) (hB : B ≤ w.heap.size) (hb3 : Below w.heap.size w w3) (hq : QOwn w3 d p c q.parts fp) (hf : ∀ b ∈ fp, w.heap.size ≤ b)
    (ho : w4.ownsRow B 41 6 v' (qs.length + 1) (xs ++ qVal q p c)) (hg : w3.grownBy w4 v.ownBlock) (hat : v'.ownBlock = v.ownBlock ∨ v'.ownBlock = some w3.heap.size) :
    QList w4 B d v' (xs ++ qVal q p c) (qs ++ [q]) (fun i => if i = qs.length then fp else fps i) := by
  have hxl := h.row.1
  have hall : ∀ b ∈ fpAll fps qs.length, b < w.heap.size := fun b hb => by
    obtain ⟨i, hi, hb⟩ := mem_fpAll.1 hb
    obtain ⟨p', c', _, h2, _⟩ := h.el i hi
    exact h2.lt b hb
  have hvlt : ∀ g, v.ownBlock = some g → g < w.heap.size := fun g e => (h.row.lt g e).2

  refine ⟨by simpa using ho, fun i hi => ?_, by rw [List.length_append]; exact nodup_snocL h.nd hall hq.nodup hf, fun g e hm => ?_⟩
  · simp only [List.length_append, List.length_singleton] at hi
    by_cases e : i = qs.length
    · subst e
      simp only [if_pos, qat_app_last]
      refine ⟨p, c, fun j hj => ?_, hq.kept fun b hb => hg.block b (hq.lt b hb) (fun e => by have := hvlt b e.symm; have := hf b hb; omega), fun b hb => Nat.le_trans hB (hf b hb)⟩
      rw [List.getElem?_append_right (by omega), show qs.length * 6 + j - xs.length = j by omega]
    · have hi2 : i < qs.length := by omega
      rw [qat_app_left _ _ _ hi2]
      simp only [if_neg e]
      obtain ⟨p', c', h1, h2, h3⟩ := h.el i hi2
      refine ⟨p', c', fun j hj => ?_, h2.kept fun b hb => ?_, h3⟩
      · rw [List.getElem?_append_left (by omega)]
        exact h1 j hj
      · have hbl := h2.lt b hb
        rw [hg.block b (Nat.lt_of_lt_of_le hbl hb3.size) (fun e => h.apart b e.symm (mem_fpAll.2 ⟨i, hi2, hb⟩)), hb3.block b hbl]
  · simp only [List.length_append, List.length_singleton] at hm
    rw [fpAll_succ, fpAll_congr (fqs := fps) (fun i hi => if_neg (by omega)), if_pos rfl, List.mem_append] at hm
    rcases hat with e2 | e2
    · rw [e2] at e
      rcases hm with hm | hm
      · exact h.apart g e hm
      · have := hvlt g e
        have := hf g hm
        omega
    · rw [e2] at e
      cases e
      rcases hm with hm | hm
      · have := hall _ hm
        have := hb3.size
        omega
      · have := hq.lt _ hm
        omega
theorem QList.own {w : World} {B d : Nat} {v : Value} {xs : List Value} {qs : List Qy} {fps : Nat → List Nat} (h : QList w B d v xs qs fps) : ∃ p c fp, v = .slice p qs.length c ∧ QOwn w (d + 1) p c qs fp ∧ ∀ b ∈ fp, B ≤ b := by
  rcases h.row.2 with ⟨rfl, hn⟩ | ⟨g, cap, cur, rfl, hg, hr⟩
  · exact ⟨none, 0, [], by rw [hn], .inl ⟨List.eq_nil_of_length_eq_zero hn, rfl⟩, fun b hb => by cases hb⟩
  · by_cases h0 : 0 < qs.length
    · refine ⟨some ⟨g, 0, none⟩, cap, g :: fpAll fps qs.length, rfl, .inr ⟨g, xs, fps, h0, rfl, ?_, rfl, List.nodup_cons.2 ⟨h.apart g rfl, h.nd⟩, fun i hi => ?_⟩, fun b hb => ?_⟩
      · exact ⟨h.row.1, .inr ⟨g, cap, cur, rfl, Nat.le_refl _, hr⟩⟩
      · obtain ⟨p, c, h1, h2, _⟩ := h.el i hi
        exact ⟨p, c, h1, h2⟩
      · rcases List.mem_cons.1 hb with rfl | hb
        · exact hg
        · obtain ⟨i, hi, hb⟩ := mem_fpAll.1 hb
          obtain ⟨_, _, _, _, h3⟩ := h.el i hi
          exact h3 b hb
    · exact ⟨some ⟨g, 0, none⟩, cap, [], rfl, .inl ⟨List.eq_nil_of_length_eq_zero (by omega), rfl⟩, fun b hb => by cases hb⟩
end Go.Proofs.YtjkimadnopeakaaGreatDoor

/- partsMade and queryCopy of the program. -/
namespace Go.Proofs.YtjkimadnopeakaaGreatDoor
open Go.RowKit
set_option linter.unusedVariables false

theorem six_one (q : Qy) (p : Option Addr) (c : Nat) : ∀ u ∈ qVal q p c, u.oneCell' = true := by
  intro u hu
  unfold qVal at hu
  simp only [List.mem_cons, List.not_mem_nil, or_false] at hu
  rcases hu with rfl | rfl | rfl | rfl | rfl | rfl <;> rfl
/-- What is made of a question lies in blocks of its own. -/
def Makes (d' : Nat) (fid : FuncId) (q q' : Qy) (p : Option Addr) (c : Nat) (w : World) : Prop :=
  Calls Tryz.prog fid #[.agg #[.int .i64 q.kind, .string q.field, .string q.text, .int .i64 q.low, .int .i64 q.high, .slice p q.parts.length c]] w fun e w' => ∃ p' c' fp, e = .returned (.agg #[.int .i64 q'.kind, .string q'.field, .string q'.text, .int .i64 q'.low, .int .i64 q'.high, .slice p' q'.parts.length c']) ∧ (QOwn w' d' p' c' q'.parts fp ∧ ∀ b ∈ fp, w.heap.size ≤ b) ∧ Below w.heap.size w w'
theorem partsMade_nil (fid : FuncId) (a : Option Addr) (c : Nat) (w : World) : Calls Tryz.prog 104 #[.slice a 0 c, .func (.func fid) #[] #[]] w fun e w' => e = .returned (.slice none 0 0) ∧ w' = w := by
  go_enter Tryz.func104, Tryz.ntmps104
  go_wp2
  refine wp_loop_rounds 1 ?_
  rw [rounds_succ]
  go_wp2
  go_ret
  exact ⟨rfl, rfl⟩
set_option maxRecDepth 100000 in
set_option maxHeartbeats 4000000 in
theorem partsMade_any (fid : FuncId) (hfid : fid = 58 ∨ fid = 103) (d d' : Nat) (ps : List Qy) (made : Nat → Qy) (rs : List Qy) (hrs : (List.range ps.length).map made = rs) (a : Option Addr) (c : Nat) (w : World) (ha : QAt w 0 (d + 1) a ps) (hz : ps.length ≤ 1048576)
    (hm : ∀ i, i < ps.length → ∀ p c wx, Below w.heap.size w wx → QAt wx 0 d p (qat ps i).parts → Makes d' fid (qat ps i) (made i) p c wx) :
    Calls Tryz.prog 104 #[.slice a ps.length c, .func (.func fid) #[] #[]] w fun e w' => ∃ p' c' fp, e = .returned (.slice p' rs.length c') ∧ (QOwn w' (d' + 1) p' c' rs fp ∧ ∀ b ∈ fp, w.heap.size ≤ b) ∧ Below w.heap.size w w' := by
  obtain ⟨i0, hi0, hz0, hz1, hz2⟩ := info_parts infoQy
  have HA : Hid (∀ wx, Below w.heap.size w wx → QAt wx 0 (d + 1) a ps) := fun wx h => ha.below h
  have HM : Hid (∀ i, i < ps.length → ∀ p c wx, Below w.heap.size w wx → QAt wx 0 d p (qat ps i).parts → Makes d' fid (qat ps i) (made i) p c wx) := hm
  have HRS : Hid ((List.range ps.length).map made = rs) := hrs
  clear ha hm hrs
  rcases hfid with rfl | rfl
  all_goals
    go_enter Tryz.func104, Tryz.ntmps104
    go_wp2
    go_loopw [5, 10] (fun v i wr => ∃ (j : Nat) (xs : List Value) (fps : Nat → List Nat), j ≤ ps.length ∧ i = .int .i64 j ∧ QList wr w.heap.size d' v xs ((List.range j).map made) fps ∧ Below w.heap.size w wr) (fun _ i _ => ps.length - (intOf i).toNat)
    case atStart => exact ⟨0, [], fun _ => [], Nat.zero_le _, rfl, QList.nil _ _ _, Below.refl _ _⟩
    case round =>
      obtain ⟨j, xs, fps, hj, rfl, hql, hbel⟩ := hrel
      by_cases hlt : j < ps.length
      · have hji : (j : Int) < (ps.length : Int) := by omega
        obtain ⟨g, off, rfl, _, hg, hc⟩ := (HA.out wr hbel) (by omega)
        obtain ⟨p, c, ⟨c0, c1, c2, c3, c4, c5⟩, hq⟩ := hc j hlt
        have HMJ : Hid (∀ p c wx, Below w.heap.size w wx → QAt wx 0 d p (qat ps j).parts → Makes d' _ (qat ps j) (made j) p c wx) := HM.out j hlt
        have HSN : Hid ((List.range (j + 1)).map made = (List.range j).map made ++ [made j]) := by unfold Hid; rw [List.range_succ, List.map_append]; rfl
        have HLJ : Hid (((List.range j).map made).length = j) := by unfold Hid; simp
        generalize made j = q' at *
        generalize qat ps j = q at *
        obtain ⟨kd, f, t, lo, hi', pp⟩ := q
        simp only [Qy.kind, Qy.field, Qy.text, Qy.low, Qy.high, Qy.parts] at c0 c1 c2 c3 c4 c5 hq
        have hba : Below wr.heap.size wr (wr.alloc (.cells #[.int .i64 kd, .string f, .string t, .int .i64 lo, .int .i64 hi', .slice p pp.length c] 41)) := (Below.refl _ wr).alloc (Nat.le_refl _) _
        have hqa := hq.below hba
        have hwa := hbel.trans (hba.mono hbel.size)
        have HMK := HMJ.out p c _ hwa hqa
        have HQL : Hid (QList wr w.heap.size d' _ xs ((List.range j).map made) fps) := hql
        clear hc hql HM
        generalize (List.range j).map made = qs at *
        go_wp2_with fail
        refine HMK.mono ?_
        rintro e w2 ⟨p', c', fp, rfl, ⟨hq2, hfp2⟩, hb2⟩
        have hw2 := hwa.trans (hb2.mono hwa.size)
        have hwr2 := hba.trans (hb2.mono hba.size)
        clear c0 c1 c2 c3 c4 c5 hq hqa hwa hba hb2 HMK HMJ
        obtain ⟨kd', f', t', lo', hi2, pp'⟩ := q'
        have h3 := (Below.refl w2.heap.size w2).alloc (Nat.le_refl _) (.cells #[.int .i64 kd', .string f', .string t', .int .i64 lo', .int .i64 hi2, .slice p' pp'.length c'] 41)
        have HR3 : Hid ((w2.alloc (.cells #[.int .i64 kd', .string f', .string t', .int .i64 lo', .int .i64 hi2, .slice p' pp'.length c'] 41)).ownsRow w.heap.size 41 6 _ qs.length xs) := (HQL.out.row.kept (grown_none hwr2) (Classical.em _)).alloc _
        have HW3 : Hid (Below w.heap.size w (w2.alloc (.cells #[.int .i64 kd', .string f', .string t', .int .i64 lo', .int .i64 hi2, .slice p' pp'.length c'] 41))) := hw2.trans (h3.mono hw2.size)
        have HWR3 : Hid (Below wr.heap.size wr (w2.alloc (.cells #[.int .i64 kd', .string f', .string t', .int .i64 lo', .int .i64 hi2, .slice p' pp'.length c'] 41))) := hwr2.trans (h3.mono hwr2.size)
        have HQ3 : Hid (QOwn (w2.alloc (.cells #[.int .i64 kd', .string f', .string t', .int .i64 lo', .int .i64 hi2, .slice p' pp'.length c'] 41)) d' p' c' pp' fp ∧ ∀ b ∈ fp, wr.heap.size ≤ b) := ⟨hq2.below h3, fun b hb => by have := hfp2 b hb; simp at this; omega⟩
        have HBR : Hid (w.heap.size ≤ wr.heap.size) := hbel.size
        have HLQ : Hid (qs.length ≤ 1048576) := by unfold Hid; rw [HLJ.out]; omega
        clear hq2 hfp2 hwr2 h3 hw2 hbel
        have T2 : Hid (∀ u ∈ [Value.int .i64 kd', .string f', .string t', .int .i64 lo', .int .i64 hi2, .slice p' pp'.length c'], u.oneCell' = true) := six_one (.mk kd' f' t' lo' hi2 pp') p' c'
        have T6 : Hid (qs.length + 1 ≤ maxLen) := by have := HLQ.out; unfold Hid maxLen; omega
        have T4 : Hid ((qs.length + 1) * 80 ≤ 140737488355328) := by have := HLQ.out; unfold Hid; omega
        have T7 : Hid (w.heap.size ≤ (w2.alloc (.cells #[.int .i64 kd', .string f', .string t', .int .i64 lo', .int .i64 hi2, .slice p' pp'.length c'] 41)).heap.size) := HW3.out.size
        go_wp2_with (at_builtin; refine wpList_append_own_at _ rfl _ _ 39 rfl w.heap.size 41 i0 (.agg #[.int .i64 0, .string ⟨#[]⟩, .string ⟨#[]⟩, .int .i64 0, .int .i64 0, .slice none 0 0]) 6 80 Tryz.underlying39 hi0 hz0 hz1 hz2 rfl (by decide) _ _ _ rfl HR3.out ⟨w2.heap.size, 0, none⟩ 1 1 [.int .i64 kd', .string f', .string t', .int .i64 lo', .int .i64 hi2, .slice p' pp'.length c'] rfl rfl (cells_new _ _ _) T2.out T6.out T4.out T7.out ?_)
        intro v' w4 hown' hgrow _ hat
        have HN : Hid (QList w4 w.heap.size d' v' (xs ++ qVal (.mk kd' f' t' lo' hi2 pp') p' c') (qs ++ [.mk kd' f' t' lo' hi2 pp']) (fun i => if i = qs.length then fp else fps i)) := HQL.out.snoc HBR.out HWR3.out HQ3.out.1 HQ3.out.2 hown' hgrow (by rw [World.size_alloc]; exact hat)
        have HW4 : Hid (Below w.heap.size w w4) := HW3.out.grown hgrow HW3.out.size (fun j hj => (HQL.out.row.lt j hj).1)
        clear hown' hgrow hat HQL HR3 HW3 HWR3 HQ3 T2 T6 T4 T7
        go_wp2
        go_roundw
        case rel => exact ⟨j + 1, _, _, by omega, by go_num, by rw [HSN.out]; exact HN.out, HW4.out⟩
        case measure => simp [intOf]; omega
      · have hjl : j = ps.length := by omega
        subst hjl
        rw [HRS.out] at hql
        obtain ⟨p', c', fp, hv, hq, hf⟩ := hql.own
        subst hv
        have HQ : Hid (QOwn wr (d' + 1) p' c' rs fp ∧ ∀ b ∈ fp, w.heap.size ≤ b) := ⟨hq, hf⟩
        clear hql hq hf HA HM HRS
        go_wp2
        go_ret
        exact ⟨p', c', fp, rfl, HQ.out, hbel⟩
end Go.Proofs.YtjkimadnopeakaaGreatDoor

/- laws.toQuery: a tree is copied into blocks of its own. -/
namespace Go.Proofs.YtjkimadnopeakaaGreatDoor
open Go.RowKit
set_option linter.unusedVariables false

/-- The first k elements of a row are these questions, each in blocks of its own. -/
def QToO (w : World) (B d : Nat) (xs : List Value) (ps : List Qy) (k : Nat) : Prop := ∃ fps : Nat → List Nat, (∀ i, i < k → ∃ p c, Qx xs i (qat ps i) p c ∧ QOwn w d p c (qat ps i).parts (fps i) ∧ ∀ b ∈ fps i, B ≤ b) ∧ (fpAll fps k).Nodup
theorem QToO.kept {w w' : World} {B d k : Nat} {xs : List Value} {ps : List Qy} (h : QToO w B d xs ps k) (hb : ∀ b, B ≤ b → b < w.heap.size → w'.heap[b]? = w.heap[b]?) : QToO w' B d xs ps k := by
  obtain ⟨fps, h1, h2⟩ := h
  refine ⟨fps, fun i hi => ?_, h2⟩
  obtain ⟨p, c, hx, hq, hl⟩ := h1 i hi
  exact ⟨p, c, hx, hq.kept fun b hb' => hb b (hl b hb') (hq.lt b hb'), hl⟩
theorem nodup_snoc {fps : Nat → List Nat} {k N : Nat} {fp : List Nat} (h : (fpAll fps k).Nodup) (ho : ∀ b ∈ fpAll fps k, b < N) (hf : fp.Nodup) (hN : ∀ b ∈ fp, N ≤ b) : (fpAll (fun i => if i = k then fp else fps i) (k + 1)).Nodup := by
  rw [fpAll_succ, fpAll_congr (fqs := fps) (fun i hi => if_neg (by omega)), if_pos rfl, List.nodup_append]
  exact ⟨h, hf, fun a ha b hb e => by have := ho a ha; have := hN b hb; omega⟩
theorem QToO.step {w w2 : World} {B d k : Nat} {xs : List Value} {ps : List Qy} {p : Option Addr} {c : Nat} {fp : List Nat} (h : QToO w B d xs ps k) (hk : k * 6 + 5 < xs.length) (hb : ∀ b, b < w.heap.size → w2.heap[b]? = w.heap[b]?) (hBw : B ≤ w.heap.size) (hq : QOwn w2 d p c (qat ps k).parts fp) (hf : ∀ b ∈ fp, w.heap.size ≤ b) :
    QToO w2 B d ((((((xs.set (k * 6) (.int .i64 (qat ps k).kind)).set (k * 6 + 1) (.string (qat ps k).field)).set (k * 6 + 2) (.string (qat ps k).text)).set (k * 6 + 3) (.int .i64 (qat ps k).low)).set (k * 6 + 4) (.int .i64 (qat ps k).high)).set (k * 6 + 5) (.slice p (qat ps k).parts.length c)) ps (k + 1) := by
  obtain ⟨fps, h1, h2⟩ := h
  refine ⟨fun i => if i = k then fp else fps i, fun i hi => ?_, nodup_snoc h2 (fun b hb' => ?_) hq.nodup hf⟩
  · by_cases e : i = k
    · subst e
      simp only [if_pos]
      exact ⟨p, c, fun j hj => by rw [set6_at _ _ _ _ _ _ hk i j hj, if_pos rfl]; rfl, hq, fun b hb' => Nat.le_trans hBw (hf b hb')⟩
    · obtain ⟨p', c', hx, hq', hl⟩ := h1 i (by omega)
      simp only [if_neg e]
      exact ⟨p', c', fun j hj => by rw [set6_at _ _ _ _ _ _ hk i j hj, if_neg e]; exact hx j hj, hq'.kept fun b hb' => hb b (hq'.lt b hb'), hl⟩
  · obtain ⟨i, hi, hbi⟩ := mem_fpAll.1 hb'
    obtain ⟨p', c', _, hq', _⟩ := h1 i hi
    exact hq'.lt b hbi
theorem QToO.own {w : World} {g d c : Nat} {xs : List Value} {ps : List Qy} (h : QToO w (g + 1) d xs ps ps.length) (ho : w.ownsRow g 41 6 (.slice (some ⟨g, 0, none⟩) ps.length c) ps.length xs) : ∃ fp, QOwn w (d + 1) (some ⟨g, 0, none⟩) c ps fp ∧ ∀ b ∈ fp, g ≤ b := by
  obtain ⟨fps, h1, h2⟩ := h
  by_cases h0 : 0 < ps.length
  · refine ⟨g :: fpAll fps ps.length, .inr ⟨g, xs, fps, h0, rfl, ho, rfl, List.nodup_cons.2 ⟨fun hm => ?_, h2⟩, fun i hi => ?_⟩, fun b hb => ?_⟩
    · obtain ⟨i, hi, hb⟩ := mem_fpAll.1 hm
      obtain ⟨p, c', _, _, hl⟩ := h1 i hi
      have := hl g hb
      omega
    · obtain ⟨p, c', hx, hq, _⟩ := h1 i hi
      exact ⟨p, c', hx, hq⟩
    · rcases List.mem_cons.1 hb with rfl | hb
      · exact Nat.le_refl _
      · obtain ⟨i, hi, hb⟩ := mem_fpAll.1 hb
        obtain ⟨p, c', _, _, hl⟩ := h1 i hi
        have := hl b hb
        omega
  · exact ⟨[], .inl ⟨List.eq_nil_of_length_eq_zero (by omega), rfl⟩, fun b hb => by cases hb⟩
theorem own_base {w : World} {B C d c : Nat} {a : Option Addr} {ps : List Qy} {fp : List Nat} (hC : C ≤ B) (h : QOwn w d a c ps fp ∧ ∀ b ∈ fp, B ≤ b) : QOwn w d a c ps fp ∧ ∀ b ∈ fp, C ≤ b := ⟨h.1, fun b hb => Nat.le_trans hC (h.2 b hb)⟩
theorem own_setQ {w : World} {B d c : Nat} {a : Option Addr} {ps : List Qy} {fp : List Nat} (h : QOwn w d a c ps fp ∧ ∀ b ∈ fp, B ≤ b) {x : Addr} (hx : x.block < B) (v : Value) : QOwn (w.setCell x v) d a c ps fp ∧ ∀ b ∈ fp, B ≤ b :=
  ⟨h.1.kept fun b hb => Below.heap_setCell _ _ _ _ (by have := h.2 b hb; omega), h.2⟩
/-- toQuery at trees whose parts are at most d deep: what it makes is its own. -/
def ToQO (d : Nat) : Prop := ∀ (k : Int) (f t : ByteArray) (lo hi : Int) (ps : List Qy) (a : Option Addr) (c : Nat) (w : World), QAt w 0 d a ps → QSz 1048576 d ps →
  Calls Tryz.prog 16 #[.agg #[.int .i64 k, .string f, .string t, .int .i64 lo, .int .i64 hi, .slice a ps.length c]] w fun e w' => ∃ p c' fp, e = .returned (.agg #[.int .i64 k, .string f, .string t, .int .i64 lo, .int .i64 hi, .slice p ps.length c']) ∧ (QOwn w' d p c' ps fp ∧ ∀ b ∈ fp, w.heap.size ≤ b) ∧ Below w.heap.size w w'
def ToQSO (d : Nat) : Prop := ∀ (ps : List Qy) (a : Option Addr) (c : Nat) (w : World), QAt w 0 d a ps → QSz 1048576 d ps →
  Calls Tryz.prog 42 #[.slice a ps.length c] w fun e w' => ∃ p c' fp, e = .returned (.slice p ps.length c') ∧ (QOwn w' d p c' ps fp ∧ ∀ b ∈ fp, w.heap.size ≤ b) ∧ Below w.heap.size w w'
set_option maxRecDepth 100000 in
set_option maxHeartbeats 2000000 in
theorem toQSO_step {d : Nat} (hT : ToQO d) : ToQSO (d + 1) := by
  intro ps a cap w ha hsz
  obtain ⟨i0, hi, hz0, hz1, hz2⟩ := info_parts infoQy
  have HT : Hid (ToQO d) := hT
  have HA : Hid (∀ wx, Below w.heap.size w wx → QAt wx 0 (d + 1) a ps) := fun wx h => ha.below h
  have hz := hsz.len
  have HS : Hid (∀ i, i < ps.length → QSz 1048576 d (qat ps i).parts) := fun i hi => (hsz.2 i hi).2.2
  clear ha hsz hT
  go_enter Tryz.func42, Tryz.ntmps42
  go_wp2_with (refine wpList_make_full _ rfl _ _ 39 rfl w.heap.size 41 i0 (.agg #[.int .i64 0, .string ⟨#[]⟩, .string ⟨#[]⟩, .int .i64 0, .int .i64 0, .slice none 0 0]) 6 Tryz.underlying39 hi hz0 hz1 .i64 .i64 _ _ ps.length rfl rfl rfl rfl (by rw [hz2]; omega) (by unfold maxLen; omega) (Nat.le_refl _) ?_; intro w1 hown1 hgrow1)
  have hb1 : Below w.heap.size w w1 := (Below.refl _ w).grown hgrow1 (Nat.le_refl _) (fun j hj => by cases hj)
  generalize (madeCells (Value.agg #[.int .i64 0, .string ⟨#[]⟩, .string ⟨#[]⟩, .int .i64 0, .int .i64 0, .slice none 0 0]).cells (ps.length * 6)).toList = x0 at hown1
  have HO : Hid (w1.ownsRow w.heap.size 41 6 (.slice (some ⟨w.heap.size, 0, none⟩) ps.length ps.length) ps.length x0) := hown1
  clear hown1 hgrow1
  go_wp2
  go_loopw [4] (fun i wr => ∃ (k : Nat) (xs : List Value), k ≤ ps.length ∧ i = .int .i64 k ∧ wr.ownsRow w.heap.size 41 6 (.slice (some ⟨w.heap.size, 0, none⟩) ps.length ps.length) ps.length xs ∧ QToO wr (w.heap.size + 1) d xs ps k ∧ Below w.heap.size w wr) (fun i _ => ps.length - (intOf i).toNat)
  case atStart => exact ⟨0, x0, Nat.zero_le _, rfl, HO.out, ⟨fun _ => [], fun i hi => by omega, by simp [fpAll]⟩, hb1⟩
  case round =>
    clear HO
    obtain ⟨k, xs, hk, rfl, hown, hto, hbel⟩ := hrel
    by_cases hlt : k < ps.length
    · have hki : (k : Int) < (ps.length : Int) := by omega
      obtain ⟨g, off, rfl, _, hg, hc⟩ := (HA.out wr hbel) (by omega)
      obtain ⟨p, c, ⟨c0, c1, c2, c3, c4, c5⟩, hq⟩ := hc k hlt
      have hxl := hown.1
      have HTO : Hid (QToO wr (w.heap.size + 1) d xs ps k) := hto
      have HOW : Hid (wr.ownsRow w.heap.size 41 6 (.slice (some ⟨w.heap.size, 0, none⟩) ps.length ps.length) ps.length xs) := hown
      have hss := HS.out k hlt
      have hgl := (hown.lt _ rfl).2
      have hkx : k * 6 + 5 < xs.length := by omega
      have HST : Hid (∀ wx p c fp, (∀ b, b < wr.heap.size → wx.heap[b]? = wr.heap[b]?) → QOwn wx d p c (qat ps k).parts fp → (∀ b ∈ fp, wr.heap.size ≤ b) → QToO wx (w.heap.size + 1) d ((((((xs.set (k * 6) (.int .i64 (qat ps k).kind)).set (k * 6 + 1) (.string (qat ps k).field)).set (k * 6 + 2) (.string (qat ps k).text)).set (k * 6 + 3) (.int .i64 (qat ps k).low)).set (k * 6 + 4) (.int .i64 (qat ps k).high)).set (k * 6 + 5) (.slice p (qat ps k).parts.length c)) ps (k + 1)) := fun wx p c fp h1 h2 h3 => HTO.out.step hkx h1 (Nat.succ_le_of_lt (show w.heap.size < wr.heap.size from hgl)) h2 h3
      generalize qat ps k = q at *
      obtain ⟨kd, f, t, lo, hi', pp⟩ := q
      simp only [Qy.kind, Qy.field, Qy.text, Qy.low, Qy.high, Qy.parts] at c0 c1 c2 c3 c4 c5 hq hss HST
      clear hc hto hown
      go_wp2_with fail
      refine (HT.out kd f t lo hi' pp p c wr hq hss).mono ?_
      rintro e w2 ⟨p2, c2', fp2, rfl, ⟨hq2, hf2⟩, hb2⟩
      have ho2 := HOW.out.kept (grown_none hb2) (Classical.em _)
      have ht2 := HST.out w2 p2 c2' fp2 hb2.block hq2 hf2
      obtain ⟨ho3, hg3⟩ := ho2.stored (k * 6) (.int .i64 kd)
      obtain ⟨ho4, hg4⟩ := ho3.stored (k * 6 + 1) (.string f)
      obtain ⟨ho5, hg5⟩ := ho4.stored (k * 6 + 2) (.string t)
      obtain ⟨ho6, hg6⟩ := ho5.stored (k * 6 + 3) (.int .i64 lo)
      obtain ⟨ho7, hg7⟩ := ho6.stored (k * 6 + 4) (.int .i64 hi')
      obtain ⟨ho8, hg8⟩ := ho7.stored (k * 6 + 5) (.slice p2 pp.length c2')
      have hg28 := grown_then (grown_then (grown_then (grown_then (grown_then hg3 hg4) hg5) hg6) hg7) hg8
      have HN : Hid (QToO _ (w.heap.size + 1) d _ ps (k + 1)) := ht2.kept (fun b h1 h2 => hg28.block b h2 (by simp; omega))
      have HB : Hid (Below w.heap.size w _) := (hbel.trans (hb2.mono hbel.size)).grown hg28 (by have := hbel.size; have := hb2.size; omega) (fun j hj => by cases hj; exact Nat.le_refl _)
      have HO8 : Hid _ := ho8
      have hd : ∀ j, j < 6 → ∃ u, w2.cell? ⟨w.heap.size, k * 6 + j, none⟩ = some u := fun j hj => by
        rw [ho2.cellAt (k * 6 + j) (by omega)]
        exact ⟨_, List.getElem?_eq_getElem (by omega)⟩
      obtain ⟨o0, d0⟩ := hd 0 (by omega)
      obtain ⟨o1, d1⟩ := hd 1 (by omega)
      obtain ⟨o2, d2⟩ := hd 2 (by omega)
      obtain ⟨o3, d3⟩ := hd 3 (by omega)
      obtain ⟨o4, d4⟩ := hd 4 (by omega)
      obtain ⟨o5, d5⟩ := hd 5 (by omega)
      rw [Nat.add_zero] at d0
      have f0 := ho2.frozenAt (k * 6)
      have f1 := ho2.frozenAt (k * 6 + 1)
      have f2 := ho2.frozenAt (k * 6 + 2)
      have f3 := ho2.frozenAt (k * 6 + 3)
      have f4 := ho2.frozenAt (k * 6 + 4)
      have f5 := ho2.frozenAt (k * 6 + 5)
      clear ho2 ho3 ho4 ho5 ho6 ho7 ho8 hg3 hg4 hg5 hg6 hg7 hg8 hg28 hd HST HTO HOW ht2 hq2 hb2 hbel c0 c1 c2 c3 c4 c5 hq hss
      go_wp2
      go_roundw
      case rel => exact ⟨k + 1, _, by omega, by go_num, HO8.out, HN.out, HB.out⟩
      case measure => simp [intOf]; omega
    · have hkl : k = ps.length := by omega
      subst hkl
      obtain ⟨fp, hfo, hfl⟩ := hto.own (ownsRow_mono hown (Nat.le_refl _))
      have HQ : Hid (QOwn wr (d + 1) (some ⟨w.heap.size, 0, none⟩) ps.length ps fp ∧ ∀ b ∈ fp, w.heap.size ≤ b) := ⟨hfo, hfl⟩
      clear hown hto hfo hfl
      go_wp2
      go_ret
      exact ⟨_, _, fp, rfl, HQ.out, hbel⟩
theorem toQSO_zero : ToQSO 0 := by
  intro ps a cap w ha _
  have hp : ps = [] := ha
  subst hp
  refine (toQueryS_nil a cap w).mono ?_
  rintro e w' ⟨p, c, rfl, hb⟩
  exact ⟨p, c, [], rfl, ⟨⟨rfl, rfl⟩, fun b h => by cases h⟩, hb⟩
set_option maxHeartbeats 2000000 in
theorem toQO_of {d : Nat} (hS : ToQSO d) : ToQO d := by
  intro k f t lo hi ps a c w ha hsz
  have HS : Hid (ToQSO d) := hS
  have hb1 : Below w.heap.size w (w.alloc (.cells #[.int .i64 k, .string f, .string t, .int .i64 lo, .int .i64 hi, .slice a ps.length c] 28)) := (Below.refl _ w).alloc (Nat.le_refl _) _
  have hb2 := hb1.alloc hb1.size (.cells #[.int .i64 0, .string ⟨#[]⟩, .string ⟨#[]⟩, .int .i64 0, .int .i64 0, .slice none 0 0] 41)
  have hb3 := hb2.alloc hb2.size (.cells #[.int .i64 k, .string f, .string t, .int .i64 lo, .int .i64 hi, .slice none 0 0] 41)
  have ha3 := ha.below hb3
  have BZ := (Blk.new (w.alloc (.cells #[.int .i64 k, .string f, .string t, .int .i64 lo, .int .i64 hi, .slice a ps.length c] 28)) #[.int .i64 0, .string ⟨#[]⟩, .string ⟨#[]⟩, .int .i64 0, .int .i64 0, .slice none 0 0] 41).alloc (.cells #[.int .i64 k, .string f, .string t, .int .i64 lo, .int .i64 hi, .slice none 0 0] 41)
  have BO := Blk.new ((w.alloc (.cells #[.int .i64 k, .string f, .string t, .int .i64 lo, .int .i64 hi, .slice a ps.length c] 28)).alloc (.cells #[.int .i64 0, .string ⟨#[]⟩, .string ⟨#[]⟩, .int .i64 0, .int .i64 0, .slice none 0 0] 41)) #[.int .i64 k, .string f, .string t, .int .i64 lo, .int .i64 hi, .slice none 0 0] 41
  have hs3 : (((w.alloc (.cells #[.int .i64 k, .string f, .string t, .int .i64 lo, .int .i64 hi, .slice a ps.length c] 28)).alloc (.cells #[.int .i64 0, .string ⟨#[]⟩, .string ⟨#[]⟩, .int .i64 0, .int .i64 0, .slice none 0 0] 41)).alloc (.cells #[.int .i64 k, .string f, .string t, .int .i64 lo, .int .i64 hi, .slice none 0 0] 41)).heap.size = w.heap.size + 3 := by simp
  rw [show (w.alloc (.cells #[.int .i64 k, .string f, .string t, .int .i64 lo, .int .i64 hi, .slice a ps.length c] 28)).heap.size = w.heap.size + 1 by simp] at BZ
  rw [show ((w.alloc (.cells #[.int .i64 k, .string f, .string t, .int .i64 lo, .int .i64 hi, .slice a ps.length c] 28)).alloc (.cells #[.int .i64 0, .string ⟨#[]⟩, .string ⟨#[]⟩, .int .i64 0, .int .i64 0, .slice none 0 0] 41)).heap.size = w.heap.size + 1 + 1 by simp] at BO
  clear hS ha
  go_enter Tryz.func16, Tryz.ntmps16
  go_wp2_with fail
  generalize ((w.alloc (.cells #[.int .i64 k, .string f, .string t, .int .i64 lo, .int .i64 hi, .slice a ps.length c] 28)).alloc (.cells #[.int .i64 0, .string ⟨#[]⟩, .string ⟨#[]⟩, .int .i64 0, .int .i64 0, .slice none 0 0] 41)).alloc (.cells #[.int .i64 k, .string f, .string t, .int .i64 lo, .int .i64 hi, .slice none 0 0] 41) = w3 at *
  refine (HS.out ps a c _ ha3 hsz).mono ?_
  rintro e w4 ⟨p, c', fp, rfl, ⟨hq, hfp⟩, hb4⟩
  have hbw : Below w.heap.size w w4 := hb3.trans (hb4.mono hb3.size)
  have BZ4 := BZ.below hb4 (by omega)
  have BO4 := BO.below hb4 (by omega)
  have z0 := BZ4.cell 0
  have z1 := BZ4.cell 1
  have z2 := BZ4.cell 2
  have z3 := BZ4.cell 3
  have z4 := BZ4.cell 4
  have z5 := BZ4.cell 5
  have y0 := BO4.cell 0
  have y1 := BO4.cell 1
  have y2 := BO4.cell 2
  have y3 := BO4.cell 3
  have y4 := BO4.cell 4
  have y5 := BO4.cell 5
  have f0 := BZ4.frozen 0
  have f1 := BZ4.frozen 1
  have f2 := BZ4.frozen 2
  have f3 := BZ4.frozen 3
  have f4 := BZ4.frozen 4
  have f5 := BZ4.frozen 5
  have g5 := BO4.frozen 5
  simp at z0 z1 z2 z3 z4 z5 y0 y1 y2 y3 y4 y5
  rw [hs3] at hfp
  have HQ : Hid (QOwn w4 d p c' ps fp ∧ ∀ b ∈ fp, w.heap.size + 3 ≤ b) := ⟨hq, hfp⟩
  clear hb1 hb2 hb3 ha3 BZ BO hb4 BZ4 BO4 hq hs3 hfp
  go_wp2
  refine bodyPost_ret (v := .agg #[.int .i64 k, .string f, .string t, .int .i64 lo, .int .i64 hi, .slice p ps.length c']) (by simp [results, Tryz.results16, go_sem, z0, z1, z2, z3, z4, z5]) rfl ⟨p, c', fp, rfl, ?_, ?_⟩
  · refine own_base (B := w.heap.size + 3) (by omega) ?_
    exact own_setQ (own_setQ (own_setQ (own_setQ (own_setQ (own_setQ (own_setQ HQ.out (by simp) _) (by simp) _) (by simp) _) (by simp) _) (by simp) _) (by simp) _) (by simp) _
  · exact (((((((hbw.setCell (by simp; omega) _).setCell (by simp) _).setCell (by simp) _).setCell (by simp) _).setCell (by simp) _).setCell (by simp) _).setCell (by simp) _)
/-- A tree is copied. -/
theorem toQO_any : ∀ d, ToQO d ∧ ToQSO d
  | 0 => ⟨toQO_of toQSO_zero, toQSO_zero⟩
  | d + 1 => ⟨toQO_of (toQSO_step (toQO_any d).1), toQSO_step (toQO_any d).1⟩
end Go.Proofs.YtjkimadnopeakaaGreatDoor

/- queryCopy of the program. -/
namespace Go.Proofs.YtjkimadnopeakaaGreatDoor
open Go.RowKit
set_option linter.unusedVariables false

theorem range_qat (ps : List Qy) : (List.range ps.length).map (fun i => qat ps i) = ps := by
  apply List.ext_getElem
  · simp
  · intro i h1 h2
    simp [qat_get ps i h2]
/-- queryCopy at trees whose parts are at most D deep. -/
def CopyI (D : Nat) : Prop := ∀ (q : Qy) (a : Option Addr) (c : Nat) (w : World), QAt w 0 D a q.parts → QSz 1048576 D q.parts → q.field.size ≤ 1048576 → q.text.size ≤ 1048576 → Makes D 103 q q a c w
set_option maxRecDepth 100000 in
set_option maxHeartbeats 4000000 in
theorem copyI_of {D : Nat} (hF : ∀ D', D = D' + 1 → CopyI D') : CopyI D := by
  intro q a c w ha hsz hfs hts
  obtain ⟨k, f, t, lo, hi, ps⟩ := q
  simp only [Qy.field, Qy.text, Qy.parts] at ha hsz hfs hts
  unfold Makes
  simp only [Qy.kind, Qy.field, Qy.text, Qy.low, Qy.high, Qy.parts]
  have hb1 : Below w.heap.size w (w.alloc (.cells #[.int .i64 k, .string f, .string t, .int .i64 lo, .int .i64 hi, .slice a ps.length c] 41)) := (Below.refl _ w).alloc (Nat.le_refl _) _
  have hb2 := hb1.alloc hb1.size (.cells #[.int .i64 0, .string ⟨#[]⟩, .string ⟨#[]⟩, .int .i64 0, .int .i64 0, .slice none 0 0] 41)
  have BO := (Blk.new w #[.int .i64 k, .string f, .string t, .int .i64 lo, .int .i64 hi, .slice a ps.length c] 41).alloc (.cells #[.int .i64 0, .string ⟨#[]⟩, .string ⟨#[]⟩, .int .i64 0, .int .i64 0, .slice none 0 0] 41)
  have BZ := Blk.new (w.alloc (.cells #[.int .i64 k, .string f, .string t, .int .i64 lo, .int .i64 hi, .slice a ps.length c] 41)) #[.int .i64 0, .string ⟨#[]⟩, .string ⟨#[]⟩, .int .i64 0, .int .i64 0, .slice none 0 0] 41
  rw [show (w.alloc (.cells #[.int .i64 k, .string f, .string t, .int .i64 lo, .int .i64 hi, .slice a ps.length c] 41)).heap.size = w.heap.size + 1 by simp] at BZ
  have hsz0 : ((w.alloc (.cells #[.int .i64 k, .string f, .string t, .int .i64 lo, .int .i64 hi, .slice a ps.length c] 41)).alloc (.cells #[.int .i64 0, .string ⟨#[]⟩, .string ⟨#[]⟩, .int .i64 0, .int .i64 0, .slice none 0 0] 41)).heap.size = w.heap.size + 2 := by simp
  have HA : Hid (∀ wx, Below w.heap.size w wx → QAt wx 0 D a ps) := fun wx h => ha.below h
  have HF : Hid (∀ D', D = D' + 1 → CopyI D') := hF
  have HS : Hid (QSz 1048576 D ps) := hsz
  have hz := hsz.len
  clear ha hsz hF
  have HPM : Hid (∀ wx, Below w.heap.size w wx → Calls Tryz.prog 104 #[.slice a ps.length c, .func (.func 103) #[] #[]] wx fun e w' => ∃ p' c' fp, e = .returned (.slice p' ps.length c') ∧ (QOwn w' D p' c' ps fp ∧ ∀ b ∈ fp, wx.heap.size ≤ b) ∧ Below wx.heap.size wx w') := fun wx hbx => by
    cases D with
    | zero =>
      have e : ps = [] := HS.out
      subst e
      refine (partsMade_nil _ a c wx).mono ?_
      rintro e w' ⟨rfl, rfl⟩
      exact ⟨none, 0, [], rfl, ⟨⟨rfl, rfl⟩, fun b hb => by cases hb⟩, Below.refl _ _⟩
    | succ D' => exact partsMade_any _ (.inr rfl) D' D' ps (fun i => qat ps i) ps (range_qat ps) a c wx (HA.out wx hbx) hz (fun i hi p c wy hby hq => HF.out D' rfl (qat ps i) p c wy hq (HS.out.2 i hi).2.2 (HS.out.2 i hi).1 (HS.out.2 i hi).2.1)
  clear HA HF
  go_enter Tryz.func103, Tryz.ntmps103
  go_wp2_with fail
  generalize (w.alloc (.cells #[.int .i64 k, .string f, .string t, .int .i64 lo, .int .i64 hi, .slice a ps.length c] 41)).alloc (.cells #[.int .i64 0, .string ⟨#[]⟩, .string ⟨#[]⟩, .int .i64 0, .int .i64 0, .slice none 0 0] 41) = w2 at *
  refine (clone_any f _ (by omega)).mono ?_
  rintro e w3 ⟨rfl, hb3⟩
  have BO3 := BO.below hb3 (by omega)
  have BZ3 := BZ.below hb3 (by omega)
  have hw3 := hb2.trans (hb3.mono hb2.size)
  have y1 := BO3.cell 1
  have y2 := BO3.cell 2
  have g1 := BO3.frozen 1
  have hsz3 : w.heap.size + 2 ≤ w3.heap.size := by have := hb3.size; omega
  have BO4 := BO3.set 1 (.string f)
  have BZ4 := BZ3.other (p := ⟨w.heap.size, 1, none⟩) (by simp) (.string f)
  have hw4 := hw3.setCell (p := ⟨w.heap.size, 1, none⟩) (Nat.le_refl _) (.string f)
  simp at y1 y2
  clear BO BZ BO3 BZ3 hb3 hw3 hb1 hb2 hsz0
  go_wp2_with fail
  refine (clone_any t _ (by omega)).mono ?_
  rintro e w5 ⟨rfl, hb5⟩
  have BO4b : Blk (w3.setCell ⟨w.heap.size, 1, none⟩ (.string f)) w.heap.size #[.int .i64 k, .string f, .string t, .int .i64 lo, .int .i64 hi, .slice a ps.length c] 41 := BO4
  have BO5 := BO4b.below hb5 BO4b.lt
  have BZ5 := BZ4.below hb5 BZ4.lt
  have hw5 := hw4.trans (hb5.mono hw4.size)
  have hsz5 : w.heap.size + 2 ≤ w5.heap.size := by have := hb5.size; simp at this; omega
  have y2 := BO5.cell 2
  have y5 := BO5.cell 5
  have g2 := BO5.frozen 2
  have BO6 : Blk (w5.setCell ⟨w.heap.size, 2, none⟩ (.string t)) w.heap.size #[.int .i64 k, .string f, .string t, .int .i64 lo, .int .i64 hi, .slice a ps.length c] 41 := BO5.set 2 (.string t)
  have BZ6 := BZ5.other (p := ⟨w.heap.size, 2, none⟩) (by simp) (.string t)
  have hw6 := hw5.setCell (p := ⟨w.heap.size, 2, none⟩) (Nat.le_refl _) (.string t)
  simp at y2 y5
  clear BO4 BO4b BZ4 BO5 BZ5 hb5 hw4 hw5 y1 g1
  go_wp2_with fail
  refine (HPM.out _ hw6).mono ?_
  rintro e w7 ⟨p', c', fp, rfl, ⟨hq7, hf7⟩, hb7⟩
  have BO7 := BO6.below hb7 BO6.lt
  have BZ7 := BZ6.below hb7 BZ6.lt
  have hw7 := hw6.trans (hb7.mono hw6.size)
  have HQ : Hid (QOwn w7 D p' c' ps fp ∧ ∀ b ∈ fp, w.heap.size + 2 ≤ b) := ⟨hq7, fun b hb => by have := hf7 b hb; simp at this; omega⟩
  clear BO6 BZ6 hb7 hw6 hq7 hf7 y2 y5 g2 HPM hsz3
  have y0 := BO7.cell 0
  have y1 := BO7.cell 1
  have y2 := BO7.cell 2
  have y3 := BO7.cell 3
  have y4 := BO7.cell 4
  have y5 := BO7.cell 5
  have z0 := BZ7.cell 0
  have z1 := BZ7.cell 1
  have z2 := BZ7.cell 2
  have z3 := BZ7.cell 3
  have z4 := BZ7.cell 4
  have z5 := BZ7.cell 5
  have f0 := BZ7.frozen 0
  have f1 := BZ7.frozen 1
  have f2 := BZ7.frozen 2
  have f3 := BZ7.frozen 3
  have f4 := BZ7.frozen 4
  have f5 := BZ7.frozen 5
  have g5 := BO7.frozen 5
  simp at z0 z1 z2 z3 z4 z5 y0 y1 y2 y3 y4 y5
  clear BO7 BZ7
  go_wp2
  refine bodyPost_ret (v := .agg #[.int .i64 k, .string f, .string t, .int .i64 lo, .int .i64 hi, .slice p' ps.length c']) (by simp [results, Tryz.results103, go_sem, z0, z1, z2, z3, z4, z5]) rfl ⟨p', c', fp, rfl, ?_, ?_⟩
  · refine own_base (B := w.heap.size + 2) (by omega) ?_
    exact own_setQ (own_setQ (own_setQ (own_setQ (own_setQ (own_setQ (own_setQ HQ.out (by simp) _) (by simp) _) (by simp) _) (by simp) _) (by simp) _) (by simp) _) (by simp) _
  · exact (((((((hw7.setCell (by simp) _).setCell (by simp) _).setCell (by simp) _).setCell (by simp) _).setCell (by simp) _).setCell (by simp) _).setCell (by simp) _)
theorem copyI_any : ∀ D, CopyI D
  | 0 => copyI_of (fun D' h => by omega)
  | D + 1 => copyI_of (fun D' h => by obtain rfl : D = D' := by omega
                                      exact copyI_any D)
end Go.Proofs.YtjkimadnopeakaaGreatDoor

/- spec.l5Own: a question in new memory. -/
namespace Go.Proofs.YtjkimadnopeakaaGreatDoor
open Go.RowKit
set_option linter.unusedVariables false

/-- Parts at most d deep, in blocks of which S holds. -/
def QAv (w : World) (S : Nat → Prop) : Nat → Option Addr → List Qy → Prop
  | 0, _, ps => ps = []
  | d + 1, a, ps => 0 < ps.length → ∃ g off, a = some ⟨g, off, none⟩ ∧ S g ∧ g < w.heap.size ∧ ∀ i, i < ps.length → ∃ p c, QCells w g (off + i * 6) (qat ps i) p c ∧ QAv w S d p (qat ps i).parts
theorem QAt.drewQ {w : World} {B d : Nat} {a : Option Addr} {ps : List Qy} (h : QAt w B d a ps) : QAt w.drew B d a ps := QAt.kept (w := w) (w' := w.drew) (Nat.le_refl _) (fun _ _ _ => rfl) h
theorem QAv.of {w w' : World} {S S' : Nat → Prop} (hs : w.heap.size ≤ w'.heap.size) (hb : ∀ b, S b → b < w.heap.size → w'.heap[b]? = w.heap[b]? ∧ S' b) : ∀ {d : Nat} {a : Option Addr} {ps : List Qy}, QAv w S d a ps → QAv w' S' d a ps
  | 0, _, _, h => h
  | d + 1, a, ps, h => fun hp => by
    obtain ⟨g, off, e, h1, h2, hc⟩ := h hp
    refine ⟨g, off, e, (hb g h1 h2).2, Nat.lt_of_lt_of_le h2 hs, fun i hi => ?_⟩
    obtain ⟨p, c, hq, hr⟩ := hc i hi
    exact ⟨p, c, hq.of_block (hb g h1 h2).1, QAv.of hs hb hr⟩
theorem QAv.at {w : World} {B : Nat} : ∀ {d : Nat} {a : Option Addr} {ps : List Qy}, QAv w (fun b => B ≤ b) d a ps → QAt w B d a ps
  | 0, _, _, h => h
  | d + 1, a, ps, h => fun hp => by
    obtain ⟨g, off, e, h1, h2, hc⟩ := h hp
    refine ⟨g, off, e, h1, h2, fun i hi => ?_⟩
    obtain ⟨p, c, hq, hr⟩ := hc i hi
    exact ⟨p, c, hq, QAv.at hr⟩
theorem QAt.av {w : World} {B : Nat} : ∀ {d : Nat} {a : Option Addr} {ps : List Qy}, QAt w B d a ps → QAv w (fun b => B ≤ b) d a ps
  | 0, _, _, h => h
  | d + 1, a, ps, h => fun hp => by
    obtain ⟨g, off, e, h1, h2, hc⟩ := h hp
    refine ⟨g, off, e, h1, h2, fun i hi => ?_⟩
    obtain ⟨p, c, hq, hr⟩ := hc i hi
    exact ⟨p, c, hq, QAt.av hr⟩
/-- A list of questions in the making; their trees lie elsewhere. -/
structure VList (w : World) (S : Nat → Prop) (B d : Nat) (v : Value) (xs : List Value) (qs : List Qy) : Prop where
  row : w.ownsRow B 41 6 v qs.length xs
  el : ∀ i, i < qs.length → ∃ p c, Qx xs i (qat qs i) p c ∧ QAv w (fun b => S b ∧ v.ownBlock ≠ some b) d p (qat qs i).parts
theorem VList.nil (w : World) (S : Nat → Prop) (B d : Nat) : VList w S B d (.slice none 0 0) [] [] := ⟨World.ownsRow_nil _ _ _ _, fun i hi => absurd hi (by simp)⟩
theorem VList.below {w w' : World} {S : Nat → Prop} {B d : Nat} {v : Value} {xs : List Value} {qs : List Qy} (h : VList w S B d v xs qs) (hb : Below w.heap.size w w') : VList w' S B d v xs qs :=
  ⟨h.row.kept (grown_none hb) (Classical.em _), fun i hi => by obtain ⟨p, c, h1, h2⟩ := h.el i hi; exact ⟨p, c, h1, h2.of hb.size fun b hs hlt => ⟨hb.block b hlt, hs⟩⟩⟩
theorem VList.set {w : World} {S : Nat → Prop} {B d : Nat} {v : Value} {xs : List Value} {qs : List Qy} (h : VList w S B d v xs qs) {x : Addr} (hx : ¬ S x.block) (hB : x.block < B) (u : Value) : VList (w.setCell x u) S B d v xs qs :=
  ⟨ownsRow_setCell_below h.row hB u, fun i hi => by obtain ⟨p, c, h1, h2⟩ := h.el i hi; exact ⟨p, c, h1, h2.of (by simp [World.setCell]) fun b hs hlt => ⟨Below.heap_setCell _ _ _ _ (fun e => hx (e ▸ hs.1)), hs⟩⟩⟩
theorem VList.snoc {w w3 w4 : World} {S S1 : Nat → Prop} {B d c : Nat} {v v' : Value} {xs : List Value} {qs : List Qy} {q : Qy} {p : Option Addr} (h : VList w S B d v xs qs) (hb3 : Below w.heap.size w w3) (hq : QAv w3 S1 d p q.parts) (hS1 : ∀ b, S1 b → S b ∧ v.ownBlock ≠ some b)
    (ho : w4.ownsRow B 41 6 v' (qs.length + 1) (xs ++ qVal q p c)) (hg : w3.grownBy w4 v.ownBlock) (hat : v'.ownBlock = v.ownBlock ∨ v'.ownBlock = some w3.heap.size) :
    VList w4 S B d v' (xs ++ qVal q p c) (qs ++ [q]) := by
  have hxl := h.row.1
  have hne : ∀ b, b < w3.heap.size → v.ownBlock ≠ some b → v'.ownBlock ≠ some b := fun b hb h1 h2 => by
    rcases hat with e | e
    · exact h1 (e ▸ h2)
    · rw [e] at h2; cases h2; omega
  refine ⟨by simpa using ho, fun i hi => ?_⟩
  simp only [List.length_append, List.length_singleton] at hi
  by_cases e : i = qs.length
  · subst e
    rw [qat_app_last]
    refine ⟨p, c, fun j hj => ?_, hq.of hg.size fun b hs hlt => ⟨hg.block b hlt (fun e => (hS1 b hs).2 e.symm), (hS1 b hs).1, hne b hlt (hS1 b hs).2⟩⟩
    rw [List.getElem?_append_right (by omega), show qs.length * 6 + j - xs.length = j by omega]
  · have hi2 : i < qs.length := by omega
    rw [qat_app_left _ _ _ hi2]
    obtain ⟨p', c', h1, h2⟩ := h.el i hi2
    refine ⟨p', c', fun j hj => ?_, h2.of (Nat.le_trans hb3.size hg.size) fun b hs hlt => ⟨?_, hs.1, hne b (Nat.lt_of_lt_of_le hlt hb3.size) hs.2⟩⟩
    · rw [List.getElem?_append_left (by omega)]
      exact h1 j hj
    · rw [hg.block b (Nat.lt_of_lt_of_le hlt hb3.size) (fun e => hs.2 e.symm), hb3.block b hlt]
theorem VList.av {w : World} {S : Nat → Prop} {B d : Nat} {v : Value} {xs : List Value} {qs : List Qy} (h : VList w S B d v xs qs) (hS : ∀ b, B ≤ b → S b) : ∃ p c, v = .slice p qs.length c ∧ QAv w S (d + 1) p qs := by
  rcases h.row.2 with ⟨rfl, hn⟩ | ⟨g, cap, cur, rfl, hg, hr⟩
  · exact ⟨none, 0, by rw [hn], fun hp => by omega⟩
  · refine ⟨_, cap, rfl, fun hp => ⟨g, 0, rfl, hS g hg, (h.row.lt g rfl).2, fun i hi => ?_⟩⟩
    obtain ⟨p, c, h1, h2⟩ := h.el i hi
    have hrow : w.ownsRow g 41 6 (.slice (some ⟨g, 0, none⟩) qs.length cap) qs.length xs := ⟨h.row.1, .inr ⟨g, cap, cur, rfl, Nat.le_refl _, hr⟩⟩
    exact ⟨p, c, h1.cells hrow hi, h2.of (Nat.le_refl _) fun b hs _ => ⟨rfl, hs.1⟩⟩
end Go.Proofs.YtjkimadnopeakaaGreatDoor

/- Questions, drawn. -/
namespace Go.Proofs.YtjkimadnopeakaaGreatDoor
open Go.RowKit
set_option linter.unusedVariables false

theorem VList.grown {w w' : World} {S : Nat → Prop} {B d R : Nat} {v : Value} {xs : List Value} {qs : List Qy} (h : VList w S B d v xs qs) (hg : w.grownBy w' (some R)) (hR : ¬ S R) (hv : v.ownBlock ≠ some R) : VList w' S B d v xs qs :=
  ⟨h.row.kept hg (.inr hv), fun i hi => by obtain ⟨p, c, h1, h2⟩ := h.el i hi; exact ⟨p, c, h1, h2.of hg.size fun b hs hlt => ⟨hg.block b hlt (fun e => by cases e; exact hR hs.1), hs⟩⟩⟩
theorem VList.set2 {w : World} {S : Nat → Prop} {B d : Nat} {v : Value} {xs : List Value} {qs : List Qy} (h : VList w S B d v xs qs) (n o : Nat) (hx : ¬ S n) (hv : v.ownBlock ≠ some n) (u : Value) : VList (w.setCell ⟨n, o, none⟩ u) S B d v xs qs := h.grown (grown_set w n o u) hx hv
theorem VList.av2 {w : World} {S : Nat → Prop} {B d : Nat} {v : Value} {xs : List Value} {qs : List Qy} (h : VList w S B d v xs qs) (hS : ∀ b, v.ownBlock = some b → S b) : ∃ p c, v = .slice p qs.length c ∧ QAv w S (d + 1) p qs := by
  rcases h.row.2 with ⟨rfl, hn⟩ | ⟨g, cap, cur, rfl, hg, hr⟩
  · exact ⟨none, 0, by rw [hn], fun hp => by omega⟩
  · refine ⟨_, cap, rfl, fun hp => ⟨g, 0, rfl, hS g rfl, (h.row.lt g rfl).2, fun i hi => ?_⟩⟩
    obtain ⟨p, c, h1, h2⟩ := h.el i hi
    have hrow : w.ownsRow g 41 6 (.slice (some ⟨g, 0, none⟩) qs.length cap) qs.length xs := ⟨h.row.1, .inr ⟨g, cap, cur, rfl, Nat.le_refl _, hr⟩⟩
    exact ⟨p, c, h1.cells hrow hi, h2.of (Nat.le_refl _) fun b hs _ => ⟨rfl, hs.1⟩⟩
/-- While the parts of a question are drawn. -/
structure QQ (w wx : World) (R : Nat) (a : Option Addr) (len cap p M d : Nat) (kk : Int) (v : Value) (xs : List Value) (qs : List Qy) : Prop where
  rd : Rd wx R a len cap p
  z : Blk wx w.heap.size #[.int .i64 0, .string ⟨#[]⟩, .string ⟨#[]⟩, .int .i64 0, .int .i64 0, .slice none 0 0] 41
  x : Blk wx M #[.int .i64 kk, .string ⟨#[]⟩, .string ⟨#[]⟩, .int .i64 0, .int .i64 0, v] 41
  grown : w.grownBy wx (some R)
  lt : R < w.heap.size
  le : w.heap.size < M
  list : VList wx (fun b => w.heap.size < b ∧ b ≠ M) (w.heap.size + 1) d v xs qs
  own : v.ownBlock ≠ some M
theorem QQ.read {w wx wy : World} {R : Nat} {a : Option Addr} {len cap p q M d : Nat} {kk : Int} {v : Value} {xs : List Value} {qs : List Qy} (h : QQ w wx R a len cap p M d kk v xs qs) (hg : wx.grownBy wy (some R)) (hR : Rd wy R a len cap q) : QQ w wy R a len cap q M d kk v xs qs :=
  ⟨hR, h.z.grown hg (by have := h.lt; simp; omega), h.x.grown hg (by have := h.lt; have := h.le; simp; omega), grown_trans h.grown hg, h.lt, h.le, h.list.grown hg (by have := h.lt; intro hs; omega) (fun e => by have := (h.list.row.lt R e).1; have := h.lt; omega), h.own⟩
theorem QQ.snoc {w wa w7 : World} {R : Nat} {a : Option Addr} {len cap p M d L c2 : Nat} {kk : Int} {v v' : Value} {xs : List Value} {qs : List Qy} {q : Qy} {p2 : Option Addr} {o : Obj}
    (h : QQ w wa R a len cap p M d kk v xs qs) (hq : QAv wa (fun b => L ≤ b) d p2 q.parts) (hML : M < L) (hvL : ∀ b, v.ownBlock = some b → b < L)
    (ho : w7.ownsRow (w.heap.size + 1) 41 6 v' (qs.length + 1) (xs ++ qVal q p2 c2)) (hg : (wa.alloc o).grownBy w7 v.ownBlock) (hat : v'.ownBlock = v.ownBlock ∨ v'.ownBlock = some (wa.alloc o).heap.size) :
    QQ w (w7.setCell ⟨M, 5, none⟩ v') R a len cap p M d kk v' (xs ++ qVal q p2 c2) (qs ++ [q]) := by
  have hlt := h.lt
  have hle := h.le
  have hvlt : ∀ b, v.ownBlock = some b → w.heap.size + 1 ≤ b ∧ b < wa.heap.size := fun b e => h.list.row.lt b e
  have hMa : M < wa.heap.size := h.x.lt
  have hA : Below wa.heap.size wa (wa.alloc o) := (Below.refl _ _).alloc (Nat.le_refl _) _
  have hv' : v'.ownBlock ≠ some M := fun e => by
    rcases hat with e' | e'
    · exact h.own (e' ▸ e)
    · rw [e', World.size_alloc] at e; cases e; omega
  have hl7 : VList w7 (fun b => w.heap.size < b ∧ b ≠ M) (w.heap.size + 1) d v' (xs ++ qVal q p2 c2) (qs ++ [q]) :=
    h.list.snoc hA (QAv.of (S' := fun b => L ≤ b ∧ b < wa.heap.size) hA.size (fun b hs hb => ⟨hA.block b hb, hs, hb⟩) hq) (fun b hb => ⟨⟨by omega, by omega⟩, fun e => by have := hvL b e; omega⟩) ho hg hat
  have hne : ∀ j, v.ownBlock = some j → w.heap.size ≤ j := fun j e => by have := hvlt j e; omega
  have hRM : R ≠ M := by omega
  have hr7 : Rd w7 R a len cap p := (h.rd.alloc o).grown hg (fun j e => by have := hvlt j e; omega)
  refine ⟨(show Rd _ R a len cap p from (Below.heap_setCell _ _ _ _ hRM).trans hr7), ((h.z.alloc o).grown hg (fun e => by have := hvlt _ e.symm; omega)).other (by simp; omega) v', ?_, ?_, hlt, hle, hl7.set2 M 5 (fun hs => hs.2 rfl) hv' v', hv'⟩
  · exact ((h.x.alloc o).grown hg (fun e => h.own e.symm)).set 5 v'
  · exact grown_own (grown_own (grown_trans h.grown (grown_alloc _ _ _)) hg hne) (grown_set w7 M 5 v') (fun j e => by cases e; omega)
def QSs (d : Nat) (qs : List Qy) : Prop := ∀ i, i < qs.length → (qat qs i).field.size ≤ 16 ∧ (qat qs i).text.size ≤ 16 ∧ QSz 16 d (qat qs i).parts
theorem QSs.snoc {d : Nat} {qs : List Qy} {q : Qy} (h : QSs d qs) (hf : q.field.size ≤ 16) (ht : q.text.size ≤ 16) (hs : QSz 16 d q.parts) : QSs d (qs ++ [q]) := fun i hi => by
  simp only [List.length_append, List.length_singleton] at hi
  by_cases e : i = qs.length
  · subst e
    rw [qat_app_last]
    exact ⟨hf, ht, hs⟩
  · rw [qat_app_left _ _ _ (by omega)]
    exact h i (by omega)
theorem avs6 {w : World} {S : Nat → Prop} {d n : Nat} {a : Option Addr} {ps : List Qy} (h : QAv w S d a ps) (hn : ¬ S n) (v0 v1 v2 v3 v4 v5 : Value) : QAv ((((((w.setCell ⟨n, 0, none⟩ v0).setCell ⟨n, 1, none⟩ v1).setCell ⟨n, 2, none⟩ v2).setCell ⟨n, 3, none⟩ v3).setCell ⟨n, 4, none⟩ v4).setCell ⟨n, 5, none⟩ v5) S d a ps := by
  have one : ∀ {w : World} (o : Nat) (v : Value), QAv w S d a ps → QAv (w.setCell ⟨n, o, none⟩ v) S d a ps := fun o v h => h.of (by simp [World.setCell]) fun b hs _ => ⟨Below.heap_setCell _ _ _ _ (fun e => hn (by have e' : b = n := e; rw [← e']; exact hs)), hs⟩
  exact one 5 v5 (one 4 v4 (one 3 v3 (one 2 v2 (one 1 v1 (one 0 v0 h)))))
def agg6 (q : Qy) (p : Option Addr) (c : Nat) : Value := .agg #[.int .i64 q.kind, .string q.field, .string q.text, .int .i64 q.low, .int .i64 q.high, .slice p q.parts.length c]
/-- A drawn question, down to n. -/
def DrawQ (n : Nat) : Prop := ∀ (R : Nat) (a : Option Addr) (len cap k0 : Nat) (fv : Value) (w : World), Rd w R a len cap k0 → Code w R a len → k0 + 10 * 4 ^ n ≤ 800000 →
  Calls Tryz.prog 96 #[.pointer (some ⟨R, 0, none⟩), fv, .int .i64 (n : Nat)] w fun e w' => ∃ (q : Qy) (p : Option Addr) (c kq : Nat), e = .returned (agg6 q p c) ∧ q.field.size ≤ 16 ∧ q.text.size ≤ 16 ∧ QAv w' (fun b => w.heap.size ≤ b) (n - 1) p q.parts ∧ QSz 16 (n - 1) q.parts ∧ kq ≤ k0 + 10 * 4 ^ n ∧ Rd w' R a len cap kq ∧ w.grownBy w' (some R)
theorem nil_av (w : World) (S : Nat → Prop) (d : Nat) (p : Option Addr) : QAv w S d p [] := by
  cases d with
  | zero => rfl
  | succ d => exact fun hp => absurd hp (by simp)
theorem nil_sz (n d : Nat) : QSz n d [] := by
  cases d with
  | zero => rfl
  | succ d => exact ⟨Nat.zero_le _, fun i hi => absurd hi (by simp)⟩
set_option maxRecDepth 100000 in
set_option maxHeartbeats 8000000 in
theorem drawQ_step {n : Nat} (hn : n ≤ 3) (hF : ∀ m, n = m + 1 → 1 ≤ m → DrawQ m) : DrawQ n := by
  intro R a len cap k0 fv w hR hC hk
  obtain ⟨i0, hi0, hz0, hz1, hz2⟩ := info_parts infoQy
  have hlt := hR.lt
  have HF : Hid (∀ m, n = m + 1 → 1 ≤ m → DrawQ m) := hF
  have hRa := hR.alloc (.cells #[.int .i64 0, .string ⟨#[]⟩, .string ⟨#[]⟩, .int .i64 0, .int .i64 0, .slice none 0 0] 41)
  have hga := grown_alloc w (.cells #[.int .i64 0, .string ⟨#[]⟩, .string ⟨#[]⟩, .int .i64 0, .int .i64 0, .slice none 0 0] 41) R
  have BZ := Blk.new w #[.int .i64 0, .string ⟨#[]⟩, .string ⟨#[]⟩, .int .i64 0, .int .i64 0, .slice none 0 0] 41
  have HC : Hid (∀ wx, w.grownBy wx (some R) → Code wx R a len) := fun wx h => hC.kept h hlt
  have hpow : 1 ≤ 4 ^ n := Nat.pow_pos (by decide)
  have HP : Hid (∀ kq, kq ≤ k0 + 10 → kq ≤ k0 + 10 * 4 ^ n) := fun kq h => by omega
  obtain ⟨di, hdi⟩ : ∃ di : Int, ((n : Nat) : Int) = di := ⟨_, rfl⟩
  obtain ⟨w1, hw1⟩ : ∃ w1, w.alloc (.cells #[.int .i64 0, .string ⟨#[]⟩, .string ⟨#[]⟩, .int .i64 0, .int .i64 0, .slice none 0 0] 41) = w1 := ⟨_, rfl⟩
  have HW1 : Hid (w.alloc (.cells #[.int .i64 0, .string ⟨#[]⟩, .string ⟨#[]⟩, .int .i64 0, .int .i64 0, .slice none 0 0] 41) = w1) := hw1
  rw [hw1] at hRa hga BZ
  have HR1 : Hid (Rd w1 R a len cap k0) := hRa
  have HG1 : Hid (w.grownBy w1 (some R)) := hga
  have HZ1 : Hid (Blk w1 w.heap.size #[.int .i64 0, .string ⟨#[]⟩, .string ⟨#[]⟩, .int .i64 0, .int .i64 0, .slice none 0 0] 41) := BZ
  have hl1 := BZ.lt
  rw [hdi]
  clear hF hR hC hRa hga BZ hw1
  by_cases hd : di < 2
  · go_enter Tryz.func96, Tryz.ntmps96
    go_upto_region 1 with fail
    rw [HW1.out]
    clear HW1
    go_wp2_with fail
    refine (l11Leaf_any R a len cap k0 fv w1 HR1.out (HC.out _ HG1.out) (by omega)).mono ?_
    rintro e w2 ⟨k, lo, hi, f, t, p, rfl, hf, ht, hp, hR2, hg2⟩
    have Z := HZ1.out.grown hg2 (by simp; omega)
    have hg3 := grown_trans HG1.out hg2
    have hqr := rd_sets hR2 hlt (.int .i64 k) (.string f) (.string t) (.int .i64 lo) (.int .i64 hi) (.slice none 0 0)
    have hqg := grown_sets hg3 (.int .i64 k) (.string f) (.string t) (.int .i64 lo) (.int .i64 hi) (.slice none 0 0)
    have HQR : Hid _ := hqr
    have HQG : Hid _ := hqg
    have z0 := Z.cell 0
    have z1 := Z.cell 1
    have z2 := Z.cell 2
    have z3 := Z.cell 3
    have z4 := Z.cell 4
    have z5 := Z.cell 5
    have f0 := Z.frozen 0
    have f1 := Z.frozen 1
    have f2 := Z.frozen 2
    have f3 := Z.frozen 3
    have f4 := Z.frozen 4
    have f5 := Z.frozen 5
    simp at z0 z1 z2 z3 z4 z5
    clear Z hR2 hg2 hg3 hqr hqg HF HR1 HG1 HZ1
    go_wp2
    refine bodyPost_ret (v := agg6 (.mk k f t lo hi []) none 0) (by simp [agg6, Qy.kind, Qy.field, Qy.text, Qy.low, Qy.high, Qy.parts, results, Tryz.results96, go_sem, z0, z1, z2, z3, z4, z5]) rfl ⟨.mk k f t lo hi [], none, 0, p, rfl, hf, ht, nil_av _ _ _ _, nil_sz _ _, HP.out p (by omega), HQR.out, HQG.out⟩
  have hdd : decide (di < 2) = false := decide_eq_false hd
  obtain ⟨m, rfl⟩ : ∃ m, n = m + 1 := ⟨n - 1, by omega⟩
  have hm1 : 1 ≤ m := by omega
  have hd1 : di - 1 = (m : Int) := by omega
  have hd2 : di ≤ 3 := by omega
  have hd3 : 2 ≤ di := by omega
  have HPM : Hid (4 ^ (m + 1) = 4 * 4 ^ m ∧ 1 ≤ 4 ^ m ∧ 4 ^ m ≤ 16) := by
    refine ⟨by rw [Nat.pow_succ, Nat.mul_comm], Nat.pow_pos (by decide), ?_⟩
    rcases (show m = 1 ∨ m = 2 by omega) with rfl | rfl <;> decide
  have HMX : Hid (∀ (k0 : Nat) wx, Rd wx R a len cap k0 → Code wx R a len → k0 + 10 * 4 ^ m ≤ 800000 → Calls Tryz.prog 96 #[.pointer (some ⟨R, 0, none⟩), fv, .int .i64 (m : Nat)] wx fun e w' => ∃ (k lo hi : Int) (f t : ByteArray) (ps : List Qy) (p : Option Addr) (c kq : Nat), e = .returned (.agg #[.int .i64 k, .string f, .string t, .int .i64 lo, .int .i64 hi, .slice p ps.length c]) ∧ f.size ≤ 16 ∧ t.size ≤ 16 ∧ QAv w' (fun b => wx.heap.size ≤ b) (m - 1) p ps ∧ QSz 16 (m - 1) ps ∧ kq ≤ k0 + 10 * 4 ^ m ∧ Rd w' R a len cap kq ∧ wx.grownBy w' (some R)) := fun k0 wx h1 h2 h3 => by
    refine (HF.out m rfl hm1 R a len cap k0 fv wx h1 h2 h3).mono ?_
    rintro e w' ⟨q, p, c, kq, rfl, h4, h5, h6, h7, h8, h9, h10⟩
    obtain ⟨k, f, t, lo, hi, ps⟩ := q
    exact ⟨k, lo, hi, f, t, ps, p, c, kq, rfl, h4, h5, h6, h7, h8, h9, h10⟩
  have hr1 := HR1.out
  clear HF hd hpow
  go_enter Tryz.func96, Tryz.ntmps96
  go_upto_region 1 with fail
  rw [HW1.out]
  clear HW1
  go_wp2_with fail
  refine (pick_any R a len cap k0 2 w1 hr1 (HC.out _ HG1.out) (by omega) (by decide) (by decide)).mono ?_
  rintro e wp ⟨v, rfl, hv0, hv1, hRp, hgp⟩
  have HGP : Hid (w.grownBy wp (some R)) := grown_trans HG1.out hgp
  have HZP : Hid (Blk wp w.heap.size #[.int .i64 0, .string ⟨#[]⟩, .string ⟨#[]⟩, .int .i64 0, .int .i64 0, .slice none 0 0] 41) := HZ1.out.grown hgp (by simp; omega)
  clear hr1 HR1 HG1 HZ1 hgp
  by_cases hv : v = 0
  · subst hv
    go_wp2_with fail
    refine (l11Leaf_any R a len cap (k0 + 1) fv wp hRp (HC.out _ HGP.out) (by omega)).mono ?_
    rintro e w2 ⟨k, lo, hi, f, t, p, rfl, hf, ht, hp, hR2, hg2⟩
    have Z := HZP.out.grown hg2 (by simp; omega)
    have hg3 := grown_trans HGP.out hg2
    have hqr := rd_sets hR2 hlt (.int .i64 k) (.string f) (.string t) (.int .i64 lo) (.int .i64 hi) (.slice none 0 0)
    have hqg := grown_sets hg3 (.int .i64 k) (.string f) (.string t) (.int .i64 lo) (.int .i64 hi) (.slice none 0 0)
    have HQR : Hid _ := hqr
    have HQG : Hid _ := hqg
    have z0 := Z.cell 0
    have z1 := Z.cell 1
    have z2 := Z.cell 2
    have z3 := Z.cell 3
    have z4 := Z.cell 4
    have z5 := Z.cell 5
    have f0 := Z.frozen 0
    have f1 := Z.frozen 1
    have f2 := Z.frozen 2
    have f3 := Z.frozen 3
    have f4 := Z.frozen 4
    have f5 := Z.frozen 5
    simp at z0 z1 z2 z3 z4 z5
    clear Z hR2 hg2 hg3 hqr hqg HGP HZP hRp HMX
    go_wp2
    refine bodyPost_ret (v := agg6 (.mk k f t lo hi []) none 0) (by simp [agg6, Qy.kind, Qy.field, Qy.text, Qy.low, Qy.high, Qy.parts, results, Tryz.results96, go_sem, z0, z1, z2, z3, z4, z5]) rfl ⟨.mk k f t lo hi [], none, 0, p, rfl, hf, ht, nil_av _ _ _ _, nil_sz _ _, HP.out p (by omega), HQR.out, HQG.out⟩
  have hvb : (v == 0) = false := beq_eq_false_iff_ne.2 hv
  go_wp2_with fail
  refine (pick_any R a len cap (k0 + 1) 3 wp hRp (HC.out _ HGP.out) (by omega) (by decide) (by decide)).mono ?_
  rintro e w3 ⟨u, rfl, hu0, hu1, hR3, hg3⟩
  have HG3 : Hid (w.grownBy w3 (some R)) := grown_trans HGP.out hg3
  have HZ3 : Hid (Blk w3 w.heap.size #[.int .i64 0, .string ⟨#[]⟩, .string ⟨#[]⟩, .int .i64 0, .int .i64 0, .slice none 0 0] 41) := HZP.out.grown hg3 (by simp; omega)
  clear HGP HZP hRp hg3 hv hvb hv0 hv1
  go_wp2_with fail
  refine (HMX.out (k0 + 1 + 1) w3 hR3 (HC.out _ HG3.out) (by have := HPM.out; omega)).mono ?_
  rintro e w4 ⟨k1, lo1, hi1, f1, t1, ps1, p1, c1, kq1, rfl, hf1, ht1, hq1, hs1, hk1, hR4, hg4⟩
  have hl4 : w.heap.size + 1 ≤ w3.heap.size := HZ3.out.lt
  have hl34 := hg4.size
  have hA1 : Below w4.heap.size w4 (w4.alloc (.cells #[.int .i64 k1, .string f1, .string t1, .int .i64 lo1, .int .i64 hi1, .slice p1 ps1.length c1] 41)) := (Below.refl _ _).alloc (Nat.le_refl _) _
  have hA2 : Below w4.heap.size w4 ((w4.alloc (.cells #[.int .i64 k1, .string f1, .string t1, .int .i64 lo1, .int .i64 hi1, .slice p1 ps1.length c1] 41)).alloc (.cells #[.int .i64 (7 + u), .string ⟨#[]⟩, .string ⟨#[]⟩, .int .i64 0, .int .i64 0, .slice (some ⟨w4.heap.size, 0, none⟩) 1 1] 41)) := hA1.alloc (by simp) _
  have hqq : QQ w ((w4.alloc (.cells #[.int .i64 k1, .string f1, .string t1, .int .i64 lo1, .int .i64 hi1, .slice p1 ps1.length c1] 41)).alloc (.cells #[.int .i64 (7 + u), .string ⟨#[]⟩, .string ⟨#[]⟩, .int .i64 0, .int .i64 0, .slice (some ⟨w4.heap.size, 0, none⟩) 1 1] 41)) R a len cap kq1 (w4.heap.size + 1) (m - 1) (7 + u) (.slice (some ⟨w4.heap.size, 0, none⟩) 1 1) (qVal (.mk k1 f1 t1 lo1 hi1 ps1) p1 c1) [.mk k1 f1 t1 lo1 hi1 ps1] := by
    have hrow : (w4.alloc (.cells #[.int .i64 k1, .string f1, .string t1, .int .i64 lo1, .int .i64 hi1, .slice p1 ps1.length c1] 41)).ownsRow (w.heap.size + 1) 41 6 (.slice (some ⟨w4.heap.size, 0, none⟩) 1 1) 1 (qVal (.mk k1 f1 t1 lo1 hi1 ps1) p1 c1) := World.ownsRow_lit w4 #[.int .i64 k1, .string f1, .string t1, .int .i64 lo1, .int .i64 hi1, .slice p1 ps1.length c1] 1 (by omega) (by decide) rfl
    have hx := Blk.new (w4.alloc (.cells #[.int .i64 k1, .string f1, .string t1, .int .i64 lo1, .int .i64 hi1, .slice p1 ps1.length c1] 41)) #[.int .i64 (7 + u), .string ⟨#[]⟩, .string ⟨#[]⟩, .int .i64 0, .int .i64 0, .slice (some ⟨w4.heap.size, 0, none⟩) 1 1] 41
    rw [World.size_alloc] at hx
    refine ⟨(hR4.alloc _).alloc _, ((HZ3.out.grown hg4 (by simp; omega)).alloc _).alloc _, hx, grown_trans (grown_trans (grown_trans HG3.out hg4) (grown_alloc _ _ _)) (grown_alloc _ _ _), hlt, by omega, ⟨hrow.alloc _, fun i hi => ?_⟩, fun e => by simp only [Value.ownBlock, Option.some.injEq] at e; omega⟩
    obtain rfl : i = 0 := by simpa using hi
    refine ⟨p1, c1, fun j hj => by rw [Nat.zero_mul, Nat.zero_add]; rfl, hq1.of hA2.size fun b hs hb => ⟨hA2.block b hb, ⟨by have h1 : w3.heap.size ≤ b := hs; omega, by omega⟩, fun e => by simp only [Value.ownBlock, Option.some.injEq] at e; omega⟩⟩
  have hqs : QSs (m - 1) [.mk k1 f1 t1 lo1 hi1 ps1] := fun i hi => by
    obtain rfl : i = 0 := by simpa using hi
    exact ⟨hf1, ht1, hs1⟩
  obtain ⟨N4, hN4⟩ : ∃ N4, w4.heap.size = N4 := ⟨_, rfl⟩
  rw [hN4] at hqq
  clear hA1 hA2 hq1 hs1 hf1 ht1 hR4 hg4 HZ3 HG3 hR3 hl34
  go_upto_region 4 with fail
  obtain ⟨w5, hw5⟩ : ∃ w5, (w4.alloc (.cells #[.int .i64 k1, .string f1, .string t1, .int .i64 lo1, .int .i64 hi1, .slice p1 ps1.length c1] 41)).alloc (.cells #[.int .i64 (7 + u), .string ⟨#[]⟩, .string ⟨#[]⟩, .int .i64 0, .int .i64 0, .slice (some ⟨N4, 0, none⟩) 1 1] 41) = w5 := ⟨_, rfl⟩
  rw [hw5] at hqq ⊢
  obtain ⟨M, hM⟩ : ∃ M, N4 + 1 = M := ⟨_, rfl⟩
  obtain ⟨v5, hv5⟩ : ∃ v5 : Value, .slice (some ⟨N4, 0, none⟩) 1 1 = v5 := ⟨_, rfl⟩
  obtain ⟨kk, hkk⟩ : ∃ kk, 7 + u = kk := ⟨_, rfl⟩
  rw [hM, hv5, hkk] at hqq
  rw [hM]
  obtain ⟨L1, hL1⟩ : ∃ L1 : List Qy, [Qy.mk k1 f1 t1 lo1 hi1 ps1] = L1 := ⟨_, rfl⟩
  have HL1 : Hid (L1.length = 1) := by rw [← hL1]; rfl
  rw [hL1] at hqq hqs
  clear hL1
  have HQ5 : Hid (QQ w w5 R a len cap kq1 M (m - 1) kk v5 (qVal (.mk k1 f1 t1 lo1 hi1 ps1) p1 c1) L1) := hqq
  have HQS : Hid (QSs (m - 1) L1) := hqs
  have x0 := hqq.x.cell 0
  have hlM := hqq.x.lt
  simp at x0
  clear hw5 hqq hqs hv5 hM hN4 hl4
  have hkq1 : kq1 ≤ k0 + 1 + 1 + 10 * 4 ^ m := hk1
  by_cases h9 : kk = 9
  · have h9b : (kk != 9) = false := by rw [h9]; rfl
    have HQE := HQ5
    have hql : L1.length ≤ 16 := by rw [HL1.out]; decide
    clear h9
    clear HQ5
    obtain ⟨pe, ce, hve, hav⟩ := HQE.out.list.av2 (fun b hb => ⟨Nat.lt_of_succ_le (HQE.out.list.row.lt b hb).1, fun e => HQE.out.own (e ▸ hb)⟩)
    have em : m - 1 + 1 = m := by omega
    rw [em] at hav
    have hszq : QSz 16 m (L1) := by
      rw [← em]
      exact ⟨hql, HQS.out⟩
    have Z := HQE.out.z
    have X := HQE.out.x
    rw [hve] at X
    have hMn : ¬ w.heap.size = M := by have := HQE.out.le; omega
    have hnM : ¬ M = w.heap.size := by have := HQE.out.le; omega
    have hqr := rd_sets HQE.out.rd hlt (.int .i64 kk) (.string ⟨#[]⟩) (.string ⟨#[]⟩) (.int .i64 0) (.int .i64 0) (.slice pe (L1).length ce)
    have hqg := grown_sets HQE.out.grown (.int .i64 kk) (.string ⟨#[]⟩) (.string ⟨#[]⟩) (.int .i64 0) (.int .i64 0) (.slice pe (L1).length ce)
    have hqa := avs6 (n := w.heap.size) (hav.of (S' := fun b => w.heap.size < b) (Nat.le_refl _) fun b hs _ => ⟨rfl, hs.1⟩) (Nat.lt_irrefl _) (.int .i64 kk) (.string ⟨#[]⟩) (.string ⟨#[]⟩) (.int .i64 0) (.int .i64 0) (.slice pe (L1).length ce)
    have HQR : Hid _ := hqr
    have HQG : Hid _ := hqg
    have HQA : Hid _ := hqa
    have HSZ : Hid (QSz 16 m (L1)) := hszq
    have x0 := X.cell 0
    have x1 := X.cell 1
    have x2 := X.cell 2
    have x3 := X.cell 3
    have x4 := X.cell 4
    have x5 := X.cell 5
    simp at x0 x1 x2 x3 x4 x5
    have z0 := Z.cell 0
    have z1 := Z.cell 1
    have z2 := Z.cell 2
    have z3 := Z.cell 3
    have z4 := Z.cell 4
    have z5 := Z.cell 5
    have f0 := Z.frozen 0
    have f1 := Z.frozen 1
    have f2 := Z.frozen 2
    have f3 := Z.frozen 3
    have f4 := Z.frozen 4
    have f5 := Z.frozen 5
    simp at z0 z1 z2 z3 z4 z5
    clear Z X hqr hqg hqa hszq hav hve em HQE HQS
    go_wp2
    refine bodyPost_ret (v := agg6 (.mk kk ⟨#[]⟩ ⟨#[]⟩ 0 0 (L1)) pe ce) (by simp [agg6, Qy.kind, Qy.field, Qy.text, Qy.low, Qy.high, Qy.parts, results, Tryz.results96, go_sem, z0, z1, z2, z3, z4, z5]) rfl ⟨.mk kk ⟨#[]⟩ ⟨#[]⟩ 0 0 (L1), pe, ce, kq1, rfl, Nat.zero_le _, Nat.zero_le _, QAv.of (Nat.le_refl _) (fun b hs _ => ⟨rfl, Nat.le_of_lt hs⟩) HQA.out, HSZ.out, by have := HPM.out; omega, HQR.out, HQG.out⟩
  have h9b : (kk != 9) = true := bne_iff_ne.2 h9
  have hr5 := HQ5.out.rd
  go_wp2_with fail
  refine (pick_any R a len cap kq1 2 w5 hr5 (HC.out _ HQ5.out.grown) (by have := HPM.out; omega) (by decide) (by decide)).mono ?_
  rintro e w6 ⟨u6, rfl, hu60, hu61, hR6, hg6⟩
  have HQ6 : Hid (QQ w w6 R a len cap (kq1 + 1 : Nat) M (m - 1) kk v5 (qVal (.mk k1 f1 t1 lo1 hi1 ps1) p1 c1) L1) := HQ5.out.read hg6 hR6
  obtain ⟨r0, hr0⟩ : ∃ r0 : Nat, 1 + u6 = (r0 : Int) := ⟨(1 + u6).toNat, by omega⟩
  have hr02 : r0 ≤ 2 := by omega
  clear HQ5 hr5 hR6 hg6 x0 hlM
  go_wp2
  go_loopw [8] (fun i wr => ∃ (r pp : Nat) (v : Value) (xs : List Value) (qs : List Qy), i = .int .i64 r ∧ r ≤ 2 ∧ qs.length + r ≤ 3 ∧ pp + r * (10 * 4 ^ m) ≤ k0 + 10 * 4 ^ (m + 1) ∧ QQ w wr R a len cap pp M (m - 1) kk v xs qs ∧ QSs (m - 1) qs) (fun i _ => (intOf i).toNat)
  case atStart => exact ⟨r0, kq1 + 1, v5, _, _, by rw [← hr0], hr02, by rw [HL1.out]; omega, by have := HPM.out; rcases (show r0 = 0 ∨ r0 = 1 ∨ r0 = 2 by omega) with rfl | rfl | rfl <;> omega, HQ6.out, HQS.out⟩
  case round =>
    clear HQ6 HQS
    obtain ⟨r, pp, v, xs, qs, rfl, hr2, hqr, hpp, hqq, hqs⟩ := hrel
    have HQE : Hid (QQ w wr R a len cap pp M (m - 1) kk v xs qs) := hqq
    have HQS : Hid (QSs (m - 1) qs) := hqs
    by_cases hr0 : 0 < r
    · have hri : (0 : Int) < (r : Int) := by omega
      have x5 := hqq.x.cell 5
      have hltx := hqq.x.lt
      have hrd := hqq.rd
      have hcd := HC.out _ hqq.grown
      have hpb : pp + 10 * 4 ^ m ≤ 800000 := by
        have := HPM.out
        rcases (show r = 1 ∨ r = 2 by omega) with rfl | rfl <;> omega
      have hleM : w.heap.size < M := HQE.out.le
      have hwm : IntKind.i64.wrap ((m : Nat) : Int) = (m : Int) := by simp [IntKind.wrap, IntKind.bits, IntKind.signed]; omega
      have HT2 : Hid (∀ (k2 lo2 hi2 : Int) (f2 t2 : ByteArray) (ps2 : List Qy) (p2 : Option Addr) (cc2 : Nat), ∀ u ∈ [Value.int .i64 k2, .string f2, .string t2, .int .i64 lo2, .int .i64 hi2, .slice p2 ps2.length cc2], u.oneCell' = true) := fun k2 lo2 hi2 f2 t2 ps2 p2 cc2 => six_one (.mk k2 f2 t2 lo2 hi2 ps2) p2 cc2
      have HT6 : Hid (qs.length + 1 ≤ maxLen) := by unfold Hid maxLen; omega
      simp at x5
      clear hqq hqs
      go_wp2
      go_region_law (first
        | (go_simp; go_at_call 96; refine (HMX.out pp _ (by exact hrd) (by exact ⟨hcd.1, hcd.2⟩) hpb).mono ?_; rintro e wa ⟨k2, lo2, hi2, f2, t2, ps2, p2, cc2, kq2, rfl, hf2, ht2, hq2, hs2, hk2, hRa, hgad⟩; have hga : wr.grownBy wa (some R) := ⟨hgad.os, hgad.tape, hgad.output, hgad.size, hgad.block⟩; have hqa := HQE.out.read hga hRa; have k52 := hqa.x.cell 5; have l2 := hqa.x.lt; simp at k52; clear hgad)
        | (refine step_append_lies _ (by rfl) _ _ 39 (by rfl) (w.heap.size + 1) 41 i0 (.agg #[.int .i64 0, .string ⟨#[]⟩, .string ⟨#[]⟩, .int .i64 0, .int .i64 0, .slice none 0 0]) 6 80 Tryz.underlying39 hi0 hz0 hz1 hz2 rfl (by decide) v qs.length xs (by rfl) (hqa.list.row.alloc _) ⟨wa.heap.size, 0, none⟩ 1 1 [Value.int .i64 k2, .string f2, .string t2, .int .i64 lo2, .int .i64 hi2, .slice p2 ps2.length cc2] (by rfl) rfl (cells_new _ _ _) (HT2.out k2 lo2 hi2 f2 t2 ps2 p2 cc2) (by omega) HT6.out (by omega) (by simp; omega) (wa.heap.size + 1) (by simp) ?_; intro g7 c7 w7 hown' hgrow hat hlt7; have hbx7 := (hqa.x.alloc (.cells #[.int .i64 k2, .string f2, .string t2, .int .i64 lo2, .int .i64 hi2, .slice p2 ps2.length cc2] 41)).grown hgrow (fun e => hqa.own e.symm); have k7 := hbx7.cell 5; have y7 := hbx7.frozen 5; simp at k7))
      all_goals
        have hlx := HQE.out.x.lt
        have hvlt : ∀ b, v.ownBlock = some b → w.heap.size + 1 ≤ b ∧ b < wr.heap.size := fun b e => HQE.out.list.row.lt b e
        have HN : Hid (QQ w (w7.setCell ⟨M, 5, none⟩ (.slice (some ⟨g7, 0, none⟩) (qs.length + 1) c7)) R a len cap kq2 M (m - 1) kk (.slice (some ⟨g7, 0, none⟩) (qs.length + 1) c7) (xs ++ qVal (.mk k2 f2 t2 lo2 hi2 ps2) p2 cc2) (qs ++ [.mk k2 f2 t2 lo2 hi2 ps2])) :=
          hqa.snoc hq2 hlx (fun b e => (hvlt b e).2) hown' hgrow (by
            rcases hat with e | e
            · exact .inl e.symm
            · refine .inr ?_
              rw [e, World.size_alloc]
              rfl)
        have HSN : Hid (QSs (m - 1) (qs ++ [.mk k2 f2 t2 lo2 hi2 ps2])) := HQS.out.snoc hf2 ht2 hs2
        have HPN : Hid (kq2 + (r - 1) * (10 * 4 ^ m) ≤ k0 + 10 * 4 ^ (m + 1)) := by
          have := HPM.out
          have h1 := this.1
          rcases (show r = 1 ∨ r = 2 by omega) with rfl | rfl
          · show kq2 + 0 * (10 * 4 ^ m) ≤ _
            omega
          · show kq2 + 1 * (10 * 4 ^ m) ≤ _
            omega
        have hrl : qs.length + 1 + (r - 1) ≤ 3 := by omega
        have hr1e : (r : Int) - 1 = ((r - 1 : Nat) : Int) := by omega
        clear hlx hvlt hown' hgrow hat hbx7 hqa hq2 k52 k7 y7 hga HT2 HT6 hs2 HQE HQS hf2 ht2
        go_wp2
        go_roundw
        case rel => exact ⟨r - 1, kq2, _, _, _, by first | rw [← hr1e] | (rw [← hr1e]; go_num), by omega, by simpa using hrl, HPN.out, HN.out, HSN.out⟩
        case measure => simp [intOf]; omega
    · have hr0' : r = 0 := by omega
      subst hr0'
      have HQL : Hid (qs.length ≤ 16) := by unfold Hid; omega
      clear hqq hqs hqr
      obtain ⟨pe, ce, hve, hav⟩ := HQE.out.list.av2 (fun b hb => ⟨Nat.lt_of_succ_le (HQE.out.list.row.lt b hb).1, fun e => HQE.out.own (e ▸ hb)⟩)
      have em : m - 1 + 1 = m := by omega
      rw [em] at hav
      have hszq : QSz 16 m (qs) := by
        rw [← em]
        exact ⟨HQL.out, HQS.out⟩
      have Z := HQE.out.z
      have X := HQE.out.x
      rw [hve] at X
      have hMn : ¬ w.heap.size = M := by have := HQE.out.le; omega
      have hnM : ¬ M = w.heap.size := by have := HQE.out.le; omega
      have hqr := rd_sets HQE.out.rd hlt (.int .i64 kk) (.string ⟨#[]⟩) (.string ⟨#[]⟩) (.int .i64 0) (.int .i64 0) (.slice pe (qs).length ce)
      have hqg := grown_sets HQE.out.grown (.int .i64 kk) (.string ⟨#[]⟩) (.string ⟨#[]⟩) (.int .i64 0) (.int .i64 0) (.slice pe (qs).length ce)
      have hqa := avs6 (n := w.heap.size) (hav.of (S' := fun b => w.heap.size < b) (Nat.le_refl _) fun b hs _ => ⟨rfl, hs.1⟩) (Nat.lt_irrefl _) (.int .i64 kk) (.string ⟨#[]⟩) (.string ⟨#[]⟩) (.int .i64 0) (.int .i64 0) (.slice pe (qs).length ce)
      have HQR : Hid _ := hqr
      have HQG : Hid _ := hqg
      have HQA : Hid _ := hqa
      have HSZ : Hid (QSz 16 m (qs)) := hszq
      have x0 := X.cell 0
      have x1 := X.cell 1
      have x2 := X.cell 2
      have x3 := X.cell 3
      have x4 := X.cell 4
      have x5 := X.cell 5
      simp at x0 x1 x2 x3 x4 x5
      have z0 := Z.cell 0
      have z1 := Z.cell 1
      have z2 := Z.cell 2
      have z3 := Z.cell 3
      have z4 := Z.cell 4
      have z5 := Z.cell 5
      have f0 := Z.frozen 0
      have f1 := Z.frozen 1
      have f2 := Z.frozen 2
      have f3 := Z.frozen 3
      have f4 := Z.frozen 4
      have f5 := Z.frozen 5
      simp at z0 z1 z2 z3 z4 z5
      clear Z X hqr hqg hqa hszq hav hve em HQE HQS
      go_wp2
      refine bodyPost_ret (v := agg6 (.mk kk ⟨#[]⟩ ⟨#[]⟩ 0 0 (qs)) pe ce) (by simp [agg6, Qy.kind, Qy.field, Qy.text, Qy.low, Qy.high, Qy.parts, results, Tryz.results96, go_sem, z0, z1, z2, z3, z4, z5]) rfl ⟨.mk kk ⟨#[]⟩ ⟨#[]⟩ 0 0 (qs), pe, ce, pp, rfl, Nat.zero_le _, Nat.zero_le _, QAv.of (Nat.le_refl _) (fun b hs _ => ⟨rfl, Nat.le_of_lt hs⟩) HQA.out, HSZ.out, by have := HPM.out; omega, HQR.out, HQG.out⟩
theorem drawQ_any : ∀ n, 1 ≤ n → n ≤ 3 → DrawQ n
  | 0, h, _ => by omega
  | n + 1, _, h => drawQ_step h (fun m e hm => by obtain rfl : n = m := by omega
                                                  exact drawQ_any n hm (by omega))
end Go.Proofs.YtjkimadnopeakaaGreatDoor

/- Questions, drawn, of any kind. -/
namespace Go.Proofs.YtjkimadnopeakaaGreatDoor
open Go.RowKit
set_option linter.unusedVariables false

theorem QAv.more {w : World} {S : Nat → Prop} : ∀ {d : Nat} {a : Option Addr} {ps : List Qy}, QAv w S d a ps → QAv w S (d + 1) a ps
  | 0, _, ps, h => fun hp => by
    have e : ps = [] := h
    rw [e] at hp
    exact absurd hp (by simp)
  | d + 1, a, ps, h => fun hp => by
    obtain ⟨g, off, e, h1, h2, hc⟩ := h hp
    refine ⟨g, off, e, h1, h2, fun i hi => ?_⟩
    obtain ⟨p, c, hq, hr⟩ := hc i hi
    exact ⟨p, c, hq, QAv.more hr⟩
theorem QSz.more {n : Nat} : ∀ {d : Nat} {ps : List Qy}, QSz n d ps → QSz n (d + 1) ps
  | 0, ps, h => by
    have e : ps = [] := h
    subst e
    exact nil_sz _ _
  | d + 1, ps, h => ⟨h.1, fun i hi => ⟨(h.2 i hi).1, (h.2 i hi).2.1, QSz.more (h.2 i hi).2.2⟩⟩
theorem blk6 {w : World} {B : Nat} {a0 a1 a2 a3 a4 a5 : Value} {t : TypeId} (h : Blk w B #[a0, a1, a2, a3, a4, a5] t) (v0 v1 v2 v3 v4 v5 : Value) :
    Blk ((((((w.setCell ⟨B, 0, none⟩ v0).setCell ⟨B, 1, none⟩ v1).setCell ⟨B, 2, none⟩ v2).setCell ⟨B, 3, none⟩ v3).setCell ⟨B, 4, none⟩ v4).setCell ⟨B, 5, none⟩ v5) B #[v0, v1, v2, v3, v4, v5] t :=
  (((((h.set 0 v0).set 1 v1).set 2 v2).set 3 v3).set 4 v4).set 5 v5
theorem other6 {w : World} {B n : Nat} {C : Array Value} {t : TypeId} (h : Blk w B C t) (hn : B ≠ n) (v0 v1 v2 v3 v4 v5 : Value) :
    Blk ((((((w.setCell ⟨n, 0, none⟩ v0).setCell ⟨n, 1, none⟩ v1).setCell ⟨n, 2, none⟩ v2).setCell ⟨n, 3, none⟩ v3).setCell ⟨n, 4, none⟩ v4).setCell ⟨n, 5, none⟩ v5) B C t :=
  (((((h.other (p := ⟨n, 0, none⟩) hn v0).other (p := ⟨n, 1, none⟩) hn v1).other (p := ⟨n, 2, none⟩) hn v2).other (p := ⟨n, 3, none⟩) hn v3).other (p := ⟨n, 4, none⟩) hn v4).other (p := ⟨n, 5, none⟩) hn v5
theorem grown6 {w wx : World} {R n : Nat} (h : w.grownBy wx (some R)) (hn : w.heap.size ≤ n) (v0 v1 v2 v3 v4 v5 : Value) : w.grownBy ((((((wx.setCell ⟨n, 0, none⟩ v0).setCell ⟨n, 1, none⟩ v1).setCell ⟨n, 2, none⟩ v2).setCell ⟨n, 3, none⟩ v3).setCell ⟨n, 4, none⟩ v4).setCell ⟨n, 5, none⟩ v5) (some R) :=
  grown_own (grown_own (grown_own (grown_own (grown_own (grown_own h (grown_set _ n 0 v0) (fun j e => by cases e; exact hn)) (grown_set _ n 1 v1) (fun j e => by cases e; exact hn)) (grown_set _ n 2 v2) (fun j e => by cases e; exact hn)) (grown_set _ n 3 v3) (fun j e => by cases e; exact hn)) (grown_set _ n 4 v4) (fun j e => by cases e; exact hn)) (grown_set _ n 5 v5) (fun j e => by cases e; exact hn)
/-- While a question of any kind is drawn. -/
structure AQ (w wx : World) (R : Nat) (a : Option Addr) (len cap p M D : Nat) (q : Qy) (pp : Option Addr) (cc : Nat) : Prop where
  rd : Rd wx R a len cap p
  z : Blk wx w.heap.size #[.int .i64 0, .string ⟨#[]⟩, .string ⟨#[]⟩, .int .i64 0, .int .i64 0, .slice none 0 0] 41
  x : Blk wx M #[.int .i64 q.kind, .string q.field, .string q.text, .int .i64 q.low, .int .i64 q.high, .slice pp q.parts.length cc] 41
  grown : w.grownBy wx (some R)
  lt : R < w.heap.size
  le : w.heap.size < M
  av : QAv wx (fun b => w.heap.size < b ∧ b ≠ M) D pp q.parts
theorem AQ.read {w wx wy : World} {R : Nat} {a : Option Addr} {len cap p q M D cc : Nat} {qy : Qy} {pp : Option Addr} (h : AQ w wx R a len cap p M D qy pp cc) (hg : wx.grownBy wy (some R)) (hR : Rd wy R a len cap q) : AQ w wy R a len cap q M D qy pp cc :=
  ⟨hR, h.z.grown hg (by have := h.lt; simp; omega), h.x.grown hg (by have := h.lt; have := h.le; simp; omega), grown_trans h.grown hg, h.lt, h.le, h.av.of hg.size fun b hs hlt => ⟨hg.block b hlt (fun e => by cases e; have := h.lt; have := hs.1; omega), hs⟩⟩
theorem AQ.alloc {w wx : World} {R : Nat} {a : Option Addr} {len cap p M D cc : Nat} {qy : Qy} {pp : Option Addr} (h : AQ w wx R a len cap p M D qy pp cc) (o : Obj) : AQ w (wx.alloc o) R a len cap p M D qy pp cc := h.read (grown_alloc _ _ _) (h.rd.alloc o)
theorem AQ.set {w wx : World} {R : Nat} {a : Option Addr} {len cap p M D cc : Nat} {q q' : Qy} {pp : Option Addr} (h : AQ w wx R a len cap p M D q pp cc) (j : Nat) (v : Value) (hp : q'.parts = q.parts)
    (he : #[.int .i64 q.kind, .string q.field, .string q.text, .int .i64 q.low, .int .i64 q.high, .slice pp q.parts.length cc].setIfInBounds j v = #[.int .i64 q'.kind, .string q'.field, .string q'.text, .int .i64 q'.low, .int .i64 q'.high, .slice pp q'.parts.length cc]) : AQ w (wx.setCell ⟨M, j, none⟩ v) R a len cap p M D q' pp cc := by
  have hx := h.x.set j v
  rw [he] at hx
  have hRM : R ≠ M := by have := h.lt; have := h.le; omega
  refine ⟨(show Rd _ R a len cap p from (Below.heap_setCell _ _ _ _ hRM).trans h.rd), h.z.other (by have := h.le; simp; omega) v, hx, grown_own h.grown (grown_set wx M j v) (fun j hj => by cases hj; have := h.le; omega), h.lt, h.le, ?_⟩
  rw [hp]
  exact h.av.of (by simp [World.setCell]) fun b hs _ => ⟨Below.heap_setCell _ _ _ _ (fun e => hs.2 (show b = M from e)), hs⟩
/-- What is drawn, in a question that is not it. -/
theorem AQ.wrap {w wx : World} {R : Nat} {a : Option Addr} {len cap p M D cc : Nat} {k lo hi : Int} {f t : ByteArray} {ps : List Qy} {pp : Option Addr} (h : AQ w wx R a len cap p M D (.mk k f t lo hi ps) pp cc) :
    AQ w (((((((wx.setCell ⟨M, 0, none⟩ (.int .i64 9)).setCell ⟨M, 1, none⟩ (.string ⟨#[]⟩)).setCell ⟨M, 2, none⟩ (.string ⟨#[]⟩)).setCell ⟨M, 3, none⟩ (.int .i64 0)).setCell ⟨M, 4, none⟩ (.int .i64 0)).setCell ⟨M, 5, none⟩ (.slice (some ⟨wx.heap.size, 0, none⟩) 1 1)).alloc (.cells #[.int .i64 k, .string f, .string t, .int .i64 lo, .int .i64 hi, .slice pp ps.length cc] 41)) R a len cap p M (D + 1) (.mk 9 ⟨#[]⟩ ⟨#[]⟩ 0 0 [.mk k f t lo hi ps]) (some ⟨wx.heap.size, 0, none⟩) 1 := by
  have hlt := h.lt
  have hle := h.le
  have hxl := h.x.lt
  have hsz : ((((((wx.setCell ⟨M, 0, none⟩ (.int .i64 9)).setCell ⟨M, 1, none⟩ (.string ⟨#[]⟩)).setCell ⟨M, 2, none⟩ (.string ⟨#[]⟩)).setCell ⟨M, 3, none⟩ (.int .i64 0)).setCell ⟨M, 4, none⟩ (.int .i64 0)).setCell ⟨M, 5, none⟩ (.slice (some ⟨wx.heap.size, 0, none⟩) 1 1)).heap.size = wx.heap.size := by simp [World.setCell]
  have N := Blk.new ((((((wx.setCell ⟨M, 0, none⟩ (.int .i64 9)).setCell ⟨M, 1, none⟩ (.string ⟨#[]⟩)).setCell ⟨M, 2, none⟩ (.string ⟨#[]⟩)).setCell ⟨M, 3, none⟩ (.int .i64 0)).setCell ⟨M, 4, none⟩ (.int .i64 0)).setCell ⟨M, 5, none⟩ (.slice (some ⟨wx.heap.size, 0, none⟩) 1 1)) #[.int .i64 k, .string f, .string t, .int .i64 lo, .int .i64 hi, .slice pp ps.length cc] 41
  rw [hsz] at N
  refine ⟨(rd_sets h.rd (by omega) _ _ _ _ _ _).alloc _, (other6 h.z (by omega) _ _ _ _ _ _).alloc _, (blk6 h.x _ _ _ _ _ _).alloc _, grown_trans (grown6 h.grown (by omega) _ _ _ _ _ _) (grown_alloc _ _ _), hlt, hle, fun _ => ⟨wx.heap.size, 0, rfl, ⟨by omega, by omega⟩, N.lt, fun i hi => ?_⟩⟩
  obtain rfl : i = 0 := by
    have : i < 1 := hi
    omega
  exact ⟨pp, cc, ⟨N.cell 0, N.cell 1, N.cell 2, N.cell 3, N.cell 4, N.cell 5⟩, (avs6 h.av (fun hs => hs.2 rfl) _ _ _ _ _ _).of (by simp) fun b hs hb => ⟨Below.heap_alloc _ _ _ hb, hs⟩⟩
/-- The answer of a draw of a question. -/
def AnsQ (w : World) (R : Nat) (a : Option Addr) (len cap k0 : Nat) (e : Ending) (w' : World) : Prop := ∃ (q : Qy) (p : Option Addr) (c kq : Nat), e = .returned (agg6 q p c) ∧ q.field.size ≤ 16 ∧ q.text.size ≤ 16 ∧ QAv w' (fun b => w.heap.size < b) 4 p q.parts ∧ QSz 16 4 q.parts ∧ kq ≤ k0 + 1000 ∧ Rd w' R a len cap kq ∧ w.grownBy w' (some R)
theorem ansQ {w w' : World} {R len cap k0 kq c : Nat} {a p : Option Addr} (q : Qy) (h1 : q.field.size ≤ 16) (h2 : q.text.size ≤ 16) (h3 : QAv w' (fun b => w.heap.size < b) 4 p q.parts) (h4 : QSz 16 4 q.parts) (h5 : kq ≤ k0 + 1000) (h6 : Rd w' R a len cap kq) (h7 : w.grownBy w' (some R)) : AnsQ w R a len cap k0 (.returned (agg6 q p c)) w' := ⟨q, p, c, kq, rfl, h1, h2, h3, h4, h5, h6, h7⟩
set_option maxRecDepth 100000 in
set_option maxHeartbeats 8000000 in
theorem l11AnyQuery_any (R : Nat) (a : Option Addr) (len cap k0 : Nat) (fv : Value) (w : World) (hR : Rd w R a len cap k0) (hC : Code w R a len) (hk : k0 ≤ 700000) :
    Calls Tryz.prog 50 #[.pointer (some ⟨R, 0, none⟩), fv] w fun e w' => AnsQ w R a len cap k0 e w' := by
  have hlt := hR.lt
  have hRa := hR.alloc (.cells #[.int .i64 0, .string ⟨#[]⟩, .string ⟨#[]⟩, .int .i64 0, .int .i64 0, .slice none 0 0] 41)
  have hga := grown_alloc w (.cells #[.int .i64 0, .string ⟨#[]⟩, .string ⟨#[]⟩, .int .i64 0, .int .i64 0, .slice none 0 0] 41) R
  have BZ := Blk.new w #[.int .i64 0, .string ⟨#[]⟩, .string ⟨#[]⟩, .int .i64 0, .int .i64 0, .slice none 0 0] 41
  have HC : Hid (∀ wx, w.grownBy wx (some R) → Code wx R a len) := fun wx h => hC.kept h hlt
  clear hR hC
  obtain ⟨w1, hw1⟩ : ∃ w1, w.alloc (.cells #[.int .i64 0, .string ⟨#[]⟩, .string ⟨#[]⟩, .int .i64 0, .int .i64 0, .slice none 0 0] 41) = w1 := ⟨_, rfl⟩
  have HW1 : Hid (w.alloc (.cells #[.int .i64 0, .string ⟨#[]⟩, .string ⟨#[]⟩, .int .i64 0, .int .i64 0, .slice none 0 0] 41) = w1) := hw1
  rw [hw1] at hRa hga BZ
  have hl1 := BZ.lt
  clear hw1
  have HD : Hid (Calls Tryz.prog 96 #[.pointer (some ⟨R, 0, none⟩), fv, .int .i64 3] w1 fun e w' => ∃ (k lo hi : Int) (f t : ByteArray) (ps : List Qy) (p : Option Addr) (c kq : Nat), e = .returned (.agg #[.int .i64 k, .string f, .string t, .int .i64 lo, .int .i64 hi, .slice p ps.length c]) ∧ f.size ≤ 16 ∧ t.size ≤ 16 ∧ QAv w' (fun b => w1.heap.size ≤ b) 2 p ps ∧ QSz 16 2 ps ∧ kq ≤ k0 + 640 ∧ Rd w' R a len cap kq ∧ w1.grownBy w' (some R)) := by
    refine (drawQ_any 3 (by decide) (by decide) R a len cap k0 fv w1 hRa (HC.out _ hga) (by omega)).mono ?_
    rintro e w' ⟨⟨k, f, t, lo, hi, ps⟩, p, c, kq, rfl, h4, h5, h6, h7, h8, h9, h10⟩
    exact ⟨k, lo, hi, f, t, ps, p, c, kq, rfl, h4, h5, h6, h7, h8, h9, h10⟩
  go_enter Tryz.func50, Tryz.ntmps50
  go_upto_region 1 with fail
  rw [HW1.out]
  clear HW1
  go_wp2_with fail
  refine HD.out.mono ?_
  rintro e w2 ⟨k, lo, hi, f, t, ps, p, c, kq, rfl, hf, ht, hav, hsz, hkq, hR2, hg2⟩
  have BZ2 := BZ.grown hg2 (by simp; omega)
  have hgw2 := grown_trans hga hg2
  have hl2 : w.heap.size < w2.heap.size := by have := hg2.size; omega
  obtain ⟨M, hMe⟩ : ∃ M, w2.heap.size = M := ⟨_, rfl⟩
  have hq3 : AQ w (w2.alloc (.cells #[.int .i64 k, .string f, .string t, .int .i64 lo, .int .i64 hi, .slice p ps.length c] 41)) R a len cap kq M 2 (.mk k f t lo hi ps) p c := by
    refine ⟨hR2.alloc _, BZ2.alloc _, hMe ▸ Blk.new w2 _ _, grown_trans hgw2 (grown_alloc _ _ _), hlt, by omega, hav.of (by simp) fun b hs hb => ⟨Below.heap_alloc _ _ _ hb, ?_, ?_⟩⟩
    · have h1 : w1.heap.size ≤ b := hs; omega
    · omega
  have HSZ : Hid (QSz 16 2 ps) := hsz
  clear hRa hga BZ BZ2 HD hav hsz hR2 hg2 hgw2
  go_upto_region 2 with fail
  obtain ⟨w3, hw3⟩ : ∃ w3, w2.alloc (.cells #[.int .i64 k, .string f, .string t, .int .i64 lo, .int .i64 hi, .slice p ps.length c] 41) = w3 := ⟨_, rfl⟩
  rw [hw3]
  rw [hw3] at hq3
  have HQ3 : Hid (AQ w w3 R a len cap kq M 2 (.mk k f t lo hi ps) p c) := hq3
  have hr3 := hq3.rd
  clear hw3 hMe hq3 hl2
  go_wp2_with fail
  refine (pick_any R a len cap kq 16 w3 hr3 (HC.out _ HQ3.out.grown) (by omega) (by decide) (by decide)).mono ?_
  rintro e w4 ⟨u, rfl, hu0, hu1, hR4, hg4⟩
  have HQ4 : Hid (AQ w w4 R a len cap (kq + 1 : Nat) M 2 (.mk k f t lo hi ps) p c) := HQ3.out.read hg4 hR4
  clear hr3 HQ3 hR4 hg4
  by_cases h0 : u = 0
  · subst h0
    have hr4 := HQ4.out.rd
    go_wp2_with fail
    refine (pick_any R a len cap (kq + 1) 11 w4 hr4 (HC.out _ HQ4.out.grown) (by omega) (by decide) (by decide)).mono ?_
    rintro e w5 ⟨k2, rfl, _, _, hR5, hg5⟩
    have HQ5 : Hid (AQ w w5 R a len cap (kq + 1 + 1 : Nat) M 2 (.mk k f t lo hi ps) p c) := HQ4.out.read hg5 hR5
    have g0 := HQ5.out.x.frozen 0
    have y0 := HQ5.out.x.cell 0
    simp at y0
    clear hr4 HQ4 hR5 hg5
    go_upto_region 16 with fail
    have hq6 : AQ w (w5.setCell ⟨M, 0, none⟩ (.int .i64 k2)) R a len cap (kq + 1 + 1 : Nat) M 2 (.mk k2 f t lo hi ps) p c := HQ5.out.set 0 _ rfl rfl
    obtain ⟨w6, hw6⟩ : ∃ w6, w5.setCell ⟨M, 0, none⟩ (.int .i64 k2) = w6 := ⟨_, rfl⟩
    rw [hw6] at hq6 ⊢
    have HQ6 : Hid (AQ w w6 R a len cap (kq + 1 + 1 : Nat) M 2 (.mk k2 f t lo hi ps) p c) := hq6
    clear hw6 hq6 y0 g0 HQ5
    have X := HQ6.out.x
    have Z := HQ6.out.z
    have hMn : ¬ w.heap.size = M := by have := HQ6.out.le; omega
    have hnM : ¬ M = w.heap.size := by have := HQ6.out.le; omega
    have hqr := rd_sets HQ6.out.rd HQ6.out.lt (.int .i64 k2) (.string f) (.string t) (.int .i64 lo) (.int .i64 hi) (.slice p ps.length c)
    have hqg := grown_sets HQ6.out.grown (.int .i64 k2) (.string f) (.string t) (.int .i64 lo) (.int .i64 hi) (.slice p ps.length c)
    have hqa := avs6 (n := w.heap.size) (HQ6.out.av.of (S' := fun b => w.heap.size < b) (Nat.le_refl _) fun b hs _ => ⟨rfl, hs.1⟩) (Nat.lt_irrefl _) (.int .i64 k2) (.string f) (.string t) (.int .i64 lo) (.int .i64 hi) (.slice p ps.length c)
    have HQR : Hid _ := hqr
    have HQG : Hid _ := hqg
    have HQA : Hid _ := hqa
    have x0 := X.cell 0
    have x1 := X.cell 1
    have x2 := X.cell 2
    have x3 := X.cell 3
    have x4 := X.cell 4
    have x5 := X.cell 5
    have z0 := Z.cell 0
    have z1 := Z.cell 1
    have z2 := Z.cell 2
    have z3 := Z.cell 3
    have z4 := Z.cell 4
    have z5 := Z.cell 5
    have f0 := Z.frozen 0
    have f1 := Z.frozen 1
    have f2 := Z.frozen 2
    have f3 := Z.frozen 3
    have f4 := Z.frozen 4
    have f5 := Z.frozen 5
    simp [Qy.kind, Qy.field, Qy.text, Qy.low, Qy.high, Qy.parts] at x0 x1 x2 x3 x4 x5 z0 z1 z2 z3 z4 z5
    clear X Z hqr hqg hqa HQ6
    go_wp2
    refine bodyPost_ret (v := agg6 (.mk k2 f t lo hi ps) p c) (by simp [agg6, Qy.kind, Qy.field, Qy.text, Qy.low, Qy.high, Qy.parts, results, Tryz.results50, go_sem, z0, z1, z2, z3, z4, z5]) rfl (ansQ (.mk k2 f t lo hi ps) hf ht (QAv.more (QAv.more HQA.out)) (QSz.more (QSz.more HSZ.out)) (by omega) HQR.out HQG.out)
  have h0b : (u == 0) = false := beq_eq_false_iff_ne.2 h0
  by_cases h1 : u = 1
  · subst h1
    go_wp2_with fail
    refine (of_any R w4.heap.size 4 a len cap (kq + 1) _ _ (HQ4.out.rd.alloc _) (HC.out _ (grown_trans HQ4.out.grown (grown_alloc _ _ _))) (by omega) (strs_new w4 _ _ 16 (by decide +kernel)) (by omega) (by omega) (by have := HQ4.out.rd.lt; omega)).mono ?_
    rintro e w5 ⟨t2, rfl, ht2, hR5, hg5⟩
    have HQ5 : Hid (AQ w w5 R a len cap (kq + 1 + 1 : Nat) M 2 (.mk k f t lo hi ps) p c) := (HQ4.out.alloc _).read hg5 hR5
    have g0 := HQ5.out.x.frozen 2
    have y0 := HQ5.out.x.cell 2
    simp at y0
    clear HQ4 hR5 hg5
    go_upto_region 16 with fail
    have hq6 : AQ w (w5.setCell ⟨M, 2, none⟩ (.string t2)) R a len cap (kq + 1 + 1 : Nat) M 2 (.mk k f t2 lo hi ps) p c := HQ5.out.set 2 _ rfl rfl
    obtain ⟨w6, hw6⟩ : ∃ w6, w5.setCell ⟨M, 2, none⟩ (.string t2) = w6 := ⟨_, rfl⟩
    rw [hw6] at hq6 ⊢
    have HQ6 : Hid (AQ w w6 R a len cap (kq + 1 + 1 : Nat) M 2 (.mk k f t2 lo hi ps) p c) := hq6
    clear hw6 hq6 y0 g0 HQ5
    have X := HQ6.out.x
    have Z := HQ6.out.z
    have hMn : ¬ w.heap.size = M := by have := HQ6.out.le; omega
    have hnM : ¬ M = w.heap.size := by have := HQ6.out.le; omega
    have hqr := rd_sets HQ6.out.rd HQ6.out.lt (.int .i64 k) (.string f) (.string t2) (.int .i64 lo) (.int .i64 hi) (.slice p ps.length c)
    have hqg := grown_sets HQ6.out.grown (.int .i64 k) (.string f) (.string t2) (.int .i64 lo) (.int .i64 hi) (.slice p ps.length c)
    have hqa := avs6 (n := w.heap.size) (HQ6.out.av.of (S' := fun b => w.heap.size < b) (Nat.le_refl _) fun b hs _ => ⟨rfl, hs.1⟩) (Nat.lt_irrefl _) (.int .i64 k) (.string f) (.string t2) (.int .i64 lo) (.int .i64 hi) (.slice p ps.length c)
    have HQR : Hid _ := hqr
    have HQG : Hid _ := hqg
    have HQA : Hid _ := hqa
    have x0 := X.cell 0
    have x1 := X.cell 1
    have x2 := X.cell 2
    have x3 := X.cell 3
    have x4 := X.cell 4
    have x5 := X.cell 5
    have z0 := Z.cell 0
    have z1 := Z.cell 1
    have z2 := Z.cell 2
    have z3 := Z.cell 3
    have z4 := Z.cell 4
    have z5 := Z.cell 5
    have f0 := Z.frozen 0
    have f1 := Z.frozen 1
    have f2 := Z.frozen 2
    have f3 := Z.frozen 3
    have f4 := Z.frozen 4
    have f5 := Z.frozen 5
    simp [Qy.kind, Qy.field, Qy.text, Qy.low, Qy.high, Qy.parts] at x0 x1 x2 x3 x4 x5 z0 z1 z2 z3 z4 z5
    clear X Z hqr hqg hqa HQ6
    go_wp2
    refine bodyPost_ret (v := agg6 (.mk k f t2 lo hi ps) p c) (by simp [agg6, Qy.kind, Qy.field, Qy.text, Qy.low, Qy.high, Qy.parts, results, Tryz.results50, go_sem, z0, z1, z2, z3, z4, z5]) rfl (ansQ (.mk k f t2 lo hi ps) hf ht2 (QAv.more (QAv.more HQA.out)) (QSz.more (QSz.more HSZ.out)) (by omega) HQR.out HQG.out)
  have h1b : (u == 1) = false := beq_eq_false_iff_ne.2 h1
  by_cases h2 : u = 2
  · subst h2
    go_wp2_with fail
    refine (of_any R w4.heap.size 4 a len cap (kq + 1) _ _ (HQ4.out.rd.alloc _) (HC.out _ (grown_trans HQ4.out.grown (grown_alloc _ _ _))) (by omega) (strs_new w4 _ _ 16 (by decide +kernel)) (by omega) (by omega) (by have := HQ4.out.rd.lt; omega)).mono ?_
    rintro e w5 ⟨fd2, rfl, hfd2, hR5, hg5⟩
    have HQ5 : Hid (AQ w w5 R a len cap (kq + 1 + 1 : Nat) M 2 (.mk k f t lo hi ps) p c) := (HQ4.out.alloc _).read hg5 hR5
    have g0 := HQ5.out.x.frozen 1
    have y0 := HQ5.out.x.cell 1
    simp at y0
    clear HQ4 hR5 hg5
    go_upto_region 16 with fail
    have hq6 : AQ w (w5.setCell ⟨M, 1, none⟩ (.string fd2)) R a len cap (kq + 1 + 1 : Nat) M 2 (.mk k fd2 t lo hi ps) p c := HQ5.out.set 1 _ rfl rfl
    obtain ⟨w6, hw6⟩ : ∃ w6, w5.setCell ⟨M, 1, none⟩ (.string fd2) = w6 := ⟨_, rfl⟩
    rw [hw6] at hq6 ⊢
    have HQ6 : Hid (AQ w w6 R a len cap (kq + 1 + 1 : Nat) M 2 (.mk k fd2 t lo hi ps) p c) := hq6
    clear hw6 hq6 y0 g0 HQ5
    have X := HQ6.out.x
    have Z := HQ6.out.z
    have hMn : ¬ w.heap.size = M := by have := HQ6.out.le; omega
    have hnM : ¬ M = w.heap.size := by have := HQ6.out.le; omega
    have hqr := rd_sets HQ6.out.rd HQ6.out.lt (.int .i64 k) (.string fd2) (.string t) (.int .i64 lo) (.int .i64 hi) (.slice p ps.length c)
    have hqg := grown_sets HQ6.out.grown (.int .i64 k) (.string fd2) (.string t) (.int .i64 lo) (.int .i64 hi) (.slice p ps.length c)
    have hqa := avs6 (n := w.heap.size) (HQ6.out.av.of (S' := fun b => w.heap.size < b) (Nat.le_refl _) fun b hs _ => ⟨rfl, hs.1⟩) (Nat.lt_irrefl _) (.int .i64 k) (.string fd2) (.string t) (.int .i64 lo) (.int .i64 hi) (.slice p ps.length c)
    have HQR : Hid _ := hqr
    have HQG : Hid _ := hqg
    have HQA : Hid _ := hqa
    have x0 := X.cell 0
    have x1 := X.cell 1
    have x2 := X.cell 2
    have x3 := X.cell 3
    have x4 := X.cell 4
    have x5 := X.cell 5
    have z0 := Z.cell 0
    have z1 := Z.cell 1
    have z2 := Z.cell 2
    have z3 := Z.cell 3
    have z4 := Z.cell 4
    have z5 := Z.cell 5
    have f0 := Z.frozen 0
    have f1 := Z.frozen 1
    have f2 := Z.frozen 2
    have f3 := Z.frozen 3
    have f4 := Z.frozen 4
    have f5 := Z.frozen 5
    simp [Qy.kind, Qy.field, Qy.text, Qy.low, Qy.high, Qy.parts] at x0 x1 x2 x3 x4 x5 z0 z1 z2 z3 z4 z5
    clear X Z hqr hqg hqa HQ6
    go_wp2
    refine bodyPost_ret (v := agg6 (.mk k fd2 t lo hi ps) p c) (by simp [agg6, Qy.kind, Qy.field, Qy.text, Qy.low, Qy.high, Qy.parts, results, Tryz.results50, go_sem, z0, z1, z2, z3, z4, z5]) rfl (ansQ (.mk k fd2 t lo hi ps) hfd2 ht (QAv.more (QAv.more HQA.out)) (QSz.more (QSz.more HSZ.out)) (by omega) HQR.out HQG.out)
  have h2b : (u == 2) = false := beq_eq_false_iff_ne.2 h2
  by_cases h3 : u = 3
  · subst h3
    go_wp2_with fail
    refine (one_any R w4.heap.size 2 a len cap (kq + 1) _ (HQ4.out.rd.alloc _) (HC.out _ (grown_trans HQ4.out.grown (grown_alloc _ _ _))) (by omega) (ints_new w4 #[.int .i64 1, .int .i64 (-1000000000)] 3 (by decide +kernel)) (by omega) (by omega) (by have := HQ4.out.rd.lt; omega)).mono ?_
    rintro e w5 ⟨lo2, rfl, hR5, hg5⟩
    have HQ5 : Hid (AQ w w5 R a len cap (kq + 1 + 1 : Nat) M 2 (.mk k f t lo hi ps) p c) := (HQ4.out.alloc _).read hg5 hR5
    have g0 := HQ5.out.x.frozen 3
    have y0 := HQ5.out.x.cell 3
    simp at y0
    clear HQ4 hR5 hg5
    go_upto_region 16 with fail
    have hq6 : AQ w (w5.setCell ⟨M, 3, none⟩ (.int .i64 lo2)) R a len cap (kq + 1 + 1 : Nat) M 2 (.mk k f t lo2 hi ps) p c := HQ5.out.set 3 _ rfl rfl
    obtain ⟨w6, hw6⟩ : ∃ w6, w5.setCell ⟨M, 3, none⟩ (.int .i64 lo2) = w6 := ⟨_, rfl⟩
    rw [hw6] at hq6 ⊢
    have HQ6 : Hid (AQ w w6 R a len cap (kq + 1 + 1 : Nat) M 2 (.mk k f t lo2 hi ps) p c) := hq6
    clear hw6 hq6 y0 g0 HQ5
    have X := HQ6.out.x
    have Z := HQ6.out.z
    have hMn : ¬ w.heap.size = M := by have := HQ6.out.le; omega
    have hnM : ¬ M = w.heap.size := by have := HQ6.out.le; omega
    have hqr := rd_sets HQ6.out.rd HQ6.out.lt (.int .i64 k) (.string f) (.string t) (.int .i64 lo2) (.int .i64 hi) (.slice p ps.length c)
    have hqg := grown_sets HQ6.out.grown (.int .i64 k) (.string f) (.string t) (.int .i64 lo2) (.int .i64 hi) (.slice p ps.length c)
    have hqa := avs6 (n := w.heap.size) (HQ6.out.av.of (S' := fun b => w.heap.size < b) (Nat.le_refl _) fun b hs _ => ⟨rfl, hs.1⟩) (Nat.lt_irrefl _) (.int .i64 k) (.string f) (.string t) (.int .i64 lo2) (.int .i64 hi) (.slice p ps.length c)
    have HQR : Hid _ := hqr
    have HQG : Hid _ := hqg
    have HQA : Hid _ := hqa
    have x0 := X.cell 0
    have x1 := X.cell 1
    have x2 := X.cell 2
    have x3 := X.cell 3
    have x4 := X.cell 4
    have x5 := X.cell 5
    have z0 := Z.cell 0
    have z1 := Z.cell 1
    have z2 := Z.cell 2
    have z3 := Z.cell 3
    have z4 := Z.cell 4
    have z5 := Z.cell 5
    have f0 := Z.frozen 0
    have f1 := Z.frozen 1
    have f2 := Z.frozen 2
    have f3 := Z.frozen 3
    have f4 := Z.frozen 4
    have f5 := Z.frozen 5
    simp [Qy.kind, Qy.field, Qy.text, Qy.low, Qy.high, Qy.parts] at x0 x1 x2 x3 x4 x5 z0 z1 z2 z3 z4 z5
    clear X Z hqr hqg hqa HQ6
    go_wp2
    refine bodyPost_ret (v := agg6 (.mk k f t lo2 hi ps) p c) (by simp [agg6, Qy.kind, Qy.field, Qy.text, Qy.low, Qy.high, Qy.parts, results, Tryz.results50, go_sem, z0, z1, z2, z3, z4, z5]) rfl (ansQ (.mk k f t lo2 hi ps) hf ht (QAv.more (QAv.more HQA.out)) (QSz.more (QSz.more HSZ.out)) (by omega) HQR.out HQG.out)
  have h3b : (u == 3) = false := beq_eq_false_iff_ne.2 h3
  by_cases h4 : u = 4
  · subst h4
    go_wp2
    go_loopw [6] (fun i wr => ∃ (j : Nat) (k lo hi : Int) (f t : ByteArray) (ps : List Qy) (p : Option Addr) (c : Nat), i = .int .i64 j ∧ j ≤ 2 ∧ AQ w wr R a len cap (kq + 1 : Nat) M (2 + j) (.mk k f t lo hi ps) p c ∧ f.size ≤ 16 ∧ t.size ≤ 16 ∧ QSz 16 (2 + j) ps) (fun i _ => 2 - (intOf i).toNat)
    case atStart => exact ⟨0, k, lo, hi, f, t, ps, p, c, rfl, by decide, HQ4.out, hf, ht, HSZ.out⟩
    case round =>
      clear HQ4 HSZ hf ht
      obtain ⟨j, k, lo, hi, f, t, ps, p, c, rfl, hj, hq, hf, ht, hsz⟩ := hrel
      have HQ : Hid (AQ w wr R a len cap (kq + 1 : Nat) M (2 + j) (.mk k f t lo hi ps) p c) := hq
      have HSZ : Hid (QSz 16 (2 + j) ps) := hsz
      clear hsz
      by_cases hj2 : j < 2
      · have hji : (j : Int) < 2 := by omega
        have HN := hq.wrap
        have HNW : Hid _ := HN
        have X := hq.x
        have x0 := X.cell 0
        have x1 := X.cell 1
        have x2 := X.cell 2
        have x3 := X.cell 3
        have x4 := X.cell 4
        have x5 := X.cell 5
        have f0 := X.frozen 0
        have f1 := X.frozen 1
        have f2 := X.frozen 2
        have f3 := X.frozen 3
        have f4 := X.frozen 4
        have f5 := X.frozen 5
        have hMl := X.lt
        simp [Qy.kind, Qy.field, Qy.text, Qy.low, Qy.high, Qy.parts] at x0 x1 x2 x3 x4 x5
        have hMg : ¬ M = wr.heap.size := by omega
        have hgM : ¬ wr.heap.size = M := by omega
        clear X HN hq HQ
        go_wp2
        go_roundw
        case rel => exact ⟨j + 1, 9, 0, 0, ⟨#[]⟩, ⟨#[]⟩, [.mk k f t lo hi ps], some ⟨wr.heap.size, 0, none⟩, 1, by go_num, by omega, HNW.out, by decide, by decide, ⟨(by decide : 1 ≤ 16), fun i hi => by
          obtain rfl : i = 0 := by
            have : i < 1 := hi
            omega
          exact ⟨hf, ht, HSZ.out⟩⟩⟩
        case measure => simp [intOf]; omega
      · obtain rfl : j = 2 := by omega
        clear hq
        have X := HQ.out.x
        have Z := HQ.out.z
        have hMn : ¬ w.heap.size = M := by have := HQ.out.le; omega
        have hnM : ¬ M = w.heap.size := by have := HQ.out.le; omega
        have hqr := rd_sets HQ.out.rd HQ.out.lt (.int .i64 k) (.string f) (.string t) (.int .i64 lo) (.int .i64 hi) (.slice p ps.length c)
        have hqg := grown_sets HQ.out.grown (.int .i64 k) (.string f) (.string t) (.int .i64 lo) (.int .i64 hi) (.slice p ps.length c)
        have hqa := avs6 (n := w.heap.size) (HQ.out.av.of (S' := fun b => w.heap.size < b) (Nat.le_refl _) fun b hs _ => ⟨rfl, hs.1⟩) (Nat.lt_irrefl _) (.int .i64 k) (.string f) (.string t) (.int .i64 lo) (.int .i64 hi) (.slice p ps.length c)
        have HQR : Hid _ := hqr
        have HQG : Hid _ := hqg
        have HQA : Hid _ := hqa
        have x0 := X.cell 0
        have x1 := X.cell 1
        have x2 := X.cell 2
        have x3 := X.cell 3
        have x4 := X.cell 4
        have x5 := X.cell 5
        have z0 := Z.cell 0
        have z1 := Z.cell 1
        have z2 := Z.cell 2
        have z3 := Z.cell 3
        have z4 := Z.cell 4
        have z5 := Z.cell 5
        have f0 := Z.frozen 0
        have f1 := Z.frozen 1
        have f2 := Z.frozen 2
        have f3 := Z.frozen 3
        have f4 := Z.frozen 4
        have f5 := Z.frozen 5
        simp [Qy.kind, Qy.field, Qy.text, Qy.low, Qy.high, Qy.parts] at x0 x1 x2 x3 x4 x5 z0 z1 z2 z3 z4 z5
        clear X Z hqr hqg hqa HQ
        go_wp2
        refine bodyPost_ret (v := agg6 (.mk k f t lo hi ps) p c) (by simp [agg6, Qy.kind, Qy.field, Qy.text, Qy.low, Qy.high, Qy.parts, results, Tryz.results50, go_sem, z0, z1, z2, z3, z4, z5]) rfl (ansQ (.mk k f t lo hi ps) hf ht HQA.out HSZ.out (by omega) HQR.out HQG.out)
  have h4b : (u == 4) = false := beq_eq_false_iff_ne.2 h4
  have X := HQ4.out.x
  have Z := HQ4.out.z
  have hMn : ¬ w.heap.size = M := by have := HQ4.out.le; omega
  have hnM : ¬ M = w.heap.size := by have := HQ4.out.le; omega
  have hqr := rd_sets HQ4.out.rd HQ4.out.lt (.int .i64 k) (.string f) (.string t) (.int .i64 lo) (.int .i64 hi) (.slice p ps.length c)
  have hqg := grown_sets HQ4.out.grown (.int .i64 k) (.string f) (.string t) (.int .i64 lo) (.int .i64 hi) (.slice p ps.length c)
  have hqa := avs6 (n := w.heap.size) (HQ4.out.av.of (S' := fun b => w.heap.size < b) (Nat.le_refl _) fun b hs _ => ⟨rfl, hs.1⟩) (Nat.lt_irrefl _) (.int .i64 k) (.string f) (.string t) (.int .i64 lo) (.int .i64 hi) (.slice p ps.length c)
  have HQR : Hid _ := hqr
  have HQG : Hid _ := hqg
  have HQA : Hid _ := hqa
  have x0 := X.cell 0
  have x1 := X.cell 1
  have x2 := X.cell 2
  have x3 := X.cell 3
  have x4 := X.cell 4
  have x5 := X.cell 5
  have z0 := Z.cell 0
  have z1 := Z.cell 1
  have z2 := Z.cell 2
  have z3 := Z.cell 3
  have z4 := Z.cell 4
  have z5 := Z.cell 5
  have f0 := Z.frozen 0
  have f1 := Z.frozen 1
  have f2 := Z.frozen 2
  have f3 := Z.frozen 3
  have f4 := Z.frozen 4
  have f5 := Z.frozen 5
  simp [Qy.kind, Qy.field, Qy.text, Qy.low, Qy.high, Qy.parts] at x0 x1 x2 x3 x4 x5 z0 z1 z2 z3 z4 z5
  clear X Z hqr hqg hqa HQ4
  go_wp2
  refine bodyPost_ret (v := agg6 (.mk k f t lo hi ps) p c) (by simp [agg6, Qy.kind, Qy.field, Qy.text, Qy.low, Qy.high, Qy.parts, results, Tryz.results50, go_sem, z0, z1, z2, z3, z4, z5]) rfl (ansQ (.mk k f t lo hi ps) hf ht (QAv.more (QAv.more HQA.out)) (QSz.more (QSz.more HSZ.out)) (by omega) HQR.out HQG.out)
end Go.Proofs.YtjkimadnopeakaaGreatDoor
