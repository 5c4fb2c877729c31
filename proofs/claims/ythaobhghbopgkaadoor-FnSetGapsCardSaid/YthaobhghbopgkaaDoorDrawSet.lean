/- Contracts of the model's draws of sets: numbers come, not too many; nothing is written but the reader. -/
import Derived.Test.YthaobhghbopgkaaDoorDrawText
import Derived.Test.YthaobhghbopgkaaDoorIntRows
import Derived.Test.YthaobhghbopgkaaDoorToInts
namespace Go.Proofs.YthaobhghbopgkaaDoor
open Go.RowKit

theorem grown_own {w w1 w2 : World} {R : Nat} {r : Option Nat} (h : w.grownBy w1 (some R)) (k : w1.grownBy w2 r) (hr : ∀ j, r = some j → w.heap.size ≤ j) : w.grownBy w2 (some R) :=
  ⟨k.os.trans h.os, k.tape.trans h.tape, k.output.trans h.output, Nat.le_trans h.size k.size, fun i hi hn => (k.block i (by have := h.size; omega) (fun e => by have := hr i e.symm; omega)).trans (h.block i hi hn)⟩
theorem Rd.grown {w w2 : World} {R : Nat} {a : Option Addr} {len cap : Nat} {p : Int} {r : Option Nat} (h : Rd w R a len cap p) (k : w.grownBy w2 r) (hr : ∀ j, r = some j → R < j) : Rd w2 R a len cap p := by
  have := h.lt
  unfold Rd at h ⊢
  rw [k.block R this (fun e => by have := hr R e.symm; omega)]
  exact h
theorem own_kept {w w' : World} {base R : Nat} {e : TypeId} {s : Nat} {v : Value} {n : Nat} {xs : List Value} (h : w.ownsRow base e s v n xs) (hg : w.grownBy w' (some R)) (hb : R < base) : w'.ownsRow base e s v n xs := by
  refine h.kept hg ?_
  cases hv : v.ownBlock with
  | none => exact .inl rfl
  | some j => exact .inr (fun e => by have := (h.lt j hv).1; cases e; omega)

/-- What a draw of numbers leaves: they are the call's own, the reader is on. -/
def Drawn (w w' : World) (R : Nat) (a : Option Addr) (len cap : Nat) (v : Value) (zs : List Int) (p : Nat) : Prop :=
  w'.ownsRow w.heap.size 3 1 v zs.length (zs.map (Value.int .i64)) ∧ Rd w' R a len cap p ∧ w.grownBy w' (some R)
theorem Drawn.picked {w w1 w2 : World} {R : Nat} {a : Option Addr} {len cap : Nat} {v : Value} {zs : List Int} {p q : Nat} (h : Drawn w w1 R a len cap v zs p) (hR : Rd w2 R a len cap q) (hg : w1.grownBy w2 (some R)) (hlt : R < w.heap.size) : Drawn w w2 R a len cap v zs q :=
  ⟨own_kept h.1 hg hlt, hR, grown_trans h.2.2 hg⟩
theorem Drawn.snoc {w w1 w2 : World} {R : Nat} {a : Option Addr} {len cap : Nat} {v v' : Value} {zs : List Int} {z : Int} {p : Nat} {o : Obj} (h : Drawn w w1 R a len cap v zs p) (hlt : R < w.heap.size)
    (ho : w2.ownsRow w.heap.size 3 1 v' (zs.length + 1) (zs.map (Value.int .i64) ++ [.int .i64 z])) (hg : (w1.alloc o).grownBy w2 v.ownBlock) : Drawn w w2 R a len cap v' (zs ++ [z]) p := by
  have hl : ∀ j, v.ownBlock = some j → w.heap.size ≤ j := fun j hj => (h.1.lt j hj).1
  refine ⟨snoc_row ho, (h.2.1.alloc o).grown hg (fun j hj => by have := hl j hj; omega), ?_⟩
  exact grown_own (grown_trans h.2.2 (grown_alloc _ _ _)) hg hl
theorem Drawn.none {w w1 : World} {R : Nat} {a : Option Addr} {len cap : Nat} {p : Nat} (hR : Rd w1 R a len cap p) (hg : w.grownBy w1 (some R)) : Drawn w (w1.alloc (.cells #[] 3)) R a len cap (.slice (some ⟨w1.heap.size, 0, none⟩) 0 0) [] p :=
  ⟨ownsRow_mono (World.ownsRow_lit w1 #[] 0 (Nat.le_refl _) (by decide) rfl) hg.size, hR.alloc _, grown_trans hg (grown_alloc _ _ _)⟩

set_option maxHeartbeats 2000000 in
theorem set_any (R : Nat) (a : Option Addr) (len cap k : Nat) (w : World) (hR : Rd w R a len cap k) (hC : Code w R a len) (hk : k ≤ 800000) :
    Calls Tryd.prog 28 #[.pointer (some ⟨R, 0, none⟩)] w fun e w' => ∃ (v : Value) (zs : List Int) (p : Nat), e = .returned v ∧ zs.length ≤ 17 ∧ p ≤ k + 40 ∧ Drawn w w' R a len cap v zs p := by
  obtain ⟨i0, hi, hz0, hz1, hz2⟩ := info_parts infoInt
  have hlt := hR.lt
  have hd0 : Drawn w (w.alloc (.cells #[] 3)) R a len cap (.slice (some ⟨w.heap.size, 0, none⟩) 0 0) [] k := Drawn.none hR (World.grownBy.refl _ _)
  have HC : Hid (Code w R a len) := hC
  clear hR hC
  go_enter Tryd.func28, Tryd.ntmps28
  go_wp2_with fail
  refine (pick_any R a len cap k _ _ hd0.2.1 (HC.out.kept hd0.2.2 hlt) (by omega) (by omega) (by omega)).mono ?_
  rintro e w1 ⟨n0, rfl, hn0, hn1, hR1, hg1⟩
  have hd1 := hd0.picked hR1 hg1 hlt
  clear hd0 hR1 hg1
  have HD1 : Hid (Drawn w w1 R a len cap (.slice (some ⟨w.heap.size, 0, none⟩) 0 0) [] (k + 1)) := hd1
  clear hd1
  go_wp2_with fail
  refine (pick_any R a len cap (k + 1) _ _ HD1.out.2.1 (HC.out.kept HD1.out.2.2 hlt) (by omega) (by omega) (by omega)).mono ?_
  rintro e w2 ⟨j0, rfl, hj0, hj1, hR2, hg2⟩
  have hd2 := HD1.out.picked hR2 hg2 hlt
  clear HD1 hR2 hg2
  obtain ⟨j0, rfl⟩ := Int.eq_ofNat_of_zero_le hj0
  have HD2 : Hid (Drawn w w2 R a len cap (.slice (some ⟨w.heap.size, 0, none⟩) 0 0) [] (k + 1 + 1)) := hd2
  clear hd2
  go_wp2
  go_loopw [3, 4, 5] (fun v nn kk wr => ∃ (zs : List Int) (n : Int) (j p : Nat), kk = .int .i64 j ∧ nn = .int .i64 n ∧ zs.length + j ≤ 7 ∧ p ≤ k + 2 + zs.length ∧ 0 ≤ n ∧ n ≤ 3 + 3 * (zs.length : Int) ∧ Drawn w wr R a len cap v zs p) (fun _ _ kk _ => (intOf kk).toNat)
  case atStart => exact ⟨[], n0, j0, k + 1 + 1, rfl, rfl, by simp; omega, by simp, hn0, by simp; omega, HD2.out⟩
  case round =>
    clear HD2
    obtain ⟨zs, n, j, p, rfl, rfl, hzj, hp, hn1, hn2, hd⟩ := hrel
    have HD : Hid (Drawn w wr R a len cap u3 zs p) := hd
    have hsz := hd.2.2.size
    clear hd
    by_cases hj : 0 < j
    · have hj' : (0 : Int) < (j : Int) := by omega
      go_wp2_with (at_builtin; refine wpList_append_own _ rfl _ _ 23 rfl w.heap.size 3 i0 (.int .i64 0) 1 8 Tryd.underlying23 hi hz0 hz1 hz2 rfl (by decide) _ _ _ rfl (HD.out.1.alloc _) ⟨wr.heap.size, 0, none⟩ 1 1 [.int .i64 n] rfl rfl (cells_new _ _ _) (int_one _) (by unfold maxLen; omega) (by omega) (by simp; omega) ?_)
      intro v' w3 hown' hgrow _
      have hd3 := HD.out.snoc hlt hown' hgrow
      have HD3 : Hid (Drawn w w3 R a len cap v' (zs ++ [n]) p) := hd3
      clear hown' hgrow HD hd3
      go_wp2_with fail
      refine (pick_any R a len cap p _ _ HD3.out.2.1 (HC.out.kept HD3.out.2.2 hlt) (by omega) (by omega) (by omega)).mono ?_
      rintro e w4 ⟨x, rfl, hx0, hx1, hR4, hg4⟩
      have HD4 : Hid (Drawn w w4 R a len cap v' (zs ++ [n]) (p + 1)) := HD3.out.picked hR4 hg4 hlt
      clear HD3 hR4 hg4
      go_wp2
      go_roundw
      case rel => exact ⟨zs ++ [n], n + 1 + x, j - 1, p + 1, by go_num, rfl, by simp; omega, by simp; omega, by omega, by simp; omega, HD4.out⟩
      case measure => simp [intOf]; omega
    · have hj' : decide ((0 : Int) < (j : Int)) = false := by simp; omega
      go_wp2_with fail
      refine (pick_any R a len cap p _ _ HD.out.2.1 (HC.out.kept HD.out.2.2 hlt) (by omega) (by omega) (by omega)).mono ?_
      rintro e w4 ⟨x, rfl, hx0, hx1, hR4, hg4⟩
      have HD4 : Hid (Drawn w w4 R a len cap u3 zs (p + 1)) := HD.out.picked hR4 hg4 hlt
      by_cases hx : x = 0
      · subst hx
        have HD5 : Hid (Drawn w (w4.alloc (.cells #[] 3)) R a len cap (.slice (some ⟨w4.heap.size, 0, none⟩) 0 0) [] (p + 1)) := Drawn.none hR4 HD4.out.2.2
        clear HD HD4 hR4 hg4
        go_wp2
        go_loopw [3, 6] (fun v kk wr => ∃ (ys : List Int) (q : Nat), kk = .int .i64 (ys.length : Nat) ∧ ys.length ≤ 17 ∧ q ≤ p + 1 + ys.length ∧ Drawn w wr R a len cap v ys q) (fun _ kk _ => 17 - (intOf kk).toNat)
        case atStart => exact ⟨[], p + 1, rfl, by simp, by simp, HD5.out⟩
        case round =>
          clear HD5
          obtain ⟨ys, q, rfl, hy, hq, hd⟩ := hrel
          have HD : Hid (Drawn w wr R a len cap u3 ys q) := hd
          clear hd
          go_wp2_with fail
          refine (pick_any R a len cap q _ _ HD.out.2.1 (HC.out.kept HD.out.2.2 hlt) (by omega) (by omega) (by omega)).mono ?_
          rintro e w5 ⟨x, rfl, hx0, hx1, hR5, hg5⟩
          have HD5 : Hid (Drawn w w5 R a len cap u3 ys (q + 1)) := HD.out.picked hR5 hg5 hlt
          have hs5 := HD5.out.2.2.size
          clear HD hR5 hg5
          by_cases hm : (ys.length : Int) < 16 + x
          · go_wp2_with (at_builtin; refine wpList_append_own _ rfl _ _ 23 rfl w.heap.size 3 i0 (.int .i64 0) 1 8 Tryd.underlying23 hi hz0 hz1 hz2 rfl (by decide) _ _ _ rfl (HD5.out.1.alloc _) ⟨w5.heap.size, 0, none⟩ 1 1 [.int .i64 (ys.length : Nat)] rfl rfl (cells_new _ _ _) (int_one _) (by unfold maxLen; omega) (by omega) (by simp; omega) ?_)
            intro v' w6 hown' hgrow _
            have HD6 : Hid (Drawn w w6 R a len cap v' (ys ++ [(ys.length : Int)]) (q + 1)) := HD5.out.snoc hlt hown' hgrow
            clear hown' hgrow HD5
            go_wp2
            go_roundw
            case rel => exact ⟨ys ++ [(ys.length : Int)], q + 1, by simp, by simp; omega, by simp; omega, HD6.out⟩
            case measure => simp [intOf]; omega
          · go_wp2
            go_ret
            exact ⟨u3, ys, q + 1, rfl, hy, by omega, HD5.out⟩
      · have hx' : (x == 0) = false := by simpa using hx
        clear hx HD hR4 hg4
        go_wp2
        go_ret
        exact ⟨u3, zs, p + 1, rfl, by omega, by omega, HD4.out⟩
end Go.Proofs.YthaobhghbopgkaaDoor
