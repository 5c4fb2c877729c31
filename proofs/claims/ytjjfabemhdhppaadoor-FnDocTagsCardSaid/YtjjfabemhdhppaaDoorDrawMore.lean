/- Contracts of l1Many, l11Text, l11AnyText and of the draws of a text. -/
import Derived.Test.YtjjfabemhdhppaaDoorDrawText
namespace Go.Proofs.YtjjfabemhdhppaaDoor
open Go.RowKit

theorem many_odd (t y q : Nat) : t + y + (y + y) * q = t + y * (2 * q + 1) := by
  rw [Nat.add_mul, Nat.mul_add, Nat.mul_one, Nat.mul_left_comm]
  omega
theorem many_even (t y q : Nat) : t + (y + y) * q = t + y * (2 * q) := by
  rw [Nat.add_mul, Nat.mul_left_comm]
  omega

set_option maxHeartbeats 400000 in
theorem many_any (s : ByteArray) (n : Nat) (w : World) (hs : s.size * n ≤ 1048576) (hs1 : 1 ≤ s.size) :
    Calls Tryd.prog 52 #[.string s, .int .i64 n] w fun e w' => ∃ t, e = .returned (.string t) ∧ t.size = s.size * n ∧ w = w' := by
  go_enter Tryd.func52, Tryd.ntmps52
  go_wp2
  go_loop [0, 1, 5] (fun x i o => ∃ (y t : ByteArray) (j : Nat), x = .string y ∧ i = .int .i64 j ∧ o = .string t ∧ t.size + y.size * j = s.size * n ∧ 1 ≤ y.size) (fun _ i _ => (intOf i).toNat)
  case atStart => exact ⟨s, ⟨#[]⟩, n, rfl, rfl, rfl, Nat.zero_add _, hs1⟩
  case round =>
    obtain ⟨y, t, j, rfl, rfl, rfl, hsum, hy⟩ := hrel
    by_cases hj : j = 0
    · subst hj
      go_wp2
      go_ret
      exact ⟨t, rfl, by omega, rfl⟩
    · have h1 : j ≤ y.size * j := Nat.le_mul_of_pos_left _ (by omega)
      have h2 : y.size ≤ y.size * j := Nat.le_mul_of_pos_right _ (by omega)
      have b1 : t.size ≤ 1048576 := by omega
      have b2 : y.size ≤ 1048576 := by omega
      have b3 : j ≤ 1048576 := by omega
      have HS : Hid (t.size + y.size * j = s.size * n) := hsum
      clear hsum h1 h2
      have hq : j = 2 * (j / 2) + 1 ∨ j = 2 * (j / 2) := by omega
      rcases hq with hq | hq
      · have HQ : Hid (j = 2 * (j / 2) + 1) := hq
        have hm : ((j : Int) % 2 == 1) = true := by simp; omega
        clear hq
        go_wp2
        go_round
        case rel => exact ⟨y ++ y, t ++ y, j / 2, rfl, by go_num, rfl, by rw [ByteArray.size_append, ByteArray.size_append, many_odd, ← HQ.out]; exact HS.out, by rw [ByteArray.size_append]; omega⟩
        case measure => simp [intOf]; omega
      · have HQ : Hid (j = 2 * (j / 2)) := hq
        have hm : ((j : Int) % 2 == 1) = false := by simp; omega
        clear hq
        go_wp2
        go_round
        case rel => exact ⟨y ++ y, t, j / 2, rfl, by go_num, rfl, by rw [ByteArray.size_append, many_even, ← HQ.out]; exact HS.out, by rw [ByteArray.size_append]; omega⟩
        case measure => simp [intOf]; omega

set_option maxHeartbeats 400000 in
theorem text_any (R : Nat) (a : Option Addr) (len cap k : Nat) (w : World) (hR : Rd w R a len cap k) (hC : Code w R a len) (hk : k ≤ 800000) :
    Calls Tryd.prog 51 #[.pointer (some ⟨R, 0, none⟩)] w fun e w' => ∃ (t : ByteArray) (k' : Nat), e = .returned (.string t) ∧ t.size ≤ 100 ∧ k' ≤ k + 20 ∧ Rd w' R a len cap (k' : Int) ∧ w.grownBy w' (some R) := by
  have hlt := hR.lt
  go_enter Tryd.func51, Tryd.ntmps51
  go_wp2_with fail
  refine (pick_any R a len cap k _ _ hR hC (by omega) (by omega) (by omega)).mono ?_
  rintro e w1 ⟨v, rfl, hv0, hv1, hR1, hg1⟩
  obtain ⟨j0, rfl⟩ := Int.eq_ofNat_of_zero_le hv0
  have HR1 : Hid (Rd w1 R a len cap ((k + 1 : Nat) : Int)) := hR1
  have HC1 : Hid (Code w1 R a len) := hC.kept hg1 hlt
  clear hR hC hR1
  go_wp2
  go_loopw [3, 4] (fun o i wr => ∃ (t : ByteArray) (j kk : Nat), o = .string t ∧ i = .int .i64 j ∧ j ≤ 5 ∧ t.size + 20 * j ≤ 100 ∧ kk + 2 * j ≤ k + 11 ∧ Rd wr R a len cap (kk : Int) ∧ Code wr R a len ∧ w.grownBy wr (some R)) (fun _ i _ => (intOf i).toNat)
  case atStart => exact ⟨⟨#[]⟩, j0, k + 1, rfl, rfl, by omega, by show 0 + 20 * j0 ≤ 100; omega, by omega, HR1.out, HC1.out, hg1⟩
  case round =>
    obtain ⟨t, j, kk, rfl, rfl, hj5, htj, hkk, hRr, hCr, hgr⟩ := hrel
    by_cases hj : j = 0
    · subst hj
      have HRr : Hid (Rd wr R a len cap (kk : Int)) := hRr
      clear hRr hCr
      go_wp2
      go_ret
      exact ⟨t, kk, rfl, by omega, by omega, HRr.out, hgr⟩
    · have hltr := hRr.lt
      go_wp2_with fail
      refine (word_any R a len cap kk _ hRr hCr (by omega)).mono ?_
      rintro e w2 ⟨t2, rfl, ht2, hR2, hg2⟩
      have HR2 : Hid (Rd w2 R a len cap ((kk + 1 : Nat) : Int)) := hR2
      have HC2 : Hid (Code w2 R a len) := hCr.kept hg2 hltr
      have hlt2 := hR2.lt
      clear hRr hCr hR2
      go_wp2_with fail
      refine (of_any R w2.heap.size 5 a len cap (kk + 1) _ _ (HR2.out.alloc _) (HC2.out.kept (grown_alloc _ _ _) hlt2) (by omega) (strs_new w2 _ _ 2 (by decide +kernel)) (by omega) (by omega) (by omega)).mono ?_
      rintro e w3 ⟨t3, rfl, ht3, hR3, hg3⟩
      have HR3 : Hid (Rd w3 R a len cap ((kk + 1 + 1 : Nat) : Int)) := hR3
      have hg23 := grown_trans (grown_alloc w2 _ R) hg3
      have HC3 : Hid (Code w3 R a len) := HC2.out.kept hg23 hlt2
      clear hR3
      have hg4 := grown_trans hgr (grown_trans hg2 hg23)
      clear hg3 hg23 hg2 hgr
      go_wp2
      go_roundw
      case rel => exact ⟨t ++ t2 ++ t3, j - 1, kk + 1 + 1, rfl, by go_num, by omega, by rw [ByteArray.size_append, ByteArray.size_append]; omega, by omega, HR3.out, HC3.out, hg4⟩
      case measure => simp [intOf]; omega

set_option maxHeartbeats 400000 in
theorem anyText_any (R : Nat) (a : Option Addr) (len cap k : Nat) (w : World) (hR : Rd w R a len cap k) (hC : Code w R a len) (hk : k ≤ 700000) :
    Calls Tryd.prog 37 #[.pointer (some ⟨R, 0, none⟩)] w fun e w' => ∃ (t : ByteArray) (k' : Nat), e = .returned (.string t) ∧ t.size ≤ 110 ∧ k' ≤ k + 30 ∧ Rd w' R a len cap (k' : Int) ∧ w.grownBy w' (some R) := by
  have hlt := hR.lt
  go_enter Tryd.func37, Tryd.ntmps37
  go_wp2_with fail
  refine (pick_any R a len cap k _ _ hR hC (by omega) (by omega) (by omega)).mono ?_
  rintro e w1 ⟨v, rfl, hv0, hv1, hR1, hg1⟩
  have HR1 : Hid (Rd w1 R a len cap ((k + 1 : Nat) : Int)) := hR1
  have HC1 : Hid (Code w1 R a len) := hC.kept hg1 hlt
  have hlt1 := hR1.lt
  clear hR hC hR1
  by_cases h0 : v = 0
  · subst h0
    go_wp2_with fail
    refine (pick_any R a len cap (k + 1) _ _ HR1.out HC1.out (by omega) (by omega) (by omega)).mono ?_
    rintro e w2 ⟨v2, rfl, hv20, hv21, hR2, hg2⟩
    obtain ⟨j, rfl⟩ := Int.eq_ofNat_of_zero_le hv20
    have HR2 : Hid (Rd w2 R a len cap ((k + 1 + 1 : Nat) : Int)) := hR2
    clear hR2
    go_wp2_with fail
    rw [show ((60 : Int) + (j : Int)) = ((60 + j : Nat) : Int) from by omega]
    refine (many_any ⟨#[120]⟩ (60 + j) _ (by show 1 * _ ≤ _; omega) (Nat.le_refl _)).mono ?_
    rintro e _ ⟨t, rfl, ht, rfl⟩
    have ht' : t.size ≤ 61 := by rw [ht]; show 1 * (60 + j) ≤ 61; omega
    clear ht
    go_wp2
    go_ret
    exact ⟨t, k + 1 + 1, rfl, by omega, by omega, HR2.out, grown_trans hg1 hg2⟩
  · have h0' : (v == 0) = false := by simpa using h0
    by_cases h1 : v = 1
    · subst h1
      go_wp2_with fail
      refine (text_any R a len cap (k + 1) _ HR1.out HC1.out (by omega)).mono ?_
      rintro e w2 ⟨t2, k2, rfl, ht2, hk2, hR2, hg2⟩
      have HR2 : Hid (Rd w2 R a len cap (k2 : Int)) := hR2
      have HC2 : Hid (Code w2 R a len) := HC1.out.kept hg2 hlt1
      have hlt2 := hR2.lt
      clear hR2
      go_wp2_with fail
      refine (of_any R w2.heap.size 3 a len cap k2 _ _ (HR2.out.alloc _) (HC2.out.kept (grown_alloc _ _ _) hlt2) (by omega) (strs_new w2 _ _ 1 (by decide +kernel)) (by omega) (by omega) (by omega)).mono ?_
      rintro e w3 ⟨t3, rfl, ht3, hR3, hg3⟩
      have HR3 : Hid (Rd w3 R a len cap ((k2 + 1 : Nat) : Int)) := hR3
      clear hR3
      go_wp2
      go_ret
      exact ⟨t2 ++ t3, k2 + 1, rfl, by rw [ByteArray.size_append]; omega, by omega, HR3.out, grown_trans hg1 (grown_trans hg2 (grown_trans (grown_alloc w2 _ R) hg3))⟩
    · have h1' : (v == 1) = false := by simpa using h1
      go_wp2_with fail
      refine (text_any R a len cap (k + 1) _ HR1.out HC1.out (by omega)).mono ?_
      rintro e w2 ⟨t2, k2, rfl, ht2, hk2, hR2, hg2⟩
      have HR2 : Hid (Rd w2 R a len cap (k2 : Int)) := hR2
      clear hR2
      go_wp2
      go_ret
      exact ⟨t2, k2, rfl, by omega, by omega, HR2.out, grown_trans hg1 hg2⟩

theorem grown_below {w w1 w2 : World} (hb : Below w.heap.size w w1) (hg : w1.grownBy w2 (some w.heap.size)) : Below w.heap.size w w2 :=
  hb.grown hg hb.size (fun j hj => by cases hj; exact Nat.le_refl _)

end Go.Proofs.YtjjfabemhdhppaaDoor
