/- spec.l9Least, spec.Far: the model's own reckoning, row by row. -/
import Derived.Test.YtlpclfeppddlfaaFar
import Derived.Test.YtlpclfeppddlfaaBlk
import Derived.Deep.AppendLies
import Derived.Deep.RegionLaw
namespace Go.Proofs.Ytlpclfeppddlfaa
open Go.RowKit

def leastI (a b c : Int) : Int := min a (min b c)
theorem l9Least_any (a b c : Int) (w : World) :
    Calls Try.prog 19 #[.int .i64 a, .int .i64 b, .int .i64 c] w fun e w' => e = .returned (.int .i64 (leastI a b c)) ∧ w' = w := by
  by_cases h1 : b < a
  · by_cases h2 : c < b
    all_goals
      go_enter Try.func19, Try.ntmps19
      go_wp2
      go_ret
      exact ⟨ret_int (by unfold leastI; omega), rfl⟩
  · by_cases h2 : c < a
    all_goals
      go_enter Try.func19, Try.ntmps19
      go_wp2
      go_ret
      exact ⟨ret_int (by unfold leastI; omega), rfl⟩

set_option maxHeartbeats 2000000 in
set_option maxRecDepth 100000 in
theorem farS_any (a b : ByteArray) (w : World) (ha : a.size ≤ 1048576) (hb : b.size ≤ 1048576) :
    Calls Try.prog 9 #[.string a, .string b] w fun e w' => e = .returned (.int .i64 (farB a b)) ∧ Below w.heap.size w w' := by
  have hma : a.size ≤ maxLen := by unfold maxLen; omega
  have hmb : b.size ≤ maxLen := by unfold maxLen; omega
  cases h1 : textB a with
  | false =>
    have HF : Hid (farB a b = -1) := by unfold Hid farB; simp [h1]
    go_enter Try.func9, Try.ntmps9
    go_wp2_with fail
    refine (l2Text_any a _ hma).mono ?_
    rintro e w1 ⟨rfl, rfl⟩
    rw [h1]
    go_wp2
    go_ret
    exact ⟨ret_int HF.out.symm, Below.refl _ _⟩
  | true =>
    cases h2 : textB b with
    | false =>
      have HF : Hid (farB a b = -1) := by unfold Hid farB; simp [h2]
      go_enter Try.func9, Try.ntmps9
      go_wp2_with fail
      refine (l2Text_any a _ hma).mono ?_
      rintro e w1 ⟨rfl, rfl⟩
      rw [h1]
      go_wp2_with fail
      refine (l2Text_any b _ hmb).mono ?_
      rintro e w1 ⟨rfl, rfl⟩
      rw [h2]
      go_wp2
      go_ret
      exact ⟨ret_int HF.out.symm, Below.refl _ _⟩
    | true =>
      have HF : Hid (farB a b = fI a b a.size b.size) := by unfold Hid farB; simp [h1, h2]
      have HSA : Hid (a.size ≤ 60 ∧ b.size ≤ 60) := by
        have k1 : (a.size : Int) ≤ 60 := by simp [textB] at h1; omega
        have k2 : (b.size : Int) ≤ 60 := by simp [textB] at h2; omega
        exact ⟨by omega, by omega⟩
      obtain ⟨i0, hi, hz0, hz1, hz2⟩ := info_parts infoInt
      go_enter Try.func9, Try.ntmps9
      go_wp2_with fail
      refine (l2Text_any a _ hma).mono ?_
      rintro e w1 ⟨rfl, rfl⟩
      rw [h1]
      go_wp2_with fail
      refine (l2Text_any b _ hmb).mono ?_
      rintro e w1 ⟨rfl, rfl⟩
      rw [h2]
      clear h1 h2
      have hlit : (w1.alloc (.cells #[] 3)).ownsRow w1.heap.size 3 1 (.slice (some ⟨w1.heap.size, 0, none⟩) 0 0) 0 (rowL (fI a b 0) 0) := World.ownsRow_lit w1 #[] 0 (Nat.le_refl _) (by decide) rfl
      have hb0 : Below w1.heap.size w1 (w1.alloc (.cells #[] 3)) := (Below.refl _ w1).alloc (Nat.le_refl _) _
      go_wp2
      go_loopw [5, 6] (fun v i wr => ∃ k : Nat, k ≤ b.size + 1 ∧ i = .int .i64 k ∧ wr.ownsRow w1.heap.size 3 1 v k (rowL (fI a b 0) k) ∧ v ≠ .slice none 0 0 ∧ Below w1.heap.size w1 wr) (fun _ i _ => b.size + 1 - (intOf i).toNat)
      case atStart => exact ⟨0, Nat.zero_le _, rfl, hlit, nofun, hb0⟩
      case round =>
        obtain ⟨k, hk, rfl, hown, hnn, hbel⟩ := hrel
        clear hlit hb0
        have hsz := hbel.size
        by_cases hlt : k < b.size + 1
        · have hi1 : (k : Int) ≤ (b.size : Int) := by omega
          go_wp2_with (at_builtin; refine wpList_append_own _ rfl _ _ 37 rfl w1.heap.size 3 i0 (.int .i64 0) 1 8 Try.underlying37 hi hz0 hz1 hz2 rfl (by decide) _ _ _ rfl (hown.alloc _) ⟨wr.heap.size, 0, none⟩ 1 1 [.int .i64 (k : Int)] rfl rfl (cells_new _ _ _) (int_one _) (by unfold maxLen; omega) (by omega) (by simp; omega) ?_)
          intro v' w3 hown' hgrow hnil
          have hnn' : v' ≠ .slice none 0 0 := hnil
          have hb3 : Below w1.heap.size w1 w3 := (hbel.alloc (by omega) _).grown hgrow (by simp; omega) (fun j hj => (hown.lt j hj).1)
          have ho3 : w3.ownsRow w1.heap.size 3 1 v' (k + 1) (rowL (fI a b 0) (k + 1)) := by
            rw [rowL_snoc, fI_zero]
            exact hown'
          clear hown' hgrow hown hnil
          go_wp2
          go_roundw
          case rel => exact ⟨k + 1, by omega, by go_num, ho3, hnn', hb3⟩
          case measure => simp [intOf]; omega
        · have hkb : k = b.size + 1 := by omega
          have hi1 : decide ((k : Int) ≤ (b.size : Int)) = false := by simp; omega
          have hi2 : decide (k ≤ b.size) = false := by simp; omega
          rw [hkb] at hown
          clear hkb
          go_wp2
          go_loopw [5, 7] (fun v i wr => ∃ m : Nat, m ≤ a.size ∧ i = .int .i64 ((m : Int) + 1) ∧ (∃ g cap, v = .slice (some ⟨g, 0, none⟩) (b.size + 1) cap ∧ wr.ownsRow w1.heap.size 3 1 (.slice (some ⟨g, 0, none⟩) (b.size + 1) cap) (b.size + 1) (rowL (fI a b m) (b.size + 1))) ∧ Below w1.heap.size w1 wr) (fun _ i _ => a.size + 1 - (intOf i).toNat)
          case atStart =>
            rcases hown.2 with ⟨h0, _⟩ | ⟨g, cap, cur, rfl, hg⟩
            · exact absurd h0 hnn
            · exact ⟨0, Nat.zero_le _, by go_num, ⟨g, cap, rfl, hown⟩, hbel⟩
          case round =>
            clear hown hnn hbel hsz
            rename World => wo
            obtain ⟨m, hm, rfl, ⟨g, cap, rfl, hown⟩, hbel⟩ := hrel
            have hsz := hbel.size
            by_cases hml : m < a.size
            · have hms : (m : Int) + 1 ≤ (a.size : Int) := by omega
              have hgl : g < wo.heap.size := by have := (hown.lt g rfl).2; omega
              have HC : Hid (∀ j, j < b.size + 1 → wo.cell? ⟨g, j, none⟩ = some (.int .i64 (fI a b m j))) := fun j hj => by rw [hown.cellAt j (by omega), rowL_at _ _ _ hj]
              have hl2 : (wo.alloc (.cells #[.int .i64 ((m : Int) + 1)] 3)).ownsRow wo.heap.size 3 1 (.slice (some ⟨wo.heap.size, 0, none⟩) 1 1) 1 (rowL (fI a b (m + 1)) 1) := by
                have := World.ownsRow_lit (e := 3) (size := 1) wo #[.int .i64 ((m : Int) + 1)] 1 (Nat.le_refl _) (by decide) rfl
                have e : rowL (fI a b (m + 1)) 1 = [.int .i64 ((m : Int) + 1)] := by
                  show [Value.int .i64 (fI a b (m + 1) 0)] = _
                  rw [fI_left]
                  rfl
                rw [e]
                exact this
              have hb2 : Below wo.heap.size wo (wo.alloc (.cells #[.int .i64 ((m : Int) + 1)] 3)) := (Below.refl _ wo).alloc (Nat.le_refl _) _
              have HBE : Hid (Below w1.heap.size w1 wo) := hbel
              clear hown hbel
              go_wp2
              go_loopw [8, 9] (fun v i wy => ∃ k : Nat, k ≤ b.size ∧ i = .int .i64 ((k : Int) + 1) ∧ (∃ g2 cap2, v = .slice (some ⟨g2, 0, none⟩) (k + 1) cap2 ∧ wy.ownsRow wo.heap.size 3 1 (.slice (some ⟨g2, 0, none⟩) (k + 1) cap2) (k + 1) (rowL (fI a b (m + 1)) (k + 1))) ∧ Below wo.heap.size wo wy) (fun _ i _ => b.size + 1 - (intOf i).toNat)
              case atStart => exact ⟨0, Nat.zero_le _, by go_num, ⟨_, _, rfl, hl2⟩, hb2⟩
              case round =>
                clear hl2 hb2
                obtain ⟨k, hk, rfl, ⟨g2, cap2, rfl, hown⟩, hbel⟩ := hrel
                have hsz2 := hbel.size
                by_cases hkl : k < b.size
                · have hks : (k : Int) + 1 ≤ (b.size : Int) := by omega
                  have hks0 : (k : Int) < (b.size : Int) := by omega
                  have hms0 : (m : Int) < (a.size : Int) := by omega
                  have hk0 : (0 : Int) ≤ (k : Int) + 1 := by omega
                  have hk1 : (k : Int) + 1 < (b.size : Int) + 1 := by omega
                  have hk2 : (k : Int) < (k : Int) + 1 := by omega
                  have hkw : IntKind.i64.wrap (k : Int) = (k : Int) := by simp [IntKind.wrap, IntKind.bits, IntKind.signed]; omega
                  have c0 := (hbel.cell (p := ⟨g, k, none⟩) hgl).trans (HC.out k (by omega))
                  have c1 := (hbel.cell (p := ⟨g, k + 1, none⟩) hgl).trans (HC.out (k + 1) (by omega))
                  have c2 := hown.cellAt k (by omega)
                  rw [rowL_at _ _ _ (by omega)] at c2
                  have b1 := fI_bd a b (m + 1) k
                  have b2 := fI_bd a b m (k + 1)
                  have b3 := fI_bd a b m k
                  have HO : Hid (wr.ownsRow wo.heap.size 3 1 (.slice (some ⟨g2, 0, none⟩) (k + 1) cap2) (k + 1) (rowL (fI a b (m + 1)) (k + 1))) := hown
                  have HOA : Hid (∀ n o, ((wr.drewN n).alloc o).ownsRow wo.heap.size 3 1 (.slice (some ⟨g2, 0, none⟩) (k + 1) cap2) (k + 1) (rowL (fI a b (m + 1)) (k + 1))) := fun n o => (ownsRow_drewN hown n).alloc o
                  have HB : Hid (Below wo.heap.size wo wr) := hbel
                  clear hown hbel
                  have HS : Hid (byteAt a m = byteAt b k → fI a b (m + 1) (k + 1) = min (fI a b m k) (min (fI a b (m + 1) k + 1) (fI a b m (k + 1) + 1))) := fI_same a b m k
                  have HT : Hid (¬ byteAt a m = byteAt b k → fI a b (m + 1) (k + 1) = min (fI a b m k + 1) (min (fI a b (m + 1) k + 1) (fI a b m (k + 1) + 1))) := fI_turn a b m k
                  have HE : Hid (byteAt a m = ((a[m]'hml).toNat : Int) ∧ byteAt b k = ((b[k]'hkl).toNat : Int)) := ⟨byteAt_eq a m hml, byteAt_eq b k hkl⟩
                  have HV : Hid (∀ v, fI a b (m + 1) (k + 1) = v → rowL (fI a b (m + 1)) (k + 1) ++ [.int .i64 v] = rowL (fI a b (m + 1)) (k + 1 + 1)) := fun v hv => by rw [rowL_snoc _ (k + 1), hv]
                  generalize fI a b (m + 1) (k + 1) = r at *
                  generalize fI a b (m + 1) k = x at *
                  generalize fI a b m (k + 1) = y at *
                  generalize fI a b m k = z at *
                  have HW : Hid (IntKind.i64.wrap (y + 1) = y + 1 ∧ IntKind.i64.wrap (x + 1) = x + 1) := by
                    obtain ⟨s1, s2⟩ := HSA.out
                    exact ⟨by simp [IntKind.wrap, IntKind.bits, IntKind.signed]; omega, by simp [IntKind.wrap, IntKind.bits, IntKind.signed]; omega⟩
                  by_cases he : ((a[m]'hml).toNat : Int) = ((b[k]'hkl).toNat : Int)
                  · have hd : (((a[m]'hml).toNat : Int) != ((b[k]'hkl).toNat : Int)) = false := by simp [he]
                    have HR : Hid (r = leastI (IntKind.i64.wrap (y + 1)) (IntKind.i64.wrap (x + 1)) z) := by unfold Hid; rw [HW.out.1, HW.out.2, HS.out (by rw [HE.out.1, HE.out.2]; exact he)]; unfold leastI; omega
                    clear he
                    go_wp2
                    go_quiet (fail)
                    go_wp2
                    go_region_law (first
                      | (go_simp; go_at_call 19; refine (l9Least_any _ _ _ _).mono ?_; rintro e w3 ⟨rfl, rfl⟩)
                      | (refine step_append_lies _ (by rfl) _ _ 37 (by rfl) wo.heap.size 3 i0 (.int .i64 0) 1 8 Try.underlying37 hi hz0 hz1 hz2 rfl (by decide) (.slice (some ⟨g2, 0, none⟩) (k + 1) cap2) (k + 1) (rowL (fI a b (m + 1)) (k + 1)) (by rfl) (HOA.out _ _) ⟨wr.heap.size, 0, none⟩ 1 1 [.int .i64 (leastI (IntKind.i64.wrap (y + 1)) (IntKind.i64.wrap (x + 1)) z)] (by rfl) rfl (cells_new _ _ _) (int_one _) (by omega) (by unfold maxLen; omega) (by omega) (by simp; omega) (wr.heap.size + 1) (by simp) ?_; intro g6 c6 w6 hown' hgrow hat hlt6))
                    all_goals
                      have hb3 : Below wo.heap.size wo w6 := ((below_drewN HB.out _).alloc (by simp; omega) _).grown hgrow (by simp; omega) (fun j hj => (HO.out.lt j hj).1)
                      have ho3 : w6.ownsRow wo.heap.size 3 1 (.slice (some ⟨g6, 0, none⟩) (k + 1 + 1) c6) (k + 1 + 1) (rowL (fI a b (m + 1)) (k + 1 + 1)) := by
                        rw [← HV.out _ HR.out]
                        exact hown'
                      clear hown' hgrow hat
                      go_wp2
                      go_roundw
                      case rel => exact ⟨k + 1, by omega, by go_num, ⟨g6, c6, rfl, ho3⟩, hb3⟩
                      case measure => simp [intOf]; omega
                  · have hd : (((a[m]'hml).toNat : Int) != ((b[k]'hkl).toNat : Int)) = true := by simp [he]
                    have HR : Hid (r = leastI (IntKind.i64.wrap (y + 1)) (IntKind.i64.wrap (x + 1)) (z + 1)) := by unfold Hid; rw [HW.out.1, HW.out.2, HT.out (by rw [HE.out.1, HE.out.2]; exact he)]; unfold leastI; omega
                    clear he
                    go_wp2
                    go_quiet (fail)
                    go_wp2
                    go_region_law (first
                      | (go_simp; go_at_call 19; refine (l9Least_any _ _ _ _).mono ?_; rintro e w3 ⟨rfl, rfl⟩)
                      | (refine step_append_lies _ (by rfl) _ _ 37 (by rfl) wo.heap.size 3 i0 (.int .i64 0) 1 8 Try.underlying37 hi hz0 hz1 hz2 rfl (by decide) (.slice (some ⟨g2, 0, none⟩) (k + 1) cap2) (k + 1) (rowL (fI a b (m + 1)) (k + 1)) (by rfl) (HOA.out _ _) ⟨wr.heap.size, 0, none⟩ 1 1 [.int .i64 (leastI (IntKind.i64.wrap (y + 1)) (IntKind.i64.wrap (x + 1)) (z + 1))] (by rfl) rfl (cells_new _ _ _) (int_one _) (by omega) (by unfold maxLen; omega) (by omega) (by simp; omega) (wr.heap.size + 1) (by simp) ?_; intro g6 c6 w6 hown' hgrow hat hlt6))
                    all_goals
                      have hb3 : Below wo.heap.size wo w6 := ((below_drewN HB.out _).alloc (by simp; omega) _).grown hgrow (by simp; omega) (fun j hj => (HO.out.lt j hj).1)
                      have ho3 : w6.ownsRow wo.heap.size 3 1 (.slice (some ⟨g6, 0, none⟩) (k + 1 + 1) c6) (k + 1 + 1) (rowL (fI a b (m + 1)) (k + 1 + 1)) := by
                        rw [← HV.out _ HR.out]
                        exact hown'
                      clear hown' hgrow hat
                      go_wp2
                      go_roundw
                      case rel => exact ⟨k + 1, by omega, by go_num, ⟨g6, c6, rfl, ho3⟩, hb3⟩
                      case measure => simp [intOf]; omega
                · obtain rfl : k = b.size := by omega
                  have hks : decide ((b.size : Int) + 1 ≤ (b.size : Int)) = false := by simp; omega
                  have HB2 : Hid (Below w1.heap.size w1 wr) := below_trans HBE.out hbel
                  have HO : Hid (wr.ownsRow w1.heap.size 3 1 (.slice (some ⟨g2, 0, none⟩) (b.size + 1) cap2) (b.size + 1) (rowL (fI a b (m + 1)) (b.size + 1))) := ownsRow_mono hown hsz
                  clear hown hbel
                  go_wp2
                  go_roundw
                  case rel => exact ⟨m + 1, by omega, by go_num, ⟨g2, cap2, rfl, HO.out⟩, HB2.out⟩
                  case measure => simp [intOf]; omega
            · obtain rfl : m = a.size := by omega
              have hms : decide ((a.size : Int) + 1 ≤ (a.size : Int)) = false := by simp; omega
              have c1 := hown.cellAt b.size (by omega)
              rw [rowL_at _ _ _ (by omega)] at c1
              have hk1 : (b.size : Int) < (b.size : Int) + 1 := by omega
              have HBE : Hid (Below w1.heap.size w1 wo) := hbel
              clear hown hbel
              obtain ⟨r, hr⟩ : ∃ r, r = fI a b a.size b.size := ⟨_, rfl⟩
              rw [← hr] at c1
              have HR : Hid (r = fI a b a.size b.size) := hr
              clear hr
              go_wp2
              go_ret
              exact ⟨ret_int (by rw [HF.out]; exact HR.out), HBE.out⟩
end Go.Proofs.Ytlpclfeppddlfaa
