/- impl.farBetween and impl.Far: how far two texts are. -/
import Derived.Test.YtlpclfeppddlfaaFarPlain
import Derived.Test.YtlpclfeppddlfaaTextOk
import Derived.Test.YtlpclfeppddlfaaToInts
import Derived.Test.YtlpclfeppddlfaaIntRows
namespace Go.Proofs.Ytlpclfeppddlfaa
open Go.RowKit

def rowL (f : Nat → Int) (n : Nat) : List Value := (List.range n).map fun k => .int .i64 (f k)
theorem rowL_len (f : Nat → Int) (n : Nat) : (rowL f n).length = n := by simp [rowL]
theorem rowL_at (f : Nat → Int) (n k : Nat) (h : k < n) : (rowL f n)[k]? = some (.int .i64 (f k)) := by simp [rowL, h]
theorem rowL_congr (f g : Nat → Int) (n : Nat) (h : ∀ k, k < n → f k = g k) : rowL f n = rowL g n := by
  apply List.ext_getElem?
  intro j
  by_cases hj : j < n
  · rw [rowL_at _ _ _ hj, rowL_at _ _ _ hj, h j hj]
  · rw [List.getElem?_eq_none (by rw [rowL_len]; omega), List.getElem?_eq_none (by rw [rowL_len]; omega)]
theorem rowL_set (f g : Nat → Int) (n k : Nat) (v : Int) (h : k < n) (hv : g k = v) (ho : ∀ j, j < n → j ≠ k → g j = f j) : (rowL f n).set k (.int .i64 v) = rowL g n := by
  apply List.ext_getElem?
  intro j
  by_cases hj : j < n
  · by_cases e : j = k
    · subst e
      rw [List.getElem?_set_self (by rw [rowL_len]; exact hj), rowL_at _ _ _ hj, hv]
    · rw [List.getElem?_set_ne (fun h => e h.symm), rowL_at _ _ _ hj, rowL_at _ _ _ hj, ho j hj e]
  · rw [List.getElem?_eq_none (by rw [List.length_set, rowL_len]; omega), List.getElem?_eq_none (by rw [rowL_len]; omega)]
theorem rowL_snoc (f : Nat → Int) (n : Nat) : rowL f (n + 1) = rowL f n ++ [.int .i64 (f n)] := by simp [rowL, List.range_succ]

def f0 (j k : Nat) : Int := if k < j then (k : Int) else 0
def fI (a b : ByteArray) (i k : Nat) : Int := (far a b i k : Nat)
def fM (a b : ByteArray) (i j k : Nat) : Int := if k ≤ j then fI a b (i + 1) k else fI a b i k
theorem fI_bd (a b : ByteArray) (i k : Nat) : 0 ≤ fI a b i k ∧ fI a b i k ≤ (i : Int) + (k : Int) := by
  have := far_le a b i k
  unfold fI
  omega
theorem fI_zero (a b : ByteArray) (k : Nat) : fI a b 0 k = k := by simp [fI, far_zero]
theorem fI_left (a b : ByteArray) (i : Nat) : fI a b i 0 = i := by simp [fI, far_left]
theorem fM_le (a b : ByteArray) (i j k : Nat) (h : k ≤ j) : fM a b i j k = fI a b (i + 1) k := by unfold fM; rw [if_pos h]
theorem fM_gt (a b : ByteArray) (i j k : Nat) (h : j < k) : fM a b i j k = fI a b i k := by unfold fM; rw [if_neg (by omega)]
theorem fM_other (a b : ByteArray) (i j k : Nat) (h : k ≠ j + 1) : fM a b i (j + 1) k = fM a b i j k := by
  by_cases e : k ≤ j
  · rw [fM_le _ _ _ _ _ e, fM_le _ _ _ _ _ (by omega)]
  · rw [fM_gt _ _ _ _ _ (by omega), fM_gt _ _ _ _ _ (by omega)]
/-- The step, as it is reckoned. -/
theorem fI_same (a b : ByteArray) (i j : Nat) (h : byteAt a i = byteAt b j) : fI a b (i + 1) (j + 1) = min (fI a b i j) (min (fI a b (i + 1) j + 1) (fI a b i (j + 1) + 1)) := by
  have := far_step a b i j
  rw [show neqN (byteAt a i) (byteAt b j) = 0 from by simp [neqN, h]] at this
  unfold fI
  omega
theorem fI_turn (a b : ByteArray) (i j : Nat) (h : ¬ byteAt a i = byteAt b j) : fI a b (i + 1) (j + 1) = min (fI a b i j + 1) (min (fI a b (i + 1) j + 1) (fI a b i (j + 1) + 1)) := by
  have := far_step a b i j
  rw [show neqN (byteAt a i) (byteAt b j) = 1 from by simp [neqN, h]] at this
  unfold fI
  omega

def lv (t x y : Int) : Int := if y + 1 < if x + 1 < t then x + 1 else t then y + 1 else if x + 1 < t then x + 1 else t
theorem lv_min (t x y : Int) : lv t x y = min t (min (x + 1) (y + 1)) := by
  unfold lv
  by_cases h : x + 1 < t
  · simp only [h, if_true]; split <;> omega
  · simp only [h, if_false]; split <;> omega
def lw (t x y : Int) : Int := if y + 1 < if x < t then x + 1 else t + 1 then y + 1 else if x < t then x + 1 else t + 1
theorem lw_min (t x y : Int) : lw t x y = min (t + 1) (min (x + 1) (y + 1)) := by
  unfold lw
  by_cases h : x < t
  · simp only [h, if_true]; split <;> omega
  · simp only [h, if_false]; split <;> omega

set_option maxHeartbeats 2000000 in
theorem farBetween_any (a b : ByteArray) (w : World) (ha : a.size ≤ 1048576) (hb : b.size ≤ 1048576) :
    Calls Try.prog 17 #[.string a, .string b] w fun e w' => e = .returned (.int .i64 (fI a b a.size b.size)) ∧ Below w.heap.size w w' := by
  obtain ⟨i0, hi, hz0, hz1, hz2⟩ := info_parts infoInt
  go_enter Try.func17, Try.ntmps17
  go_wp2_with (refine wpList_make_full _ rfl _ _ 37 rfl w.heap.size 3 i0 (.int .i64 0) 1 Try.underlying37 hi hz0 hz1 .i64 .i64 _ _ (b.size + 1) rfl rfl rfl rfl (by rw [hz2]; omega) (by unfold maxLen; omega) (Nat.le_refl _) ?_; intro w1 hown1 hgrow1)
  have hlit : w1.ownsRow w.heap.size 3 1 (.slice (some ⟨w.heap.size, 0, none⟩) (b.size + 1) (b.size + 1)) (b.size + 1) (rowL (f0 0) (b.size + 1)) := by
    have e := toList_madeCells_one (.int .i64 0) (b.size + 1)
    rw [Nat.mul_one] at hown1
    have e2 : (Value.int .i64 0).cells = #[.int .i64 0] := rfl
    rw [e2, e] at hown1
    have e3 : rowL (f0 0) (b.size + 1) = List.replicate (b.size + 1) (.int .i64 0) := by
      unfold rowL f0
      simp only [Nat.not_lt_zero, if_false, List.map_const', List.length_range]
    rw [e3]
    exact hown1
  have hb1 : Below w.heap.size w w1 := (Below.refl _ w).grown hgrow1 (Nat.le_refl _) (fun j hj => by cases hj)
  clear hown1 hgrow1
  go_wp2
  go_loopw [17] (fun i wr => ∃ k : Nat, k ≤ b.size + 1 ∧ i = .int .i64 k ∧ wr.ownsRow w.heap.size 3 1 (.slice (some ⟨w.heap.size, 0, none⟩) (b.size + 1) (b.size + 1)) (b.size + 1) (rowL (f0 k) (b.size + 1)) ∧ Below w.heap.size w wr) (fun i _ => b.size + 1 - (intOf i).toNat)
  case atStart => exact ⟨0, Nat.zero_le _, rfl, hlit, hb1⟩
  case round =>
    obtain ⟨k, hk, rfl, hown, hbel⟩ := hrel
    clear hlit hb1
    by_cases hlt : k < b.size + 1
    · have hi1 : (k : Int) < (b.size : Int) + 1 := by omega
      have c1 := hown.cellAt k (by omega)
      rw [rowL_at _ _ _ hlt] at c1
      have f1 := hown.frozenAt k
      have hs := (hown.stored k (.int .i64 (k : Int))).1
      rw [rowL_set (f0 k) (f0 (k + 1)) _ k _ hlt (by simp [f0]) (fun j _ hj => by unfold f0; by_cases e : j < k <;> simp [e] <;> omega)] at hs
      have hb2 := hbel.setCell (p := ⟨w.heap.size, k, none⟩) (Nat.le_refl _) (.int .i64 (k : Int))
      generalize f0 k k = old at c1
      clear hown
      go_wp2
      go_roundw
      case rel => exact ⟨k + 1, by omega, by go_num, hs, hb2⟩
      case measure => simp [intOf]; omega
    · have hi1 : decide ((k : Int) < (b.size : Int) + 1) = false := by simp; omega
      have hr : wr.ownsRow w.heap.size 3 1 (.slice (some ⟨w.heap.size, 0, none⟩) (b.size + 1) (b.size + 1)) (b.size + 1) (rowL (fI a b 0) (b.size + 1)) := by
        rw [← rowL_congr (f0 k) (fI a b 0) _ (fun j hj => by rw [fI_zero]; unfold f0; rw [if_pos (by omega)])]
        exact hown
      clear hown
      go_wp2
      go_loopw [27] (fun i wr => ∃ m : Nat, m ≤ a.size ∧ i = .int .i64 m ∧ wr.ownsRow w.heap.size 3 1 (.slice (some ⟨w.heap.size, 0, none⟩) (b.size + 1) (b.size + 1)) (b.size + 1) (rowL (fI a b m) (b.size + 1)) ∧ Below w.heap.size w wr) (fun i _ => a.size - (intOf i).toNat)
      case atStart => exact ⟨0, Nat.zero_le _, rfl, hr, hbel⟩
      case round =>
        clear hr hbel
        obtain ⟨m, hm, rfl, hown, hbel⟩ := hrel
        by_cases hml : m < a.size
        · have hms : (m : Int) < (a.size : Int) := by omega
          have c1 := hown.cellAt 0 (by omega)
          rw [rowL_at _ _ _ (by omega), fI_left] at c1
          have f1 := hown.frozenAt 0
          have hs := (hown.stored 0 (.int .i64 ((m : Int) + 1))).1
          rw [rowL_set (fI a b m) (fM a b m 0) _ 0 _ (by omega) (by rw [fM_le _ _ _ _ _ (Nat.le_refl _), fI_left]; omega) (fun j _ hj => by rw [fM_gt _ _ _ _ _ (by omega)])] at hs
          have hb2 := hbel.setCell (p := ⟨w.heap.size, 0, none⟩) (Nat.le_refl _) (.int .i64 ((m : Int) + 1))
          clear hown
          go_wp2
          go_loopw [8, 39] (fun tv i wr => ∃ k : Nat, k ≤ b.size ∧ i = .int .i64 k ∧ tv = .int .i64 (fI a b m k) ∧ wr.ownsRow w.heap.size 3 1 (.slice (some ⟨w.heap.size, 0, none⟩) (b.size + 1) (b.size + 1)) (b.size + 1) (rowL (fM a b m k) (b.size + 1)) ∧ Below w.heap.size w wr) (fun _ i _ => b.size - (intOf i).toNat)
          case atStart => exact ⟨0, Nat.zero_le _, rfl, by rw [fI_left], hs, hb2⟩
          case round =>
            clear hs hb2 c1 f1 hbel
            obtain ⟨k, hk, rfl, rfl, hown, hbel⟩ := hrel
            by_cases hkl : k < b.size
            · have hks : (k : Int) < (b.size : Int) := by omega
              have c1 := hown.cellAt k (by omega)
              rw [rowL_at _ _ _ (by omega), fM_le _ _ _ _ _ (Nat.le_refl _)] at c1
              have c2 := hown.cellAt (k + 1) (by omega)
              rw [rowL_at _ _ _ (by omega), fM_gt _ _ _ _ _ (by omega)] at c2
              have f2 := hown.frozenAt (k + 1)
              have b1 := fI_bd a b (m + 1) k
              have b2 := fI_bd a b m (k + 1)
              have b3 := fI_bd a b m k
              have HO : Hid (wr.ownsRow w.heap.size 3 1 (.slice (some ⟨w.heap.size, 0, none⟩) (b.size + 1) (b.size + 1)) (b.size + 1) (rowL (fM a b m k) (b.size + 1))) := hown
              have HB : Hid (Below w.heap.size w wr) := hbel
              clear hown hbel
              have HS : Hid (byteAt a m = byteAt b k → fI a b (m + 1) (k + 1) = min (fI a b m k) (min (fI a b (m + 1) k + 1) (fI a b m (k + 1) + 1))) := fI_same a b m k
              have HT : Hid (¬ byteAt a m = byteAt b k → fI a b (m + 1) (k + 1) = min (fI a b m k + 1) (min (fI a b (m + 1) k + 1) (fI a b m (k + 1) + 1))) := fI_turn a b m k
              have HE : Hid (byteAt a m = ((a[m]'hml).toNat : Int) ∧ byteAt b k = ((b[k]'hkl).toNat : Int)) := ⟨byteAt_eq a m hml, byteAt_eq b k hkl⟩
              have HV : Hid (∀ v, fI a b (m + 1) (k + 1) = v → (rowL (fM a b m k) (b.size + 1)).set (k + 1) (.int .i64 v) = rowL (fM a b m (k + 1)) (b.size + 1)) := fun v hv => rowL_set _ _ _ _ _ (by omega) (by rw [fM_le _ _ _ _ _ (Nat.le_refl _), hv]) (fun j _ hj => fM_other _ _ _ _ _ hj)
              generalize fI a b (m + 1) (k + 1) = r at *
              generalize fI a b (m + 1) k = x at *
              obtain ⟨y, hy⟩ : ∃ y, y = fI a b m (k + 1) := ⟨_, rfl⟩
              rw [← hy] at c2 b2 HS HT
              have HY : Hid (y = fI a b m (k + 1)) := hy
              clear hy
              generalize fI a b m k = z at *
              by_cases he : ((a[m]'hml).toNat : Int) = ((b[k]'hkl).toNat : Int)
              · have hd : (((a[m]'hml).toNat : Int) != ((b[k]'hkl).toNat : Int)) = false := by simp [he]
                have HR : Hid (r = min z (min (x + 1) (y + 1))) := HS.out (by rw [HE.out.1, HE.out.2]; exact he)
                clear he
                go_wp2
                go_quiet (fail)
                go_wp2
                go_region
                go_wp2
                go_roundw
                case rel =>
                  refine ⟨k + 1, by omega, by go_num, by rw [HY.out], ?_, (below_drewN HB.out _).setCell (Nat.le_refl _) _⟩
                  rw [← HV.out (lv z x y) (by rw [HR.out, lv_min])]
                  exact ((ownsRow_drewN HO.out _).stored (k + 1) _).1
                case measure => simp [intOf]; omega
              · have hd : (((a[m]'hml).toNat : Int) != ((b[k]'hkl).toNat : Int)) = true := by simp [he]
                have HR : Hid (r = min (z + 1) (min (x + 1) (y + 1))) := HT.out (by rw [HE.out.1, HE.out.2]; exact he)
                clear he
                go_wp2
                go_quiet (fail)
                go_wp2
                go_region
                go_wp2
                go_roundw
                case rel =>
                  refine ⟨k + 1, by omega, by go_num, by rw [HY.out], ?_, (below_drewN HB.out _).setCell (Nat.le_refl _) _⟩
                  rw [← HV.out (lw z x y) (by rw [HR.out, lw_min])]
                  exact ((ownsRow_drewN HO.out _).stored (k + 1) _).1
                case measure => simp [intOf]; omega
            · have hkb : k = b.size := by omega
              subst hkb
              rw [rowL_congr (fM a b m b.size) (fI a b (m + 1)) _ (fun j hj => fM_le _ _ _ _ _ (by omega))] at hown
              go_wp2
              go_roundw
              case rel => exact ⟨m + 1, by omega, by go_num, hown, hbel⟩
              case measure => simp [intOf]; omega
        · have hma : m = a.size := by omega
          subst hma
          have c1 := hown.cellAt b.size (by omega)
          rw [rowL_at _ _ _ (by omega)] at c1
          obtain ⟨r, hr⟩ : ∃ r, r = fI a b a.size b.size := ⟨_, rfl⟩
          rw [← hr] at c1
          have HR : Hid (r = fI a b a.size b.size) := hr
          clear hown hr
          go_wp2
          go_ret
          exact ⟨ret_int HR.out, hbel⟩
/-- What is told of two texts. -/
def farB (a b : ByteArray) : Int := if textB a && textB b then fI a b a.size b.size else -1
theorem farI_any (a b : ByteArray) (w : World) (ha : a.size ≤ 1048576) (hb : b.size ≤ 1048576) :
    Calls Try.prog 8 #[.string a, .string b] w fun e w' => e = .returned (.int .i64 (farB a b)) ∧ Below w.heap.size w w' := by
  have hma : a.size ≤ maxLen := by unfold maxLen; omega
  have hmb : b.size ≤ maxLen := by unfold maxLen; omega
  cases h1 : textB a with
  | false =>
    have HF : Hid (farB a b = -1) := by unfold Hid farB; simp [h1]
    go_enter Try.func8, Try.ntmps8
    go_wp2_with fail
    refine (textOk_any a _ hma).mono ?_
    rintro e w1 ⟨rfl, rfl⟩
    rw [h1]
    go_wp2
    go_ret
    exact ⟨ret_int HF.out.symm, Below.refl _ _⟩
  | true =>
    cases h2 : textB b with
    | false =>
      have HF : Hid (farB a b = -1) := by unfold Hid farB; simp [h2]
      go_enter Try.func8, Try.ntmps8
      go_wp2_with fail
      refine (textOk_any a _ hma).mono ?_
      rintro e w1 ⟨rfl, rfl⟩
      rw [h1]
      go_wp2_with fail
      refine (textOk_any b _ hmb).mono ?_
      rintro e w1 ⟨rfl, rfl⟩
      rw [h2]
      go_wp2
      go_ret
      exact ⟨ret_int HF.out.symm, Below.refl _ _⟩
    | true =>
      have HF : Hid (farB a b = fI a b a.size b.size) := by unfold Hid farB; simp [h1, h2]
      go_enter Try.func8, Try.ntmps8
      go_wp2_with fail
      refine (textOk_any a _ hma).mono ?_
      rintro e w1 ⟨rfl, rfl⟩
      rw [h1]
      go_wp2_with fail
      refine (textOk_any b _ hmb).mono ?_
      rintro e w1 ⟨rfl, rfl⟩
      rw [h2]
      go_wp2_with fail
      refine (farBetween_any a b _ ha hb).mono ?_
      rintro e w2 ⟨rfl, hb2⟩
      go_wp2
      go_ret
      exact ⟨ret_int HF.out.symm, hb2⟩
end Go.Proofs.Ytlpclfeppddlfaa
