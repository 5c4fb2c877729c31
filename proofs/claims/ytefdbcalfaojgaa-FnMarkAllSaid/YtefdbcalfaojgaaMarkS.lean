/- spec.Mark: the model's own marks. -/
import Derived.Test.YtefdbcalfaojgaaMarkT
namespace Go.Proofs.Ytefdbcalfaojgaa
open Go.RowKit

set_option maxRecDepth 100000 in
set_option maxHeartbeats 2000000 in
theorem markS_any (a : Option Addr) (cap : Nat) (s : ByteArray) (ts : List ByteArray) (w : World) (hs : s.size ≤ 1048576) (hl : ts.length ≤ 1048576) (hr : StrRow w a ts) :
    Calls Try.prog 8 #[.string s, .slice a ts.length cap] w fun e w' => e = .returned (.string (markB s ts)) ∧ Below w.heap.size w w' := by
  have hms : s.size ≤ maxLen := by unfold maxLen; omega
  have hN := wordsOn_len s s.size 0 (by omega)
  have HR : Hid (StrRow w a ts) := hr
  clear hr
  cases h1 : textB s with
  | false =>
    have HF : Hid (markB s ts = ⟨#[]⟩) := by unfold Hid markB; rw [h1]; rfl
    go_enter Try.func8, Try.ntmps8
    go_wp2_with fail
    refine (l2Text_any s _ hms).mono ?_
    rintro e w1 ⟨rfl, rfl⟩
    rw [h1]
    go_wp2
    go_ret
    exact ⟨ret_string HF.out.symm, Below.refl _ _⟩
  | true =>
    have HF : Hid (markB s ts = markA s ts) := by unfold Hid markB; rw [h1]; rfl
    have h60 : s.size ≤ 60 := by simp [textB] at h1; omega
    go_enter Try.func8, Try.ntmps8
    go_wp2_with fail
    refine (l2Text_any s _ hms).mono ?_
    rintro e w1 ⟨rfl, rfl⟩
    rw [h1]
    go_wp2_with fail
    refine (wordsS_any s _ hs).mono ?_
    rintro e w2 ⟨g, c2, rfl, hown, hb2⟩
    obtain ⟨n, hn⟩ : ∃ n, n = (wordsOn s 0).length := ⟨_, rfl⟩
    have hgl : g < w2.heap.size := by have := (hown.lt g rfl).2; omega
    have HW : Hid (WCells w2 g s (wordsOn s 0)) := fun i hi => by
      have := wordCells_at s (wordsOn s 0) i hi
      rw [hown.cellAt (i * 3) (by omega), hown.cellAt (i * 3 + 1) (by omega), hown.cellAt (i * 3 + 2) (by omega), wat_get _ _ hi]
      exact this
    rw [← hn] at hN
    rw [← hn]
    have HNL : Hid (n = (wordsOn s 0).length) := hn
    have R2 : Hid (StrRow w2 a ts) := HR.out.below hb2
    have hb02 := hb2.size
    clear hown hn h1
    go_wp2
    go_loopw [5, 6, 8] (fun o d i wr => ∃ k : Nat, k ≤ n ∧ i = .int .i64 k ∧ o = .string (mk s ts k).1 ∧ d = .int .i64 ((mk s ts k).2 : Nat) ∧ Below w2.heap.size w2 wr) (fun _ _ i _ => n - (intOf i).toNat)
    case atStart => exact ⟨0, Nat.zero_le _, rfl, rfl, rfl, Below.refl _ _⟩
    case round =>
      obtain ⟨k, hk, rfl, rfl, rfl, hbel⟩ := hrel
      have hsz := hbel.size
      have hat := mk_at s ts k (by rw [← HNL.out]; exact hk)
      have hmz := mk_size s ts k
      have hz2 : (2 * s.size + 2) * k ≤ 130 * 100 := Nat.mul_le_mul (by omega) (by omega)
      have hoz := Nat.le_trans hmz hz2
      have hat1 := hat.1
      by_cases hlt : k < n
      · have hks : (k : Int) < (n : Int) := by omega
        have hat2 := hat.2 (by rw [← HNL.out]; exact hlt)
        have hwb := wat_bd s k (by rw [← HNL.out]; exact hlt)
        obtain ⟨q0, q1, q2⟩ := HW.out.below hgl hbel k (by rw [← HNL.out]; exact hlt)
        have r3 : StrRow wr a ts := R2.out.below hbel
        have HMY : Hid (sAt s ts k = true → mk s ts (k + 1) = ((mk s ts k).1 ++ (s.extract (mk s ts k).2 (wat (wordsOn s 0) k).1 ++ openS ++ s.extract (wat (wordsOn s 0) k).1 (wat (wordsOn s 0) k).2 ++ shutS), (wat (wordsOn s 0) k).2)) := mk_yes s ts k
        have HMN : Hid (sAt s ts k = false → mk s ts (k + 1) = mk s ts k) := mk_no s ts k
        have HSA : Hid (sAt s ts k = soughtB ts (s.extract (wat (wordsOn s 0) k).1 (wat (wordsOn s 0) k).2)) := rfl
        clear hat hmz hz2
        generalize mk s ts k = m at *
        generalize wat (wordsOn s 0) k = x at *
        obtain ⟨o, d⟩ := m
        obtain ⟨xf, xt⟩ := x
        simp only at hat2 hwb q0 q1 q2 hoz hat1 HMY HMN HSA
        have i1 : (d : Int) ≤ (xf : Int) := by omega
        have i2 : (xf : Int) ≤ (s.size : Int) := by omega
        have hxs : (s.extract xf xt).size ≤ 1099511627776 := by rw [ByteArray.size_extract]; omega
        have k1 : (s.extract d xf).size ≤ 100 := by rw [ByteArray.size_extract]; omega
        have k2 : (s.extract xf xt).size ≤ 100 := by rw [ByteArray.size_extract]; omega
        have hkm : 0 ≤ (k : Int) := by omega
        cases hb : soughtB ts (s.extract xf xt) with
        | true =>
          have HE : Hid (mk s ts (k + 1) = (o ++ (s.extract d xf ++ openS ++ s.extract xf xt ++ shutS), xt)) := HMY.out (by rw [HSA.out, hb])
          go_wp2_with fail
          refine (looked_any a cap ts (s.extract xf xt) _ (by omega) hxs r3).mono ?_
          rintro e w3 ⟨rfl, hb3⟩
          rw [hb]
          have hb4 := hbel.trans (hb3.mono hsz)
          have p0 := (hb3.cell (p := ⟨g, k * 3, none⟩) (by show g < _; omega)).trans q0
          have p1 := (hb3.cell (p := ⟨g, k * 3 + 1, none⟩) (by show g < _; omega)).trans q1
          have p2 := (hb3.cell (p := ⟨g, k * 3 + 2, none⟩) (by show g < _; omega)).trans q2
          clear r3 hb3 q0 q1 q2
          go_wp2
          go_quiet (fail)
          go_wp2
          go_roundw
          case rel => exact ⟨k + 1, by omega, by go_num, by rw [HE.out]; simp only [ByteArray.append_assoc], by rw [HE.out], below_drewN hb4 _⟩
          case measure => simp [intOf]; omega
        | false =>
          have HE : Hid (mk s ts (k + 1) = (o, d)) := HMN.out (by rw [HSA.out, hb])
          go_wp2_with fail
          refine (looked_any a cap ts (s.extract xf xt) _ (by omega) hxs r3).mono ?_
          rintro e w3 ⟨rfl, hb3⟩
          rw [hb]
          have hb4 := hbel.trans (hb3.mono hsz)
          clear r3 hb3 q0 q1 q2
          go_wp2
          go_roundw
          case rel => exact ⟨k + 1, by omega, by go_num, by rw [HE.out], by rw [HE.out], hb4⟩
          case measure => simp [intOf]; omega
      · have hkn : k = n := by omega
        subst hkn
        have HFE : Hid (markB s ts = (mk s ts k).1 ++ s.extract (mk s ts k).2 s.size) := by unfold Hid; rw [HF.out]; unfold markA; rw [← HNL.out]
        have hb4 := hb2.trans (hbel.mono hb02)
        clear hat hmz hz2
        generalize mk s ts k = m at *
        obtain ⟨o, d⟩ := m
        simp only at hat1 hoz HFE
        have i1 : (d : Int) ≤ (s.size : Int) := by omega
        have k1 : (s.extract d s.size).size ≤ 100 := by rw [ByteArray.size_extract]; omega
        go_wp2
        go_ret
        exact ⟨ret_string HFE.out.symm, hb4⟩
end Go.Proofs.Ytefdbcalfaojgaa
