/- spec.Snip: the model's own part of a text. -/
import Derived.Test.YtmgpfhknkekeiaaSnip
import Derived.Deep.DeepCutAuto
namespace Go.Proofs.Ytmgpfhknkekeiaa
open Go.RowKit

set_option maxRecDepth 100000 in
set_option maxHeartbeats 2000000 in
theorem snipS_any (a : Option Addr) (cap : Nat) (s : ByteArray) (ts : List ByteArray) (many : Int) (w : World) (hs : s.size ≤ 1048576) (hl : ts.length ≤ 1048576) (hr : StrRow w a ts) :
    Calls Try.prog 25 #[.string s, .slice a ts.length cap, .int .i64 many] w fun e w' => e = .returned (.string (snipB s ts many)) ∧ Below w.heap.size w w' := by
  have hms : s.size ≤ maxLen := by unfold maxLen; omega
  have hN := wordsOn_len s s.size 0 (by omega)
  have HR : Hid (StrRow w a ts) := hr
  clear hr
  go_enter Try.func25, Try.ntmps25
  go_wp2_with fail
  refine (wordsS_any s _ hs).mono ?_
  rintro e w2 ⟨g, c2, rfl, hown, hb2⟩
  go_wp2_with fail
  refine (l2Text_any s _ hms).mono ?_
  rintro e w2 ⟨rfl, rfl⟩
  cases h1 : textB s with
  | false =>
    have HF : Hid (snipB s ts many = ⟨#[]⟩) := snipB_no1 h1
    clear hown
    go_wp2
    go_ret
    exact ⟨ret_string HF.out.symm, hb2⟩
  | true =>
    by_cases hm : many < 1
    · have HF : Hid (snipB s ts many = ⟨#[]⟩) := snipB_no2 hm
      clear hown
      go_wp2
      go_ret
      exact ⟨ret_string HF.out.symm, hb2⟩
    have hm1 : decide (many < 1) = false := by simp; omega
    have HY : Hid (1 ≤ many ∧ textB s = true) := ⟨by omega, h1⟩
    by_cases h0 : (wordsOn s 0).length = 0
    · have HF : Hid (snipB s ts many = ⟨#[]⟩) := snipB_no3 h0
      rw [h0]
      clear hown
      go_wp2
      go_ret
      exact ⟨ret_string HF.out.symm, hb2⟩
    · obtain ⟨g', c2', ev, hc2, hg, hW⟩ := owns_words hown (by omega)
      obtain ⟨rfl, rfl⟩ : g = g' ∧ c2 = c2' := by injection ev with e1 e2 e3; injection e1 with e1; injection e1 with e1; exact ⟨e1, e3⟩
      have HW : Hid (WCells w2 g s (wordsOn s 0)) := hW
      clear hown hW ev h1
      have HF : Hid (snipB s ts many = snipA s ts (min many.toNat (wordsOn s 0).length)) := snipB_yes HY.out.2 HY.out.1 (by omega)
      obtain ⟨n, hn⟩ : ∃ n, n = (wordsOn s 0).length := ⟨_, rfl⟩
      rw [← hn] at h0 hN hc2 HF
      rw [← hn]
      have HNL : Hid (n = (wordsOn s 0).length) := hn
      clear hn
      obtain ⟨m, hmm⟩ : ∃ m, m = min many.toNat n := ⟨_, rfl⟩
      rw [← hmm] at HF
      have hm0 : 1 ≤ m ∧ m ≤ n := by have := HY.out.1; omega
      obtain ⟨hm01, hm02⟩ := hm0
      have HMI : Hid (((n : Int) < many → n = m) ∧ (¬ (n : Int) < many → many = (m : Int))) := by
        have := HY.out.1
        exact ⟨fun _ => by omega, fun _ => by omega⟩
      clear hmm
      obtain ⟨r, hr⟩ : ∃ r, r = n - m + 1 := ⟨_, rfl⟩
      have hr1 : 1 ≤ r ∧ r + m = n + 1 := by omega
      obtain ⟨hr1, hr2⟩ := hr1
      have HRR : Hid (r = n - m + 1) := hr
      clear hr
      have hb02 : w.heap.size ≤ w2.heap.size := hb2.size
      have R2 : Hid (StrRow w2 a ts) := HR.out.below hb2
      have h00 : ((n : Int) == 0) = false := by simp; omega
      go_upto_if 30 with fail
      go_cut [2] (fun x wx => x = .int .i64 m ∧ wx = w2)
      case first =>
        by_cases hgt : (n : Int) < many
        · have he := HMI.out.1 hgt
          subst he
          go_wp2
          go_meet
          case rel => exact ⟨rfl, rfl⟩
        · have he := HMI.out.2 (by omega)
          subst he
          have hgd : decide ((n : Int) < (m : Int)) = false := by simpa using hgt
          go_wp2
          go_meet
          case rel => exact ⟨rfl, rfl⟩
      case rest =>
        obtain ⟨rfl, rfl⟩ := hcut
        clear HMI
        go_wp2
        go_loopw [8, 9, 10] (fun b x i wr => ∃ k : Nat, k ≤ r ∧ i = .int .i64 k ∧ b = .int .i64 (bm (cAt s ts m) k).1 ∧ x = .int .i64 (bm (cAt s ts m) k).2 ∧ Below wc.heap.size wc wr) (fun _ _ i _ => r - (intOf i).toNat)
        case atStart => exact ⟨0, Nat.zero_le _, rfl, rfl, rfl, Below.refl _ _⟩
        case round =>
          obtain ⟨k, hk, rfl, rfl, rfl, hbel⟩ := hrel
          have hsz := hbel.size
          rename World => wo
          by_cases hlt : k < r
          · have hks : (k : Int) + (m : Int) ≤ (n : Int) := by omega
            have HBY : Hid ((bm (cAt s ts m) k).2 < (cAt s ts m k : Int) → bm (cAt s ts m) (k + 1) = (k, (cAt s ts m k : Int))) := bm_yes _ k
            have HBN : Hid (¬ (bm (cAt s ts m) k).2 < (cAt s ts m k : Int) → bm (cAt s ts m) (k + 1) = bm (cAt s ts m) k) := bm_no _ k
            generalize bm (cAt s ts m) k = bk at *
            obtain ⟨b, x⟩ := bk
            simp only at HBY HBN
            go_wp2
            go_loopw [11, 12] (fun c i wr => ∃ j : Nat, j ≤ m ∧ i = .int .i64 ((k : Int) + (j : Int)) ∧ c = .int .i64 (cntF (fun q => sAt s ts (k + q)) j) ∧ Below wc.heap.size wc wr) (fun _ i _ => k + m - (intOf i).toNat)
            case atStart => exact ⟨0, Nat.zero_le _, by go_num, rfl, hbel⟩
            case round =>
              clear hbel hsz
              obtain ⟨j, hj, rfl, rfl, hbel⟩ := hrel
              have hsz := hbel.size
              by_cases hjl : j < m
              · have hji : (k : Int) + (j : Int) < (k : Int) + (m : Int) := by omega
                have hjn : (k : Int) + (j : Int) < (n : Int) := by omega
                have hj0 : (0 : Int) ≤ (k : Int) + (j : Int) := by omega
                have r3 : StrRow wr a ts := R2.out.below hbel
                obtain ⟨c0, _, _⟩ := HW.out.below hg hbel (k + j) (by rw [← HNL.out]; omega)
                have hle := cntF_le (fun q => sAt s ts (k + q)) j
                have HCY : Hid (sAt s ts (k + j) = true → cntF (fun q => sAt s ts (k + q)) (j + 1) = cntF (fun q => sAt s ts (k + q)) j + 1) := cntF_yes (fun q => sAt s ts (k + q)) j
                have HCN : Hid (sAt s ts (k + j) = false → cntF (fun q => sAt s ts (k + q)) (j + 1) = cntF (fun q => sAt s ts (k + q)) j) := cntF_no (fun q => sAt s ts (k + q)) j
                have HSA : Hid (sAt s ts (k + j) = soughtB ts (s.extract (wat (wordsOn s 0) (k + j)).1 (wat (wordsOn s 0) (k + j)).2)) := rfl
                have hxs : (s.extract (wat (wordsOn s 0) (k + j)).1 (wat (wordsOn s 0) (k + j)).2).size ≤ 1099511627776 := by simp; omega
                generalize cntF (fun q => sAt s ts (k + q)) j = cj at *
                generalize s.extract (wat (wordsOn s 0) (k + j)).1 (wat (wordsOn s 0) (k + j)).2 = t at *
                cases hb : soughtB ts t with
                | true =>
                  go_wp2_with fail
                  refine (looked_any a cap ts t _ (by omega) hxs r3).mono ?_
                  rintro e w3 ⟨rfl, hb3⟩
                  rw [hb]
                  have hb4 := hbel.trans (hb3.mono hsz)
                  clear r3 hb3 hbel
                  go_wp2
                  go_roundw
                  case rel => exact ⟨j + 1, by omega, by go_num, by rw [HCY.out (by rw [HSA.out, hb])]; go_num, hb4⟩
                  case measure => simp [intOf]; omega
                | false =>
                  go_wp2_with fail
                  refine (looked_any a cap ts t _ (by omega) hxs r3).mono ?_
                  rintro e w3 ⟨rfl, hb3⟩
                  rw [hb]
                  have hb4 := hbel.trans (hb3.mono hsz)
                  clear r3 hb3 hbel
                  go_wp2
                  go_roundw
                  case rel => exact ⟨j + 1, by omega, by go_num, by rw [HCN.out (by rw [HSA.out, hb])], hb4⟩
                  case measure => simp [intOf]; omega
              · have hjm : j = m := by omega
                subst hjm
                have HCC : Hid (cntF (fun q => sAt s ts (k + q)) j = cAt s ts j k) := rfl
                rw [HCC.out]
                generalize cAt s ts j k = c at *
                by_cases hgt : x < (c : Int)
                · have HB1 : Hid (bm (cAt s ts j) (k + 1) = (k, (c : Int))) := HBY.out hgt
                  go_wp2
                  go_roundw
                  case rel => exact ⟨k + 1, by omega, by go_num, by rw [HB1.out], by rw [HB1.out], hbel⟩
                  case measure => simp [intOf]; omega
                · have HB1 : Hid (bm (cAt s ts j) (k + 1) = (b, x)) := HBN.out (by omega)
                  have hgd : decide (x < (c : Int)) = false := by simpa using hgt
                  go_wp2
                  go_roundw
                  case rel => exact ⟨k + 1, by omega, by go_num, by rw [HB1.out], by rw [HB1.out], hbel⟩
                  case measure => simp [intOf]; omega
          · have hkr : k = r := by omega
            subst hkr
            have hkd : decide ((k : Int) + (m : Int) ≤ (n : Int)) = false := by simp; omega
            have hbl := bm_lt (cAt s ts m) k hr1
            have HBE : Hid (bestAt s ts m = (bm (cAt s ts m) k).1) := by unfold Hid bestAt; rw [← HNL.out, ← HRR.out]
            generalize hbk : bm (cAt s ts m) k = bk at *
            obtain ⟨b, x⟩ := bk
            clear hbk
            simp only at hbl HBE
            obtain ⟨e, he⟩ : ∃ e, e = b + m - 1 := ⟨_, rfl⟩
            have he1 : (b : Int) + (m : Int) - 1 = (e : Int) := by omega
            have he2 : e < n := by omega
            have hW1 : IntKind.i64.wrap ((b : Int) + (m : Int)) = (b : Int) + (m : Int) := by simp [IntKind.wrap, IntKind.bits, IntKind.signed]; omega
            have hW2 : IntKind.i64.wrap (e : Int) = (e : Int) := by simp [IntKind.wrap, IntKind.bits, IntKind.signed]; omega
            have hW3 : IntKind.i64.wrap ((b : Int) + (m : Int) - 1) = (e : Int) := by rw [he1]; exact hW2
            have HFE : Hid (snipB s ts many = s.extract (wat (wordsOn s 0) b).1 (wat (wordsOn s 0) e).2) := by unfold Hid; rw [HF.out]; unfold snipA; rw [HBE.out, he]
            have hwl := wat_le s b e (by omega) (by rw [← HNL.out]; omega)
            have hwb := (wat_bd s e (by rw [← HNL.out]; omega)).2
            obtain ⟨_, c1, _⟩ := HW.out.below hg hbel b (by rw [← HNL.out]; omega)
            obtain ⟨_, _, c2'⟩ := HW.out.below hg hbel e (by rw [← HNL.out]; omega)
            have HBB : Hid (Below w.heap.size w wo) := hb2.trans (hbel.mono hb02)
            have i1 : (b : Int) < (n : Int) := by omega
            have i2 : (e : Int) < (n : Int) := by omega
            clear he hbel
            generalize (wat (wordsOn s 0) b).1 = f at *
            generalize (wat (wordsOn s 0) e).2 = q at *
            have i3 : (f : Int) ≤ (q : Int) := by omega
            have i4 : (q : Int) ≤ (s.size : Int) := by omega
            go_wp2
            go_quiet (fail)
            go_wp2
            go_ret
            exact ⟨ret_string HFE.out.symm, below_drewN HBB.out _⟩
end Go.Proofs.Ytmgpfhknkekeiaa
