/- The walk of the law FnTerms. -/
import Derived.Test.YtbkehpoigaeboaaFoldWords
import Derived.Test.YtbkehpoigaeboaaStrSd
import Derived.Deep.RegionWith
namespace Go.Proofs.Ytbkehpoigaeboaa
open Go.RowKit

set_option maxHeartbeats 1000000 in
theorem wFnTerms (a0 : Option Addr) (len0 cap0 : Nat) (w : World) (b0 : BytesIn w a0 len0 cap0) :
    Calls Try.prog 7 #[.slice a0 len0 cap0] w fun e w' => e = .returned (.bool true) ∧ Below w.heap.size w w' := by
  have m0 := b0.le
  have m1 := b0.max
  unfold maxLen at m1
  by_cases hbig0 : 1048576 < (len0 : Int)
  · go_enter Try.func7, Try.ntmps7
    go_wp2
    go_ret
    exact ⟨rfl, Below.refl _ _⟩
  go_enter Try.func7, Try.ntmps7
  go_wp2_with fail
  refine (drawTerms_any _ _ _ _ b0).mono ?_
  rintro e u1 ⟨s, rfl, hs, hb1⟩
  clear b0
  have hN := termsL_le s
  have hNw := wordsOn_len s s.size 0 (by omega)
  have hlen : (wordsOn s 0).length = (termsL s).length := (termsL_len s).symm
  have HLen : Hid ((wordsOn s 0).length = (termsL s).length) := hlen
  clear hlen
  go_wp2_with fail
  refine (termsI2_any s _ (by omega)).mono ?_
  rintro e u2 ⟨v1, rfl, ho1, hb2⟩
  obtain ⟨p1, c1, rfl, hr1⟩ := owns_strRow ho1
  clear ho1
  go_wp2_with fail
  refine (termsS_any s _ (by omega)).mono ?_
  rintro e u3 ⟨v0, rfl, ho0, hb3⟩
  obtain ⟨p0, c0, rfl, hr0⟩ := owns_strRow ho0
  clear ho0
  go_wp2_with fail
  refine (sdTexts_same p1 p0 c1 c0 (termsL s) _ (by omega) (hr1.below hb3) hr0).mono ?_
  rintro e u4 ⟨rfl, hb4⟩
  have r14 := hr1.below (below_trans hb3 hb4)
  clear hr1 hr0
  go_wp2_with fail
  refine (wordsI_any s _ (by omega)).mono ?_
  rintro e u5 ⟨vw, rfl, how, _, hb5⟩
  obtain ⟨pw, cw, rfl, hrw⟩ := owns_wordRow how
  have r15 := r14.below hb5
  clear how r14
  have hbw5 : Below w.heap.size w u5 := below_trans hb1 (below_trans hb2 (below_trans hb3 (below_trans hb4 hb5)))
  clear hb1 hb2 hb3 hb4 hb5
  go_wp2
  go_loopw [6] (fun i wr => ∃ k : Nat, k ≤ (wordsOn s 0).length ∧ i = .int .i64 k ∧ Below u5.heap.size u5 wr) (fun i _ => (wordsOn s 0).length - (intOf i).toNat)
  case atStart => exact ⟨0, Nat.zero_le _, rfl, Below.refl _ _⟩
  case round =>
    obtain ⟨k, hk, rfl, hbel⟩ := hrel
    by_cases hlt : k < (wordsOn s 0).length
    · have hlt2 : k < (termsL s).length := by rw [← HLen.out]; exact hlt
      obtain ⟨gw, rfl, hgw, hcw⟩ := hrw (by omega)
      obtain ⟨gt, rfl, hgt, hct⟩ := r15 (by omega)
      have k1 : wr.cell? ⟨gw, k * 3, none⟩ = some (.string (s.extract (wordsOn s 0)[k].1 (wordsOn s 0)[k].2)) := by rw [hbel.cell (p := ⟨gw, k * 3, none⟩) hgw]; exact (hcw k hlt).1
      have k2 : wr.cell? ⟨gt, k, none⟩ = some (.string (stemA (s.extract (wordsOn s 0)[k].1 (wordsOn s 0)[k].2))) := by
        rw [hbel.cell (p := ⟨gt, k, none⟩) hgt, hct k hlt2, List.getD_eq_getElem?_getD, List.getElem?_eq_getElem hlt2]
        simp [termsL]
      have hxs : (s.extract (wordsOn s 0)[k].1 (wordsOn s 0)[k].2).size ≤ maxLen := by simp; unfold maxLen; omega
      have hsz := hbel.size
      have hgt2 : gt < wr.heap.size := by omega
      have hgw2 : gw < wr.heap.size := by omega
      clear hcw hct hrw r15
      generalize s.extract (wordsOn s 0)[k].1 (wordsOn s 0)[k].2 = t at *
      go_wp2
      go_region_with (go_at_call 25; refine (stemI_any t _ hxs).mono ?_; rintro e w2 ⟨rfl, hb2d⟩; have hb2 : Below wr.heap.size wr w2 := ⟨hb2d.os, hb2d.tape, hb2d.output, hb2d.size, hb2d.block⟩; clear hb2d; have k3 : w2.cell? ⟨gt, k, none⟩ = some (.string (stemA t)) := (hb2.cell (p := ⟨gt, k, none⟩) hgt2).trans k2)
      all_goals
        go_wp2
        go_roundw
        case rel => exact ⟨k + 1, by omega, by go_num, below_trans hbel hb2⟩
        case measure => simp [intOf]; omega
    · have hkl : k = (wordsOn s 0).length := by omega
      subst hkl
      have HF : Hid (termsL (foldA s) = termsL s) := fold_termsL s
      have hfs := fold_size s
      go_wp2_with fail
      refine (foldI_any s _ (by unfold maxLen; omega)).mono ?_
      rintro e u6 ⟨rfl, hb6⟩
      go_wp2_with fail
      refine (termsI2_any (foldA s) _ (by omega)).mono ?_
      rintro e u7 ⟨v7, rfl, ho7, hb7⟩
      rw [HF.out] at ho7
      obtain ⟨p7, c7, rfl, hr7⟩ := owns_strRow ho7
      have r17 := r15.below (below_trans hbel (below_trans hb6 hb7))
      clear ho7 r15 hrw
      go_wp2_with fail
      refine (sdTexts_same p7 p1 c7 c1 (termsL s) _ (by omega) hr7 r17).mono ?_
      rintro e u8 ⟨rfl, hb8⟩
      have hb58 := below_trans hbw5 (below_trans hbel (below_trans hb6 (below_trans hb7 hb8)))
      have hle : (((wordsOn s 0).length : Int) == ((termsL s).length : Int)) = true := by rw [HLen.out]; simp
      clear r17 hr7
      go_wp2
      go_ret
      exact ⟨rfl, hb58⟩
end Go.Proofs.Ytbkehpoigaeboaa
