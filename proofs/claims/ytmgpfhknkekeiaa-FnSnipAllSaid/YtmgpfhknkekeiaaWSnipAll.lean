/- The walk of the law FnSnipAll. -/
import Derived.Test.YtmgpfhknkekeiaaSnipLaw
import Derived.Test.YtmgpfhknkekeiaaDrawSnip
import Derived.Deep.RegionWith
namespace Go.Proofs.Ytmgpfhknkekeiaa
open Go.RowKit

set_option maxRecDepth 100000 in
set_option maxHeartbeats 2000000 in
theorem wFnSnipAll (a0 : Option Addr) (len0 cap0 : Nat) (w : World) (b0 : BytesIn w a0 len0 cap0) :
    Calls Try.prog 9 #[.slice a0 len0 cap0] w fun e w' => e = .returned (.bool true) ∧ Below w.heap.size w w' := by
  have m0 := b0.le
  have m1 := b0.max
  unfold maxLen at m1
  by_cases hbig0 : 1048576 < (len0 : Int)
  · clear b0
    go_enter Try.func9, Try.ntmps9
    go_wp2
    go_ret
    exact ⟨rfl, Below.refl _ _⟩
  go_enter Try.func9, Try.ntmps9
  go_wp2_with fail
  refine (drawSnip_any _ _ _ _ b0).mono ?_
  rintro e u1 ⟨s, p, c, ts, many, rfl, hs, hts, _, _, r1, hb1⟩
  clear b0
  go_wp2_with fail
  refine (snipI_any p c s ts 60 _ (by omega) (by omega) r1).mono ?_
  rintro e u2 ⟨rfl, hb2⟩
  have r2 := r1.below hb2
  clear r1
  go_wp2_with fail
  refine (snipS_any p c s ts 60 _ (by omega) (by omega) r2).mono ?_
  rintro e u3 ⟨rfl, hb3⟩
  have r3 := r2.below hb3
  have hb13 := below_trans hb1 (below_trans hb2 hb3)
  clear r2 hb1 hb2 hb3
  have hN := wordsOn_len s s.size 0 (by omega)
  by_cases hyes : textB s = true ∧ 0 < (wordsOn s 0).length
  · obtain ⟨hy1, hy2⟩ := hyes
    have h60 : s.size ≤ 60 := by simp [textB] at hy1; omega
    obtain ⟨n, hn⟩ : ∃ n, n = (wordsOn s 0).length := ⟨_, rfl⟩
    have hX : snipB s ts 60 = partA s n 0 := by
      rw [snipB_yes hy1 (by omega) hy2, show min (60 : Int).toNat (wordsOn s 0).length = (wordsOn s 0).length from by show min 60 _ = _; omega, snipA_part, best_full s ts, hn]
    have HNE : Hid ((partA s n 0).toList.isEmpty = false) := partA_some s n 0 (by omega) (by omega)
    have HXE : Hid (partA s n 0 = s.extract (wat (wordsOn s 0) 0).1 (wat (wordsOn s 0) (n - 1)).2) := by unfold Hid partA; rw [Nat.zero_add]
    have HTX : Hid (termsL (partA s n 0) = termsL s) := by unfold Hid; rw [hn]; exact partA_full s hy2
    have hxz := partA_size s n 0
    rw [hX]
    have hTL := termsL_len s
    generalize partA s n 0 = x at *
    have hx0 : x.toList.isEmpty = false := HNE.out
    go_wp2_with fail
    refine (wordsI_any s _ (by omega)).mono ?_
    rintro e u4 ⟨v, rfl, hown, _, hb4⟩
    have r4 := r3.below hb4
    obtain ⟨g, c2, rfl, hc2, hg, hW⟩ := owns_words hown (by omega)
    obtain ⟨_, c1, _⟩ := hW 0 (by omega)
    obtain ⟨_, _, c3⟩ := hW (n - 1) (by omega)
    rw [Nat.zero_mul, Nat.zero_add] at c1
    have hwl := wat_le s 0 (n - 1) (by omega) (by omega)
    have hwb := (wat_bd s (n - 1) (by omega)).2
    have hb14 := below_trans hb13 hb4
    obtain ⟨L, hL⟩ : ∃ L, L = termsL s := ⟨_, rfl⟩
    have T1 : Hid (∀ w, Calls Try.prog 21 #[.string x] w fun e w' => ∃ p c, e = .returned (.slice p L.length c) ∧ StrRow w' p L ∧ Below w.heap.size w w') := fun w => terms2_any x L (by rw [HTX.out, hL]) w (by omega)
    have T2 : Hid (∀ w, Calls Try.prog 21 #[.string s] w fun e w' => ∃ p c, e = .returned (.slice p L.length c) ∧ StrRow w' p L ∧ Below w.heap.size w w') := fun w => terms2_any s L hL.symm w (by omega)
    have hLl : L.length ≤ 1048576 := by rw [hL, hTL]; omega
    rw [← hn] at hc2
    rw [← hn]
    obtain ⟨q, hq⟩ : ∃ q, n = q + 1 := ⟨n - 1, by omega⟩
    rw [show n - 1 = q from by omega] at c3 hwl hwb HXE
    have hqz : q ≤ 100 := by omega
    clear hown hW hL hb4 hb13 r3 hX hTL hn
    subst hq
    have HBL : Hid (Below w.heap.size w u4) := hb14
    clear hb14 r4
    generalize (wat (wordsOn s 0) 0).1 = f at *
    generalize (wat (wordsOn s 0) q).2 = t at *
    have hxe : (x.toList == (s.extract f t).toList) = true := by rw [← HXE.out]; simp
    have i0 : (f : Int) ≤ (t : Int) := by omega
    have i1 : (t : Int) ≤ (s.size : Int) := by omega
    have i2 : (q : Int) < (q : Int) + 1 := by omega
    have i3 : (0 : Int) < (q : Int) + 1 := by omega
    have hqw : IntKind.i64.wrap (q : Int) = (q : Int) := by simp [IntKind.wrap, IntKind.bits, IntKind.signed]; omega
    go_wp2
    go_region_with (first
      | (go_at_call 21; refine (T1.out _).mono ?_; rintro e u6 ⟨p6, c6, rfl, r6, hb6d⟩; have hb6 : Below u4.heap.size u4 u6 := ⟨hb6d.os, hb6d.tape, hb6d.output, hb6d.size, hb6d.block⟩; clear hb6d)
      | (go_at_call 21; refine (T2.out _).mono ?_; rintro e u7 ⟨p7, c7, rfl, r7, hb7⟩; have r6' := r6.below hb7; clear r6)
      | (go_at_call 22; refine (sdTexts_same p6 p7 c6 c7 L _ (by omega) r6' r7).mono ?_; rintro e u8 ⟨rfl, hb8⟩))
    all_goals
      have hb9 := below_trans HBL.out (below_trans hb6 (below_trans hb7 hb8))
      clear r6' r7
      go_wp2
      go_ret
      exact ⟨rfl, hb9⟩
  · have hX : snipB s ts 60 = ⟨#[]⟩ := by unfold snipB; rw [if_neg (fun h => hyes ⟨h.1, h.2.2⟩)]
    rw [hX]
    go_wp2_with fail
    refine (snipS_any p c s ts 60 _ (by omega) (by omega) r3).mono ?_
    rintro e u4 ⟨rfl, hb4⟩
    rw [hX]
    clear r3
    go_wp2
    go_ret
    exact ⟨rfl, below_trans hb13 hb4⟩
end Go.Proofs.Ytmgpfhknkekeiaa
