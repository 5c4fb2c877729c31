/- The walk of the law FnSnip. -/
import Derived.Test.YtmgpfhknkekeiaaSnipLaw
import Derived.Test.YtmgpfhknkekeiaaDrawSnip
import Derived.Deep.RegionWith
import Derived.Deep.DeepCutAuto
namespace Go.Proofs.Ytmgpfhknkekeiaa
open Go.RowKit

set_option maxRecDepth 100000 in
set_option maxHeartbeats 2000000 in
theorem wFnSnip (a0 : Option Addr) (len0 cap0 : Nat) (w : World) (b0 : BytesIn w a0 len0 cap0) :
    Calls Try.prog 8 #[.slice a0 len0 cap0] w fun e w' => e = .returned (.bool true) ∧ Below w.heap.size w w' := by
  have m0 := b0.le
  have m1 := b0.max
  unfold maxLen at m1
  by_cases hbig0 : 1048576 < (len0 : Int)
  · clear b0
    go_enter Try.func8, Try.ntmps8
    go_wp2
    go_ret
    exact ⟨rfl, Below.refl _ _⟩
  go_enter Try.func8, Try.ntmps8
  go_wp2_with fail
  refine (drawSnip_any _ _ _ _ b0).mono ?_
  rintro e u1 ⟨s, p, c, ts, many, rfl, hs, hts, hmm1, hmm2, r1, hb1⟩
  clear b0
  go_wp2_with fail
  refine (snipI_any p c s ts many _ (by omega) (by omega) r1).mono ?_
  rintro e u2 ⟨rfl, hb2⟩
  have r2 := r1.below hb2
  clear r1
  go_wp2_with fail
  refine (snipS_any p c s ts many _ (by omega) (by omega) r2).mono ?_
  rintro e u3 ⟨rfl, hb3⟩
  have r3 := r2.below hb3
  have hb13 := below_trans hb1 (below_trans hb2 hb3)
  clear r2 hb1 hb2 hb3
  have hN := wordsOn_len s s.size 0 (by omega)
  by_cases hyes : textB s = true ∧ 1 ≤ many ∧ 0 < (wordsOn s 0).length
  · obtain ⟨hy1, hy3, hy2⟩ := hyes
    obtain ⟨n, hn⟩ : ∃ n, n = (wordsOn s 0).length := ⟨_, rfl⟩
    obtain ⟨m, hm⟩ : ∃ m, m = min many.toNat n := ⟨_, rfl⟩
    have hm01 : 1 ≤ m := by omega
    have hm02 : m ≤ n := by omega
    have hX : snipB s ts many = partA s m (bestAt s ts m) := by rw [snipB_yes hy1 hy3 hy2, ← hn, ← hm, snipA_part]
    have hbl : bestAt s ts m < n - m + 1 := by unfold bestAt; rw [← hn]; exact bm_lt _ _ (by omega)
    obtain ⟨b, hb⟩ : ∃ b, b = bestAt s ts m := ⟨_, rfl⟩
    have HMAX : Hid (∀ i, i + m ≤ n → cAt s ts m i ≤ cAt s ts m b) := fun i hi => by
      have h := bm_max (cAt s ts m) (n - m + 1)
      have h1 := h.1 i (by omega)
      have h2 := h.2 (by omega)
      have e : (bm (cAt s ts m) (n - m + 1)).1 = b := by rw [hb]; unfold bestAt; rw [← hn]
      rw [e] at h2
      omega
    have HMI : Hid (((n : Int) < many → n = m) ∧ (¬ (n : Int) < many → many = (m : Int))) := ⟨fun _ => by omega, fun _ => by omega⟩
    have HTB : Hid (∀ i, i + m ≤ n → (termsL (partA s m i)).length = m ∧ cntF (lookB ts (termsL (partA s m i))) (termsL (partA s m i)).length = cAt s ts m i) := fun i hi => ⟨partA_terms s m i hm01 (by omega), partA_look s ts m i hm01 (by omega)⟩
    have HWL : Hid ((wordsOn (partA s m b) 0).length = m) := by
      unfold Hid
      rw [← termsL_len]
      exact partA_terms s m b hm01 (by omega)
    have HNE : Hid ((partA s m b).toList.isEmpty = false) := partA_some s m b hm01 (by omega)
    rw [hX, ← hb]
    rw [← hb] at hbl
    have hbn : b + m ≤ n := by omega
    have hx0 : (partA s m b).toList.isEmpty = false := HNE.out
    have hxz := partA_size s m b
    have HXX : Hid (∀ i, i = b → partA s m i = partA s m b) := fun i h => by rw [h]
    have HPZ : Hid (∀ i, (partA s m i).size ≤ s.size) := fun i => partA_size s m i
    obtain ⟨x, hx⟩ : ∃ x, x = partA s m b := ⟨_, rfl⟩
    rw [← hx] at hx0 hxz HXX HWL
    rw [← hx]
    have HX : Hid (x = partA s m b) := hx
    clear hx hX hb HNE hm
    have h60 : n ≤ 200 := by omega
    go_wp2_with fail
    refine (wordsI_any s _ (by omega)).mono ?_
    rintro e u4 ⟨v, rfl, hown, _, hb4⟩
    have r4 := r3.below hb4
    obtain ⟨g, c2, rfl, hc2, hg, hW⟩ := owns_words hown (by omega)
    have HW : Hid (WCells u4 g s (wordsOn s 0)) := hW
    have hb14 := below_trans hb13 hb4
    rw [← hn] at hc2
    rw [← hn]
    have HNL : Hid (n = (wordsOn s 0).length) := hn
    clear hown hW hb4 hb13 r3 hn
    go_upto_if 46 with fail
    go_cut [5] (fun x wx => x = .int .i64 m ∧ wx = u4)
    case first =>
      by_cases hgt : (n : Int) < many
      · have he := HMI.out.1 hgt
        subst he
        go_wp2
        go_meet
        case rel => exact ⟨rfl, rfl⟩
      · have he := HMI.out.2 (by omega)
        subst he
        have hgd : decide ((n : Int) < (m : Int)) = false := by simpa using hgt
        go_wp2
        go_meet
        case rel => exact ⟨rfl, rfl⟩
    case rest =>
      obtain ⟨rfl, rfl⟩ := hcut
      clear HMI
      have T1 : Hid (Calls Try.prog 21 #[.string x] wc fun e w' => ∃ p c, e = .returned (.slice p (termsL x).length c) ∧ StrRow w' p (termsL x) ∧ Below wc.heap.size wc w') := terms2_any x _ rfl wc (by omega)
      have HTL : Hid ((termsL x).length = m ∧ cntF (lookB ts (termsL x)) (termsL x).length = cAt s ts m b) := by unfold Hid; rw [HX.out]; exact HTB.out b hbn
      go_wp2_with fail
      refine T1.out.mono ?_
      rintro e u5 ⟨p5, c5, rfl, r5, hb5⟩
      have r5t := r4.below hb5
      go_wp2_with fail
      refine (sdLooked_any p5 p c5 c (termsL x) ts _ (by have := HTL.out.1; omega) (by omega) r5 r5t).mono ?_
      rintro e u5 ⟨rfl, rfl⟩
      rw [HTL.out.2]
      have hb15 := below_trans hb14 hb5
      have R5 : Hid (StrRow u5 p ts) := r5t
      have HW5 : Hid (WCells u5 g s (wordsOn s 0)) := HW.out.below hg hb5
      have hg5 : g < u5.heap.size := by have := hb5.size; omega
      clear r5 r5t r4 T1 HTL hb5 hb14 HW
      have hcb : cAt s ts m b ≤ m := cntF_le _ _
      generalize hcc : cAt s ts m b = cb at *
      go_wp2
      go_loopw [9, 10] (fun o i wr => ∃ (k : Nat) (ob : Bool), k + m ≤ n + 1 ∧ i = .int .i64 k ∧ o = .bool ob ∧ (b < k → ob = true) ∧ Below u5.heap.size u5 wr) (fun _ i _ => n + 1 - (intOf i).toNat)
      case atStart => exact ⟨0, false, by omega, rfl, rfl, fun h => by omega, Below.refl _ _⟩
      case round =>
        obtain ⟨k, ob, hk, rfl, rfl, hob, hbel⟩ := hrel
        have HOB : Hid (b < k → ob = true) := hob
        clear hob
        have hsz := hbel.size
        by_cases hlt : k + m ≤ n
        · have hks : (k : Int) + (m : Int) ≤ (n : Int) := by omega
          obtain ⟨e, he⟩ : ∃ e, e = k + m - 1 := ⟨_, rfl⟩
          have he1 : (k : Int) + (m : Int) - 1 = (e : Int) := by omega
          have he2 : e < n := by omega
          have hW1 : IntKind.i64.wrap ((k : Int) + (m : Int)) = (k : Int) + (m : Int) := by simp [IntKind.wrap, IntKind.bits, IntKind.signed]; omega
          have hW2 : IntKind.i64.wrap (e : Int) = (e : Int) := by simp [IntKind.wrap, IntKind.bits, IntKind.signed]; omega
          have hW3 : IntKind.i64.wrap ((k : Int) + (m : Int) - 1) = (e : Int) := by rw [he1]; exact hW2
          have hwl := wat_le s k e (by omega) (by rw [← HNL.out]; omega)
          have hwb := (wat_bd s e (by rw [← HNL.out]; omega)).2
          obtain ⟨_, q1, _⟩ := HW5.out.below hg5 hbel k (by rw [← HNL.out]; omega)
          obtain ⟨_, _, q2⟩ := HW5.out.below hg5 hbel e (by rw [← HNL.out]; omega)
          have i1 : (k : Int) < (n : Int) := by omega
          have i2 : (e : Int) < (n : Int) := by omega
          have HPE : Hid (partA s m k = s.extract (wat (wordsOn s 0) k).1 (wat (wordsOn s 0) e).2) := by unfold Hid partA; rw [he]
          have hpz := HPZ.out k
          have HTK : Hid ((termsL (partA s m k)).length = m ∧ cntF (lookB ts (termsL (partA s m k))) (termsL (partA s m k)).length = cAt s ts m k) := HTB.out k hlt
          have hck : cAt s ts m k ≤ cb := by have := HMAX.out k hlt; omega
          have HEQ : Hid (k = b → partA s m k = x) := fun h => by rw [HX.out, h]
          have R6 : Hid (StrRow wr p ts) := R5.out.below hbel
          rw [HPE.out] at HTK HEQ hpz
          generalize (wat (wordsOn s 0) k).1 = f at *
          generalize (wat (wordsOn s 0) e).2 = q at *
          generalize cAt s ts m k = ck at *
          clear he HPE
          have i3 : (f : Int) ≤ (q : Int) := by omega
          have i4 : (q : Int) ≤ (s.size : Int) := by omega
          have hgd : decide ((cb : Int) < (ck : Int)) = false := by simp; omega
          have HBW : Hid (Below u5.heap.size u5 wr) := hbel
          clear hbel
          go_wp2
          go_quiet (fail)
          obtain ⟨y, hy⟩ : ∃ y, y = s.extract f q := ⟨_, rfl⟩
          rw [← hy] at HTK HEQ hpz ⊢
          clear hy
          go_wp2_with fail
          refine (terms2_any y _ rfl _ (by omega)).mono ?_
          rintro e6 u6 ⟨p6, c6, rfl, r6, hb6d⟩
          have hb6 : Below wr.heap.size wr u6 := ⟨hb6d.os, hb6d.tape, hb6d.output, hb6d.size, hb6d.block⟩
          clear hb6d
          have r6t := R6.out.below hb6
          go_wp2_with fail
          refine (sdLooked_any p6 p c6 c (termsL y) ts _ (by have := HTK.out.1; omega) (by omega) r6 r6t).mono ?_
          rintro e7 u6 ⟨rfl, rfl⟩
          rw [HTK.out.2]
          have hb7 := HBW.out.trans (hb6.mono hsz)
          clear r6 r6t hb6
          cases ob with
          | true =>
            go_wp2
            go_roundw
            case rel => exact ⟨k + 1, true, by omega, by go_num, rfl, fun _ => rfl, hb7⟩
            case measure => simp [intOf]; omega
          | false =>
            have HKB : Hid (b < k + 1 → (y.toList == x.toList) = true) := fun h => by
              have hkb : k = b := by
                by_cases e : b < k
                · have := HOB.out e; cases this
                · omega
              rw [HEQ.out hkb]
              simp
            generalize hyx : (y.toList == x.toList) = yx at *
            go_wp2
            go_roundw
            case rel => exact ⟨k + 1, yx, by omega, by go_num, rfl, HKB.out, hb7⟩
            case measure => simp [intOf]; omega
        · have hks : decide ((k : Int) + (m : Int) ≤ (n : Int)) = false := by simp; omega
          have hobt : ob = true := HOB.out (by omega)
          subst hobt
          go_wp2_with fail
          refine (wordsI_any x _ (by omega)).mono ?_
          rintro e u6 ⟨v, rfl, hown, _, hb6⟩
          obtain ⟨a', c', rfl⟩ := owns_nowords hown
          rw [HWL.out]
          have hb7 := below_trans hb15 (below_trans hbel hb6)
          clear hown
          go_wp2
          go_ret
          exact ⟨rfl, hb7⟩
  · have hX : snipB s ts many = ⟨#[]⟩ := by unfold snipB; rw [if_neg hyes]
    rw [hX]
    go_wp2_with fail
    refine (snipS_any p c s ts many _ (by omega) (by omega) r3).mono ?_
    rintro e u4 ⟨rfl, hb4⟩
    rw [hX]
    clear r3
    go_wp2
    go_ret
    exact ⟨rfl, below_trans hb13 hb4⟩
end Go.Proofs.Ytmgpfhknkekeiaa
