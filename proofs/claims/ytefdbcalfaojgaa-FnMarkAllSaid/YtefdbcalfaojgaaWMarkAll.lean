/- The walk of the law FnMarkAll. -/
import Derived.Test.YtefdbcalfaojgaaMarkAll2
import Derived.Test.YtefdbcalfaojgaaWMarkLaw
import Derived.Test.YtefdbcalfaojgaaStrSd
namespace Go.Proofs.Ytefdbcalfaojgaa
open Go.RowKit
set_option linter.unusedVariables false

theorem terms3_any (s : ByteArray) (L : List ByteArray) (hL : termsL s = L) (w : World) (hs : s.size ≤ 1048576) :
    Calls Try.prog 11 #[.string s] w fun e w' => ∃ p c, e = .returned (.slice p L.length c) ∧ StrRow w' p L ∧ Below w.heap.size w w' := by
  refine (termsI2_any s w hs).mono ?_
  rintro e w' ⟨v, rfl, ho, hb⟩
  rw [hL] at ho
  obtain ⟨p, c, rfl, hr⟩ := owns_strRow ho
  exact ⟨p, c, rfl, hr, hb⟩
theorem marked_all {s : ByteArray} (hs : NB s) (h : (markB s (termsL s)).toList.isEmpty = false) :
    termsL (markB s (termsL s)) = termsL s ∧ (markB s (termsL s)).size = s.size + 2 * cntF (fun k => !(tat (termsL s) k).toList.isEmpty) (termsL s).length ∧ c91 (markB s (termsL s)) (markB s (termsL s)).size = cntF (fun k => !(tat (termsL s) k).toList.isEmpty) (termsL s).length := by
  cases ht : textB s with
  | false =>
    have e : markB s (termsL s) = ⟨#[]⟩ := by unfold markB; rw [ht]; rfl
    rw [e, ByteArray.toList_eq] at h
    cases h
  | true =>
    have e : markB s (termsL s) = markA s (termsL s) := by unfold markB; rw [ht]; rfl
    have ec : cntF (sAt s (termsL s)) (wordsOn s 0).length = cntF (fun k => !(tat (termsL s) k).toList.isEmpty) (termsL s).length := by
      rw [termsL_len]
      exact cntF_congr fun j hj => sAt_terms s j hj
    obtain ⟨h1, h2, h3⟩ := markA_all hs (termsL s)
    rw [e]
    exact ⟨h1, by rw [h2, ec], by rw [h3, ec]⟩

set_option maxRecDepth 100000 in
set_option maxHeartbeats 4000000 in
theorem wFnMarkAll (a0 : Option Addr) (len0 cap0 : Nat) (w : World) (b0 : BytesIn w a0 len0 cap0) :
    Calls Try.prog 4 #[.slice a0 len0 cap0] w fun e w' => e = .returned (.bool true) ∧ Below w.heap.size w w' := by
  have m0 := b0.le
  have m1 := b0.max
  unfold maxLen at m1
  by_cases hbig0 : 1048576 < (len0 : Int)
  · clear b0
    go_enter Try.func4, Try.ntmps4
    go_wp2
    go_ret
    exact ⟨rfl, Below.refl _ _⟩
  go_enter Try.func4, Try.ntmps4
  go_wp2_with fail
  refine (drawMark_nb _ _ _ _ b0).mono ?_
  rintro e u1 ⟨s, p0, c0, ts0, rfl, hs, hnb, htl0, r0, hb1⟩
  clear b0 r0
  have hTl := termsL_le s
  obtain ⟨ts, hts⟩ : ∃ ts, termsL s = ts := ⟨_, rfl⟩
  have HT1 := terms3_any s ts hts u1 (by omega)
  have hxz := markB_size s ts hs
  have HMK : Hid ((markB s ts).toList.isEmpty = false → termsL (markB s ts) = ts ∧ (markB s ts).size = s.size + 2 * cntF (fun k => !(tat ts k).toList.isEmpty) ts.length ∧ c91 (markB s ts) (markB s ts).size = cntF (fun k => !(tat ts k).toList.isEmpty) ts.length) := fun h => by
    subst hts
    exact marked_all hnb h
  rw [hts] at hTl
  clear hnb hts
  go_wp2_with fail
  refine HT1.mono ?_
  rintro e u2 ⟨p, c, rfl, r2, hb2⟩
  have hw2 := below_trans hb1 hb2
  clear HT1 hb1 hb2
  have HMS : Hid (∀ wx, StrRow wx p ts → Calls Try.prog 8 #[.string s, .slice p ts.length c] wx fun e w' => e = .returned (.string (markB s ts)) ∧ Below wx.heap.size wx w') := fun wx h => markS_any p c s ts wx (by omega) (by omega) h
  go_wp2_with fail
  refine (markI_any p c s ts _ (by omega) (by omega) r2).mono ?_
  rintro e u3 ⟨rfl, hb3⟩
  have r3 := r2.below hb3
  have hw3 := below_trans hw2 hb3
  clear r2 hw2 hb3
  have HTX : Hid (∀ wx, termsL (markB s ts) = ts → Calls Try.prog 11 #[.string (markB s ts)] wx fun e w' => ∃ p c, e = .returned (.slice p ts.length c) ∧ StrRow w' p ts ∧ Below wx.heap.size wx w') := fun wx h => terms3_any _ ts h wx (by omega)
  generalize markB s ts = x at *
  go_wp2_with fail
  refine (HMS.out _ r3).mono ?_
  rintro e u4 ⟨rfl, hb4⟩
  have r4 := r3.below hb4
  have hw4 := below_trans hw3 hb4
  clear r3 hw3 hb4
  cases hem : x.toList.isEmpty with
  | true =>
    go_wp2_with fail
    refine (HMS.out _ r4).mono ?_
    rintro e u5 ⟨rfl, hb5⟩
    clear r4
    go_wp2
    go_ret
    exact ⟨rfl, below_trans hw4 hb5⟩
  | false =>
    obtain ⟨hT, hZ, hC⟩ := HMK.out hem
    have HTT : Hid (∀ wx, Calls Try.prog 11 #[.string x] wx fun e w' => ∃ p c, e = .returned (.slice p ts.length c) ∧ StrRow w' p ts ∧ Below wx.heap.size wx w') := fun wx => HTX.out wx hT
    have HZ : Hid (x.size = s.size + 2 * cntF (fun k => !(tat ts k).toList.isEmpty) ts.length) := hZ
    have HCC : Hid (c91 x x.size = cntF (fun k => !(tat ts k).toList.isEmpty) ts.length) := hC
    have HR : Hid (StrRow u4 p ts) := r4
    clear hT hZ hC HMK HMS HTX r4
    obtain ⟨F, hF⟩ : ∃ F : Nat → Bool, F = fun k => !(tat ts k).toList.isEmpty := ⟨_, rfl⟩
    rw [← hF] at HZ HCC
    have HF : Hid (∀ k, F k = !(tat ts k).toList.isEmpty) := fun k => by rw [hF]
    clear hF
    go_wp2
    go_loop [7, 8] (fun n i => ∃ k : Nat, k ≤ ts.length ∧ i = .int .i64 k ∧ n = .int .i64 (cntF F k : Nat)) (fun _ i => ts.length - (intOf i).toNat)
    case atStart => exact ⟨0, Nat.zero_le _, rfl, rfl⟩
    case round =>
      obtain ⟨k, hk, rfl, rfl⟩ := hrel
      have hcl := cntF_le F k
      by_cases hlt : k < ts.length
      · have hks : (k : Int) < (ts.length : Int) := by omega
        obtain ⟨g, rfl, hg, hc⟩ := HR.out (by omega)
        have c1 : u4.cell? ⟨g, k, none⟩ = some (.string (tat ts k)) := hc k hlt
        have hfk := HF.out k
        have HS : Hid (cntF F (k + 1) = cntF F k + (if F k then 1 else 0)) := rfl
        clear hc
        generalize tat ts k = t at *
        cases he : t.toList.isEmpty with
        | true =>
          rw [he] at hfk
          have HS2 : Hid (cntF F (k + 1) = cntF F k) := by unfold Hid; rw [HS.out, hfk]; rfl
          clear HS hfk
          go_wp2
          go_round
          case rel => exact ⟨k + 1, by omega, by go_num, by rw [HS2.out]⟩
          case measure => simp [intOf]; omega
        | false =>
          rw [he] at hfk
          have HS2 : Hid (cntF F (k + 1) = cntF F k + 1) := by unfold Hid; rw [HS.out, hfk]; rfl
          clear HS hfk
          go_wp2
          go_round
          case rel => exact ⟨k + 1, by omega, by go_num, by rw [HS2.out]; go_num⟩
          case measure => simp [intOf]; omega
      · have hkl : k = ts.length := by omega
        subst hkl
        generalize cntF F ts.length = n at *
        go_wp2
        go_loop [9, 10] (fun m i => ∃ k : Nat, k ≤ x.size ∧ i = .int .i64 k ∧ m = .int .i64 (c91 x k : Nat)) (fun _ i => x.size - (intOf i).toNat)
        case atStart => exact ⟨0, Nat.zero_le _, rfl, rfl⟩
        case round =>
          obtain ⟨k, hk2, rfl, rfl⟩ := hrel
          have hcl2 := c91_le x k
          by_cases hlt2 : k < x.size
          · have hks : (k : Int) < (x.size : Int) := by omega
            have hbe := byteAt_eq x k hlt2
            have hst := c91_step x k hlt2
            by_cases h91 : byteAt x k = 91
            · have t91 : (((x[k]'hlt2).toNat : Int) == 91) = true := by rw [← hbe, h91]; rfl
              rw [if_pos h91] at hst
              have HS2 : Hid (c91 x (k + 1) = c91 x k + 1) := hst
              clear hst hbe h91
              go_wp2
              go_round
              case rel => exact ⟨k + 1, by omega, by go_num, by rw [HS2.out]; go_num⟩
              case measure => simp [intOf]; omega
            · have t91 : (((x[k]'hlt2).toNat : Int) == 91) = false := by rw [← hbe]; simpa using h91
              rw [if_neg h91] at hst
              have HS2 : Hid (c91 x (k + 1) = c91 x k) := hst
              clear hst hbe h91
              go_wp2
              go_round
              case rel => exact ⟨k + 1, by omega, by go_num, by rw [HS2.out]⟩
              case measure => simp [intOf]; omega
          · have hkx : k = x.size := by omega
            subst hkx
            have HCE : Hid (c91 x x.size = n) := HCC.out
            rw [HCE.out]
            have hzz := HZ.out
            clear HCC HCE hcl2
            have e1 : ((x.size : Int) == (s.size : Int) + 2 * (n : Int)) = true := by simp; omega
            go_wp2_with fail
            refine (HTT.out _).mono ?_
            rintro e u6 ⟨p6, c6, rfl, r6, hb6⟩
            have r6b := HR.out.below hb6
            go_wp2_with fail
            refine (sdTexts_same p6 p c6 c ts _ (by omega) r6 r6b).mono ?_
            rintro e u7 ⟨rfl, hb7⟩
            clear r6 r6b
            go_wp2
            go_ret
            exact ⟨rfl, below_trans (below_trans hw4 hb6) hb7⟩
end Go.Proofs.Ytefdbcalfaojgaa
