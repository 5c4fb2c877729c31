/- The walk of the law FnMark. -/
import Derived.Test.YtefdbcalfaojgaaMarkLaw
import Derived.Test.YtefdbcalfaojgaaMarkI
import Derived.Test.YtefdbcalfaojgaaMarkS
import Derived.Test.YtefdbcalfaojgaaSdLooked
namespace Go.Proofs.Ytefdbcalfaojgaa
open Go.RowKit
set_option linter.unusedVariables false

theorem markB_size (s : ByteArray) (ts : List ByteArray) (hs : s.size ≤ 110) : (markB s ts).size ≤ 30000 := by
  unfold markB
  split
  · unfold markA
    rw [ByteArray.size_append, ByteArray.size_extract]
    have h1 := mk_size s ts (wordsOn s 0).length
    have h2 := wordsOn_len s s.size 0 (by omega)
    have h3 : (2 * s.size + 2) * (wordsOn s 0).length ≤ 222 * 110 := Nat.mul_le_mul (by omega) (by omega)
    omega
  · exact Nat.zero_le _
theorem marked {s : ByteArray} (hs : NB s) (ts : List ByteArray) (h : (markB s ts).toList.isEmpty = false) : GoodX ts (markB s ts) ∧ (⟨(pl (markB s ts) (markB s ts).size).toArray⟩ : ByteArray) = s ∧ markB s [] = s := by
  cases ht : textB s with
  | false =>
    have e : markB s ts = ⟨#[]⟩ := by unfold markB; rw [ht]; rfl
    rw [e, ByteArray.toList_eq] at h
    cases h
  | true =>
    have e : markB s ts = markA s ts := by unfold markB; rw [ht]; rfl
    obtain ⟨h1, h2⟩ := markA_good hs ts
    refine ⟨by rw [e]; exact h1, ?_, markB_none ht⟩
    rw [pl_all, e, h2]
theorem good_parts {ts : List ByteArray} {t : ByteArray} (h : soughtB ts t = true) : hasT ts (stemA t) = true ∧ (stemA t).toList.isEmpty = false := by
  unfold soughtB at h
  rw [Bool.and_eq_true] at h
  refine ⟨h.2, ?_⟩
  cases e : (stemA t).toList.isEmpty with
  | false => rfl
  | true => rw [e] at h; cases h.1

theorem own_drop {wr : World} {B : Nat} {v : Value} {x : ByteArray} {k : Nat} (h : pl x (k + 1) = pl x k) (ho : wr.ownsRow B 5 1 v (pl x k).length (plC x k)) : wr.ownsRow B 5 1 v (pl x (k + 1)).length (plC x (k + 1)) := by
  unfold plC at *
  rw [h]
  exact ho
theorem own_below {w w' : World} {B n : Nat} {v : Value} {xs : List Value} (h : w.ownsRow B 5 1 v n xs) (hb : Below w.heap.size w w') : w'.ownsRow B 5 1 v n xs := h.kept (grown_none hb) (Classical.em _)

set_option maxRecDepth 100000 in
set_option maxHeartbeats 4000000 in
theorem wFnMark (a0 : Option Addr) (len0 cap0 : Nat) (w : World) (b0 : BytesIn w a0 len0 cap0) :
    Calls Try.prog 3 #[.slice a0 len0 cap0] w fun e w' => e = .returned (.bool true) ∧ Below w.heap.size w w' := by
  obtain ⟨i0, hi, hz0, hz1, hz2⟩ := info_parts infoU8
  have m0 := b0.le
  have m1 := b0.max
  unfold maxLen at m1
  by_cases hbig0 : 1048576 < (len0 : Int)
  · clear b0
    go_enter Try.func3, Try.ntmps3
    go_wp2
    go_ret
    exact ⟨rfl, Below.refl _ _⟩
  go_enter Try.func3, Try.ntmps3
  go_wp2_with fail
  refine (drawMark_nb _ _ _ _ b0).mono ?_
  rintro e u1 ⟨s, p, c, ts, rfl, hs, hnb, htl, r1, hb1⟩
  clear b0
  have HMS : Hid (∀ wx, StrRow wx p ts → Calls Try.prog 8 #[.string s, .slice p ts.length c] wx fun e w' => e = .returned (.string (markB s ts)) ∧ Below wx.heap.size wx w') := fun wx h => markS_any p c s ts wx (by omega) (by omega) h
  have HMN : Hid (∀ wx, Calls Try.prog 7 #[.string s, .slice none 0 0] wx fun e w' => e = .returned (.string (markB s [])) ∧ Below wx.heap.size wx w') := fun wx => markI_any none 0 s [] wx (by omega) (by simp) (fun hp => absurd hp (by simp))
  have hxz := markB_size s ts hs
  have HMK : Hid ((markB s ts).toList.isEmpty = false → GoodX ts (markB s ts) ∧ (⟨(pl (markB s ts) (markB s ts).size).toArray⟩ : ByteArray) = s ∧ markB s [] = s) := fun h => marked hnb ts h
  clear hnb
  go_wp2_with fail
  refine (markI_any p c s ts _ (by omega) (by omega) r1).mono ?_
  rintro e u2 ⟨rfl, hb2⟩
  have r2 := r1.below hb2
  have hw2 := below_trans hb1 hb2
  clear r1 hb1 hb2
  generalize markB s ts = x at *
  go_wp2_with fail
  refine (HMS.out _ r2).mono ?_
  rintro e u3 ⟨rfl, hb3⟩
  have r3 := r2.below hb3
  have hw3 := below_trans hw2 hb3
  clear r2 hw2 hb3
  cases hem : x.toList.isEmpty with
  | true =>
    go_wp2_with fail
    refine (HMS.out _ r3).mono ?_
    rintro e u4 ⟨rfl, hb4⟩
    clear r3
    go_wp2
    go_ret
    exact ⟨rfl, below_trans hw3 hb4⟩
  | false =>
    obtain ⟨hG, hP, hN⟩ := HMK.out hem
    have HG : Hid (GoodX ts x) := hG
    have HP : Hid ((⟨(pl x x.size).toArray⟩ : ByteArray) = s) := hP
    have HN : Hid (markB s [] = s) := hN
    have HR : Hid (StrRow u3 p ts) := r3
    clear hG hP hN HMK HMS r3
    go_wp2
    go_loopw [6, 7, 8] (fun v o i wr => ∃ k : Nat, k ≤ x.size ∧ i = .int .i64 k ∧ o = .int .i64 (op x k : Nat) ∧ wr.ownsRow u3.heap.size 5 1 v (pl x k).length (plC x k) ∧ v ≠ .slice none 0 0 ∧ Below u3.heap.size u3 wr) (fun _ _ i _ => x.size - (intOf i).toNat)
    case atStart => exact ⟨0, Nat.zero_le _, rfl, rfl, World.ownsRow_lit u3 #[] 0 (Nat.le_refl _) (by decide) rfl, nofun, (Below.refl _ u3).alloc (Nat.le_refl _) _⟩
    case round =>
      obtain ⟨k, hk, rfl, rfl, hown, hnn, hbel⟩ := hrel
      have hpl := pl_len x k
      have hop := op_le x k
      by_cases hlt : k < x.size
      · have hks : (k : Int) < (x.size : Int) := by omega
        have hbe := byteAt_eq x k hlt
        by_cases h91 : byteAt x k = 91
        · have t91 : (((x[k]'hlt).toNat : Int) == 91) = true := by rw [← hbe, h91]; rfl
          have HO : Hid (op x (k + 1) = k + 1) := by unfold Hid; rw [op, if_pos h91]
          have HL : Hid (pl x (k + 1) = pl x k) := pl_drop x k hlt (.inl h91)
          have HW := own_drop HL.out hown
          clear hbe h91 hown
          go_wp2
          go_roundw
          case rel => exact ⟨k + 1, by omega, by go_num, by rw [HO.out]; go_num, HW, hnn, hbel⟩
          case measure => simp [intOf]; omega
        have t91 : (((x[k]'hlt).toNat : Int) == 91) = false := by rw [← hbe]; simpa using h91
        have HO : Hid (op x (k + 1) = op x k) := by unfold Hid; rw [op, if_neg h91]
        by_cases h93 : byteAt x k = 93
        · have t93 : (((x[k]'hlt).toNat : Int) == 93) = true := by rw [← hbe, h93]; rfl
          have HL : Hid (pl x (k + 1) = pl x k) := pl_drop x k hlt (.inr h93)
          obtain ⟨g1, g2⟩ := good_parts (HG.out k hlt h93)
          have ho1 : (op x k : Int) ≤ (k : Int) := by omega
          have ho2 : (k : Int) ≤ (x.size : Int) := by omega
          have hes : (x.extract (op x k) k).size ≤ maxLen := by rw [ByteArray.size_extract]; unfold maxLen; omega
          have HW := own_drop HL.out hown
          have HOI : Hid (op x (k + 1) = op x k) := HO.out
          have HRR : Hid (StrRow wr p ts) := HR.out.below hbel
          clear hbe h93 hown HO HL
          generalize op x k = o at *
          go_wp2_with fail
          refine (stemI_any (x.extract o k) _ hes).mono ?_
          rintro e w4 ⟨rfl, hb4⟩
          have W4 := own_below HW hb4
          have hbel4 := hbel.trans (hb4.mono hbel.size)
          go_wp2_with fail
          refine (sdHas_any p c ts _ _ (by omega) (HRR.out.below hb4)).mono ?_
          rintro e _ ⟨rfl, rfl⟩
          rw [g1]
          clear HW hb4 hbel
          go_wp2_with fail
          refine (stemI_any (x.extract o k) _ hes).mono ?_
          rintro e w5 ⟨rfl, hb5⟩
          have W5 := own_below W4 hb5
          have hbel5 := hbel4.trans (hb5.mono hbel4.size)
          clear W4 hb5 hbel4 g1 hes
          generalize stemA (x.extract o k) = st at *
          go_wp2
          go_roundw
          case rel => exact ⟨k + 1, by omega, by go_num, by rw [HOI.out], W5, hnn, hbel5⟩
          case measure => simp [intOf]; omega
        · have t93 : (((x[k]'hlt).toNat : Int) == 93) = false := by rw [← hbe]; simpa using h93
          obtain ⟨q1, q2⟩ := pl_keep x k hlt h91 h93
          have HQ1 : Hid (plC x (k + 1) = plC x k ++ [.int .u8 (byteAt x k)]) := q1
          have HQ2 : Hid ((pl x (k + 1)).length = (pl x k).length + 1) := q2
          have HBE : Hid (byteAt x k = ((x[k]'hlt).toNat : Int)) := hbe
          have hsz := hbel.size
          clear q1 q2 hbe h91 h93
          go_wp2_with (at_builtin; refine wpList_append_own _ rfl _ _ 22 rfl u3.heap.size 5 i0 (.int .u8 0) 1 1 Try.underlying22 hi hz0 hz1 hz2 rfl (by decide) _ _ _ rfl (hown.alloc _) ⟨wr.heap.size, 0, none⟩ 1 1 [.int .u8 ((x[k]'hlt).toNat : Int)] rfl rfl (cell_one0 _ _ _) ?c2 ?c3 ?c4 ?c5 ?_)
          case c2 => intro u hu; simp at hu; subst hu; rfl
          case c3 => unfold maxLen; omega
          case c4 => omega
          case c5 => simp; omega
          intro v' w1 hown' hgrow hnil
          have hnn' : v' ≠ .slice none 0 0 := hnil
          have hb2 : Below u3.heap.size u3 w1 := (hbel.alloc hsz _).grown hgrow (by simp; omega) (fun j hj => (hown.lt j hj).1)
          have HW : Hid (w1.ownsRow u3.heap.size 5 1 v' (pl x (k + 1)).length (plC x (k + 1))) := by
            unfold Hid
            rw [HQ1.out, HQ2.out, HBE.out]
            exact hown'
          clear hnil hgrow hown hown'
          go_wp2
          go_roundw
          case rel => exact ⟨k + 1, by omega, by go_num, by rw [HO.out], HW.out, hnn', hb2⟩
          case measure => simp [intOf]; omega
      · have hk' : k = x.size := by omega
        subst hk'
        rcases hown.2 with ⟨h0, _⟩ | ⟨g, cap, cur, rfl, hg⟩
        · exact absurd h0 hnn
        · have hback := run_convert_bytes_back (P := Try.prog) wr 22 9 5 ⟨g, 0, none⟩ cap (pl x x.size) Try.underlying22 Try.underlying5 Try.underlying9 (by
            intro j hj
            rw [addr_add0, hown.cellAt j (by omega)]
            unfold plC
            simp [hj])
          have hbw := below_trans hw3 hbel
          rw [HP.out] at hback
          clear hown hg hpl hop
          generalize (pl x x.size).length = n at *
          go_wp2_with fail
          refine (HMN.out _).mono ?_
          rintro e w6 ⟨rfl, hb6⟩
          rw [HN.out]
          clear hback
          go_wp2
          go_ret
          exact ⟨rfl, below_trans hbw hb6⟩
end Go.Proofs.Ytefdbcalfaojgaa
