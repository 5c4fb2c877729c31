/- The walk of the law FnSetGaps. -/
import Derived.Test.YthaobhghbopgkaaDoorSetReadS
import Derived.Test.YthaobhghbopgkaaDoorReadBack
import Derived.Test.YthaobhghbopgkaaDoorDrawSets
import Derived.Test.YthaobhghbopgkaaDoorL11Cut
import Derived.Test.YthaobhghbopgkaaDoorSdInts
import Derived.Test.YthaobhghbopgkaaDoorWSetRead
namespace Go.Proofs.YthaobhghbopgkaaDoor
open Go.RowKit
set_option linter.unusedVariables false

theorem drawSetGaps_any (a : Option Addr) (len cap : Nat) (w : World) (h : BytesIn w a len cap) :
    Calls Tryd.prog 6 #[.slice a len cap] w fun e w' => ∃ p c zs, e = .returned (.slice p (List.length zs) c) ∧ zs.length ≤ 18 ∧ IntRow w' p zs ∧ Below w.heap.size w w' := by
  go_enter Tryd.func6, Tryd.ntmps6
  go_wp2_with fail
  refine (open_any a len cap _ h).mono ?_
  rintro e w1 ⟨len', rfl, hR1, hC1, hb1⟩
  go_wp2_with fail
  refine (anySet_any w.heap.size a len' cap 0 _ hR1 hC1 (by omega)).mono ?_
  rintro e w2 ⟨v, zs, p, rfl, hz, hp, hd⟩
  obtain ⟨q, c, rfl, hq⟩ := owns_intRow hd.1
  have hb2 : Below w.heap.size w w2 := hb1.grown hd.2.2 hb1.size (fun j hj => by cases hj; exact Nat.le_refl _)
  clear hd hR1 hC1 h
  go_wp2
  go_ret
  exact ⟨q, c, zs, rfl, hz, hq, hb2⟩

theorem gapsB_size (zs : List Int) : (gapsB zs).size ≤ 352 := by
  unfold gapsB
  cases h : setB zs with
  | false => show (0 : Nat) ≤ 352; omega
  | true =>
    have h1 := gapsTo_size zs h zs.length (Nat.le_refl _)
    simp only [setB, Bool.and_eq_true, decide_eq_true_eq] at h
    simp only [if_true]
    omega

theorem drawSetRead_any (a : Option Addr) (len cap : Nat) (w : World) (h : BytesIn w a len cap) :
    Calls Tryd.prog 12 #[.slice a len cap] w fun e w' => ∃ t, e = .returned (.string t) ∧ t.size ≤ 353 ∧ Below w.heap.size w w' := by
  go_enter Tryd.func12, Tryd.ntmps12
  go_wp2_with fail
  refine (open_any a len cap _ h).mono ?_
  rintro e w1 ⟨len', rfl, hR1, hC1, hb1⟩
  have hlt := hR1.lt
  go_wp2_with fail
  refine (set_any w.heap.size a len' cap 0 _ hR1 hC1 (by omega)).mono ?_
  rintro e w2 ⟨v, zs, p, rfl, hz, hp, hd⟩
  obtain ⟨q, c, rfl, hq⟩ := owns_intRow hd.1
  go_wp2_with fail
  refine (gapsS_any q c zs _ (by omega) hq).mono ?_
  rintro e w3 ⟨rfl, hb3⟩
  have hR3 : Rd w3 w.heap.size a len' cap p := (hb3.block _ hd.2.1.lt).trans hd.2.1
  have hg3 : w1.grownBy w3 (some w.heap.size) := grown_trans hd.2.2 (grown_of_below hb3)
  have hgs := gapsB_size zs
  generalize gapsB zs = gs at *
  go_wp2_with fail
  refine (l11Cut_any w.heap.size a len' cap p gs _ hR3 (hC1.kept hg3 hlt) (by omega) (by omega)).mono ?_
  rintro e w4 ⟨t, k', rfl, ht, hk', hR4, hg4⟩
  have hb4 : Below w.heap.size w w4 := hb1.grown (grown_trans hg3 hg4) hb1.size (fun j hj => by cases hj; exact Nat.le_refl _)
  clear hd hR1 hC1 h hR3 hg3 hR4 hg4 hq hb3
  go_wp2
  go_ret
  exact ⟨t, rfl, by omega, hb4⟩

set_option maxHeartbeats 1000000 in
theorem wFnSetGaps (a0 a1 : Option Addr) (len0 len1 cap0 cap1 : Nat) (w : World) (h0 : BytesIn w a0 len0 cap0) (h1 : BytesIn w a1 len1 cap1) (ht : Pow10 w) (hm : MaxL w) :
    Calls Tryd.prog 3 #[.slice a0 len0 cap0, .slice a1 len1 cap1] w fun e w' => e = .returned (.bool true) ∧ Below w.heap.size w w' := by
  by_cases hbig : 1048576 < (len0 : Int)
  · clear h0 h1 ht hm
    go_enter Tryd.func3, Tryd.ntmps3
    go_wp2
    go_ret
    exact ⟨rfl, Below.refl _ _⟩
  by_cases hbig1 : 1048576 < (len1 : Int)
  · clear h0 h1 ht hm
    go_enter Tryd.func3, Tryd.ntmps3
    go_wp2
    go_ret
    exact ⟨rfl, Below.refl _ _⟩
  have HT : Hid (Pow10 w) := ht
  have HM : Hid (MaxL w) := hm
  have H1 : Hid (BytesIn w a1 len1 cap1) := h1
  clear ht hm h1
  go_enter Tryd.func3, Tryd.ntmps3
  go_wp2_with fail
  refine (drawSetGaps_any a0 len0 cap0 _ h0).mono ?_
  rintro e u1 ⟨p, c, zs, rfl, hz, hr1, hw1⟩
  clear h0
  have hgs := gapsB_size zs
  go_wp2_with fail
  refine (gapsI_any p c zs _ (by omega) hr1 (HT.out.below hw1)).mono ?_
  rintro e u2 ⟨rfl, hb2⟩
  have hw2 := below_trans hw1 hb2
  have r2 := hr1.below hb2
  clear hr1
  have HRI := readI_any (gapsB zs) u2 (by omega) (HM.out.below hw2)
  have HBK := read_gaps zs
  have HGS := fun (wx : World) (hx : IntRow wx p zs) => gapsS_any p c zs wx (by omega) hx
  generalize gapsB zs = gs at *
  have HRIH : Hid (Calls Tryd.prog 8 #[.string gs] u2 fun e w' => ReadAns u2 w' gs e) := HRI
  have HBKH : Hid (setB zs = true → readB gs = true ∧ readL gs = zs) := HBK
  have HGSH : Hid (∀ (wx : World), IntRow wx p zs → Calls Tryd.prog 9 #[.slice p zs.length c] wx fun e w' => e = .returned (.string gs) ∧ Below wx.heap.size wx w') := HGS
  clear HRI HBK HGS
  go_wp2_with fail
  refine HRIH.out.mono ?_
  rintro e u3 ⟨q, d, rfl, ho3, hb3⟩
  clear HRIH
  generalize readB gs = rb at *
  generalize readL gs = rl at *
  obtain ⟨q', d', ev, hr3⟩ := owns_intRow ho3
  simp only [Value.slice.injEq] at ev
  obtain ⟨rfl, hq, rfl⟩ := ev
  clear hq ho3
  have hw3 := below_trans hw2 hb3
  have r3 := r2.below hb3
  clear r2
  go_wp2_with fail
  refine (HGSH.out _ r3).mono ?_
  rintro e u4 ⟨rfl, hb4⟩
  have hw4 := below_trans hw3 hb4
  have r4 := r3.below hb4
  have x4 := hr3.below hb4
  clear r3 hr3
  go_wp2_with fail
  refine (setI_any p c zs _ (by omega) r4).mono ?_
  rintro e u5 ⟨rfl, rfl⟩
  cases hsb : setB zs with
  | false =>
    have hw6 := hw4
    clear r4 x4
    go_wp2_with fail
    refine (drawSetRead_any a1 len1 cap1 _ (H1.out.below hw6)).mono ?_
    rintro e u7 ⟨t, rfl, ht, hb7⟩
    have hw7 := below_trans hw6 hb7
    have HGR := gaps_read t
    have HLEN := readL_len t
    have HRS := fun wx => readS_any t wx (by omega)
    go_wp2_with fail
    refine (readI_any t _ (by omega) (HM.out.below hw7)).mono ?_
    rintro e u8 ⟨qy, dy, rfl, ho8, hb8⟩
    obtain ⟨q', d', ev, hr8⟩ := owns_intRow ho8
    simp only [Value.slice.injEq] at ev
    obtain ⟨rfl, hq, rfl⟩ := ev
    clear hq ho8
    have hw8 := below_trans hw7 hb8
    unfold ReadAnsS at HRS
    generalize readB t = rt at *
    generalize readL t = L at *
    go_wp2_with fail
    refine (HRS _).mono ?_
    rintro e u9 ⟨qw, dw, rfl, hr9, hb9⟩
    have hw9 := below_trans hw8 hb9
    have y9 := hr8.below hb9
    clear hr8 HRS
    cases rt with
    | false =>
      go_wp2_with fail
      refine (sdInts_same qy qw dy dw L _ (by omega) y9 hr9).mono ?_
      rintro e u10 ⟨rfl, hb10⟩
      clear y9 hr9
      go_wp2
      go_ret
      exact ⟨rfl, below_trans hw9 hb10⟩
    | true =>
      have hgl := HGR rfl
      go_wp2_with fail
      refine (sdInts_same qy qw dy dw L _ (by omega) y9 hr9).mono ?_
      rintro e u10 ⟨rfl, hb10⟩
      have hw10 := below_trans hw9 hb10
      have y10 := y9.below hb10
      have HGI := gapsI_any qy dy L u10 (by omega) y10 (HT.out.below hw10)
      rw [hgl] at HGI
      clear y9 hr9 y10 hgl HGR
      go_wp2_with fail
      refine HGI.mono ?_
      rintro e u11 ⟨rfl, hb11⟩
      go_wp2
      go_ret
      exact ⟨rfl, below_trans hw10 hb11⟩
  | true =>
    obtain ⟨e1, e2⟩ := HBKH.out hsb
    subst e1
    subst e2
    go_wp2_with fail
    refine (sdInts_same q p d c _ _ (by omega) x4 r4).mono ?_
    rintro e u6 ⟨rfl, hb6⟩
    have hw6 := below_trans hw4 hb6
    clear r4 x4
    go_wp2_with fail
    refine (drawSetRead_any a1 len1 cap1 _ (H1.out.below hw6)).mono ?_
    rintro e u7 ⟨t, rfl, ht, hb7⟩
    have hw7 := below_trans hw6 hb7
    have HGR := gaps_read t
    have HLEN := readL_len t
    have HRS := fun wx => readS_any t wx (by omega)
    go_wp2_with fail
    refine (readI_any t _ (by omega) (HM.out.below hw7)).mono ?_
    rintro e u8 ⟨qy, dy, rfl, ho8, hb8⟩
    obtain ⟨q', d', ev, hr8⟩ := owns_intRow ho8
    simp only [Value.slice.injEq] at ev
    obtain ⟨rfl, hq, rfl⟩ := ev
    clear hq ho8
    have hw8 := below_trans hw7 hb8
    unfold ReadAnsS at HRS
    generalize readB t = rt at *
    generalize readL t = L at *
    go_wp2_with fail
    refine (HRS _).mono ?_
    rintro e u9 ⟨qw, dw, rfl, hr9, hb9⟩
    have hw9 := below_trans hw8 hb9
    have y9 := hr8.below hb9
    clear hr8 HRS
    cases rt with
    | false =>
      go_wp2_with fail
      refine (sdInts_same qy qw dy dw L _ (by omega) y9 hr9).mono ?_
      rintro e u10 ⟨rfl, hb10⟩
      clear y9 hr9
      go_wp2
      go_ret
      exact ⟨rfl, below_trans hw9 hb10⟩
    | true =>
      have hgl := HGR rfl
      go_wp2_with fail
      refine (sdInts_same qy qw dy dw L _ (by omega) y9 hr9).mono ?_
      rintro e u10 ⟨rfl, hb10⟩
      have hw10 := below_trans hw9 hb10
      have y10 := y9.below hb10
      have HGI := gapsI_any qy dy L u10 (by omega) y10 (HT.out.below hw10)
      rw [hgl] at HGI
      clear y9 hr9 y10 hgl HGR
      go_wp2_with fail
      refine HGI.mono ?_
      rintro e u11 ⟨rfl, hb11⟩
      go_wp2
      go_ret
      exact ⟨rfl, below_trans hw10 hb11⟩
end Go.Proofs.YthaobhghbopgkaaDoor
