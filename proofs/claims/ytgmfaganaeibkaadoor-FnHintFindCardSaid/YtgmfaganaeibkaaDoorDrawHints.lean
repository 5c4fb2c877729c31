/- The draws of hints. -/
import Derived.Test.YtgmfaganaeibkaaDoorHintAddS
import Derived.Test.YtgmfaganaeibkaaDoorDrawMore
import Derived.Test.YtgmfaganaeibkaaDoorCodeBelow
import Derived.Test.YtgmfaganaeibkaaDoorOne
import Derived.Test.YtgmfaganaeibkaaDoorDec
namespace Go.Proofs.YtgmfaganaeibkaaDoor
open Go.RowKit
set_option linter.unusedVariables false

/-- Numbers that lie in a row, each of a kind. -/
def IntsP (w : World) (L m : Nat) (p : Int → Prop) : Prop := ∀ i, i < m → ∃ z, w.cell? ⟨L, i, none⟩ = some (.int .i64 z) ∧ p z
theorem oneP_any (R L m : Nat) (a : Option Addr) (len cap k : Nat) (p : Int → Prop) (w : World) (hR : Rd w R a len cap k) (hC : Code w R a len) (hk : k ≤ 1000000) (hS : IntsP w L m p) (hm1 : 1 ≤ m) (hm2 : m ≤ 1000) (hL : L ≠ R) :
    Calls Tryd.prog 28 #[.pointer (some ⟨R, 0, none⟩), .slice (some ⟨L, 0, none⟩) m m] w fun e w' => ∃ z, e = .returned (.int .i64 z) ∧ p z ∧ Rd w' R a len cap ((k + 1 : Nat) : Int) ∧ w.grownBy w' (some R) := by
  go_enter Tryd.func28, Tryd.ntmps28
  go_wp2_with fail
  refine (pick_any R a len cap k _ _ hR hC hk (by omega) (by omega)).mono ?_
  rintro e w1 ⟨v, rfl, hv0, hv1, hR1, hg1⟩
  obtain ⟨j, rfl⟩ := Int.eq_ofNat_of_zero_le hv0
  have hj : j < m := by omega
  obtain ⟨t, hct, hp⟩ := hS j hj
  have hcj : w1.cell? ⟨L, j, none⟩ = some (.int .i64 t) := hg1.cell hct (by simpa using hL)
  have HR1 : Hid (Rd w1 R a len cap ((k + 1 : Nat) : Int)) := hR1
  clear hR hC hS hR1 hct
  go_wp2
  go_ret
  exact ⟨t, rfl, hp, HR1.out, hg1⟩
def intB (lo hi : Int) : Value → Bool
  | .int .i64 z => decide (lo ≤ z) && decide (z ≤ hi)
  | _ => false
theorem ints_new (w : World) (C : Array Value) (e : TypeId) (lo hi : Int) (h : C.toList.all (intB lo hi) = true) : IntsP (w.alloc (.cells C e)) w.heap.size C.size (fun z => lo ≤ z ∧ z ≤ hi) := by
  intro i hi'
  have hm := List.all_eq_true.1 h C[i] (by simp)
  rw [World.cell?_alloc_new, Array.getElem?_eq_getElem hi']
  cases hc : C[i] with
  | int k z =>
    rw [hc] at hm
    cases k <;> simp [intB] at hm
    exact ⟨z, rfl, hm.1, hm.2⟩
  | _ => rw [hc] at hm; simp [intB] at hm
/-- Whatever is added, no text is longer than those that were there and the one that came. -/
theorem addH_small {hs : List Hn} {t : ByteArray} {x : Int} {r : List Hn × Bool} (h : AddH hs t x r) (hs1 : HnsSmall hs) (ht : t.size ≤ 1048576) : HnsSmall r.1 := by
  have key : ∀ L : List Hn, (∀ y ∈ L, y.text.size ≤ 1048576) → HnsSmall L := fun L hL i hi => by
    rw [hnat_get _ _ hi]
    exact hL _ (List.getElem_mem hi)
  have old : ∀ y ∈ hs, y.text.size ≤ 1048576 := fun y hy => by
    obtain ⟨i, hi, rfl⟩ := List.getElem_of_mem hy
    have := hs1 i hi
    rwa [hnat_get _ _ hi] at this
  rcases h with ⟨_, rfl⟩ | ⟨_, _, rfl⟩ | ⟨_, _, k, _, rfl⟩
  · exact key _ (fun y hy => absurd hy (by simp))
  · exact hs1
  · unfold addAt
    split
    · rename_i hh
      have hk := hereH_lt hh
      split
      · refine key _ (fun y hy => ?_)
        rcases List.mem_or_eq_of_mem_set hy with hy | rfl
        · exact old y hy
        · exact hs1 k hk
      · exact hs1
    · split
      · refine key _ (fun y hy => ?_)
        simp only [List.mem_append, List.mem_singleton] at hy
        rcases hy with (hy | rfl) | hy
        · exact old y (List.mem_of_mem_take hy)
        · exact ht
        · exact old y (List.mem_of_mem_drop hy)
      · exact hs1
/-- Hints that a draw holds. -/
def HintD (w wr : World) (G C : Nat) (L : List Hn) : Prop := L.length ≤ C ∧ HnsSmall L ∧ wr.ownsRow w.heap.size 31 2 (.slice (some ⟨G, 0, none⟩) L.length C) L.length (hnCells L)
theorem HintD.row {w wr : World} {G C : Nat} {L : List Hn} (h : HintD w wr G C L) : HnRow wr (some ⟨G, 0, none⟩) L := by
  obtain ⟨p, c, e, _, _, _, hr⟩ := owns_hnRow h.2.2 (hnTo_cells L)
  injection e with e1 _ _
  subst e1
  exact hr
theorem HintD.kept {w wr w2 : World} {G C R : Nat} {L : List Hn} (h : HintD w wr G C L) (hg : wr.grownBy w2 (some R)) (hR : R < w.heap.size) : HintD w w2 G C L := ⟨h.1, h.2.1, own_kept h.2.2 hg hR⟩
theorem HintD.alloc {w wr : World} {G C : Nat} {L : List Hn} (h : HintD w wr G C L) (o : Obj) : HintD w (wr.alloc o) G C L := ⟨h.1, h.2.1, h.2.2.alloc o⟩
theorem HintD.below {w wr w2 : World} {G C : Nat} {L : List Hn} (h : HintD w wr G C L) (hb : Below wr.heap.size wr w2) : HintD w w2 G C L := ⟨h.1, h.2.1, h.2.2.kept (grown_none hb) (Classical.em _)⟩

set_option maxRecDepth 100000 in
set_option maxHeartbeats 2000000 in
theorem l11Hints_any (R : Nat) (a : Option Addr) (len cap k : Nat) (w : World) (hR : Rd w R a len cap k) (hC : Code w R a len) (hk : k ≤ 800000) :
    Calls Tryd.prog 50 #[.pointer (some ⟨R, 0, none⟩)] w fun e w' => ∃ (G C k' : Nat) (L : List Hn), e = .returned (.slice (some ⟨G, 0, none⟩) L.length C) ∧ L.length ≤ 15 ∧ k' ≤ k + 20 ∧ HintD w w' G C L ∧ Rd w' R a len cap (k' : Int) ∧ w.grownBy w' (some R) := by
  have hlt := hR.lt
  have hlit : (w.alloc (.cells #[] 31)).ownsRow w.heap.size 31 2 (.slice (some ⟨w.heap.size, 0, none⟩) 0 0) 0 [] := World.ownsRow_lit w #[] 0 (Nat.le_refl _) (by decide) rfl
  have HC : Hid (Code w R a len) := hC
  have hg0 := grown_alloc w (.cells #[] 31) R
  have hR0 := hR.alloc (.cells #[] 31)
  go_enter Tryd.func50, Tryd.ntmps50
  go_wp2_with fail
  refine (pick_any R a len cap k _ _ hR0 (hC.kept hg0 hlt) (by omega) (by omega) (by omega)).mono ?_
  rintro e w1 ⟨x, rfl, hx0, hx1, hR1, hg1⟩
  obtain ⟨n, rfl⟩ := Int.eq_ofNat_of_zero_le hx0
  have hn6 : n < 6 := by omega
  have hD1 : HintD w w1 w.heap.size 0 [] := ⟨by simp, fun i hi => absurd hi (by simp), own_kept hlit hg1 hlt⟩
  have hg01 := grown_trans hg0 hg1
  clear hlit hR hC hR0 hg0 hg1 hx0 hx1
  go_wp2
  go_loopw [3, 4] (fun v i wr => ∃ (G C j : Nat) (L : List Hn), v = .slice (some ⟨G, 0, none⟩) L.length C ∧ j ≤ n ∧ L.length + j ≤ n ∧ i = .int .i64 j ∧ HintD w wr G C L ∧ Rd wr R a len cap ((k + 1 + 2 * (n - j) : Nat) : Int) ∧ w.grownBy wr (some R)) (fun _ i _ => (intOf i).toNat)
  case atStart => exact ⟨w.heap.size, 0, n, [], rfl, Nat.le_refl _, by simp, rfl, hD1, by rw [Nat.sub_self]; exact hR1, hg01⟩
  case round =>
    clear hD1 hR1 hg01
    obtain ⟨G, C, j, L, rfl, hjn, hlj, rfl, hD, hRr, hgr⟩ := hrel
    have HDr : Hid (HintD w wr G C L) := hD
    clear hD
    by_cases hpos : 0 < j
    · have hji : (0 : Int) < (j : Int) := by omega
      have hsz := hgr.size
      go_wp2_with fail
      refine (of_any R wr.heap.size 6 a len cap (k + 1 + 2 * (n - j)) _ _ (hRr.alloc _) (HC.out.kept (grown_trans hgr (grown_alloc _ _ _)) hlt) (by omega) (strs_new _ _ _ 20 (by decide +kernel)) (by omega) (by omega) (by omega)).mono ?_
      rintro e w2 ⟨t, rfl, ht, hR2, hg2⟩
      have hg2' := grown_trans hgr (grown_trans (grown_alloc _ _ _) hg2)
      have HD2 : Hid (HintD w w2 G C L) := (HDr.out.alloc _).kept hg2 hlt
      clear hRr hgr hg2 HDr
      go_wp2_with fail
      refine (pick_any R a len cap (k + 1 + 2 * (n - j) + 1) _ _ hR2 (HC.out.kept hg2' hlt) (by omega) (by omega) (by omega)).mono ?_
      rintro e w3 ⟨x, rfl, hx0, hx1, hR3, hg3⟩
      have hg3' := grown_trans hg2' hg3
      have HD3 : Hid (HintD w w3 G C L) := HD2.out.kept hg3 hlt
      have hGl : G < w3.heap.size := (HD3.out.2.2.lt G rfl).2
      clear hR2 hg2' hg3 HD2
      go_wp2_with fail
      refine (hintAddS_any G C L t (1 + x) w3 (by omega) HD3.out.1 hGl HD3.out.2.1 (by omega) (by omega) HD3.out.row).mono ?_
      rintro e w4 ⟨g4, c4, ⟨R4, b4⟩, rfl, hA, hlr, hc4, ho4, hb4⟩
      simp only at hlr hc4 ho4
      have HD4 : Hid (HintD w w4 g4 c4 R4) := ⟨hc4, addH_small hA HD3.out.2.1 (by omega), ownsRow_mono ho4 hg3'.size⟩
      have hR4 : Rd w4 R a len cap ((k + 1 + 2 * (n - j) + 1 + 1 : Nat) : Int) := Rd.grown hR3 (grown_none hb4) (fun q e => by cases e)
      have hg4 := grown_trans hg3' (grown_of_below hb4)
      have HR4 : Hid (Rd w4 R a len cap ((k + 1 + 2 * (n - (j - 1)) : Nat) : Int)) := by
        unfold Hid
        rw [show k + 1 + 2 * (n - (j - 1)) = k + 1 + 2 * (n - j) + 1 + 1 by omega]
        exact hR4
      clear hR3 hR4 hb4 ho4 hA HD3 hg3' hGl
      go_wp2
      go_roundw
      case rel => exact ⟨g4, c4, j - 1, R4, rfl, by omega, by omega, by go_num, HD4.out, HR4.out, hg4⟩
      case measure => simp [intOf]; omega
    · have hjd : decide ((0 : Int) < (j : Int)) = false := decide_eq_false (by omega)
      have hjd2 : decide (0 < j) = false := decide_eq_false (by omega)
      go_wp2_with fail
      refine (pick_any R a len cap (k + 1 + 2 * (n - j)) _ _ hRr (HC.out.kept hgr hlt) (by omega) (by omega) (by omega)).mono ?_
      rintro e w2 ⟨x, rfl, hx0, hx1, hR2, hg2⟩
      have hg2' := grown_trans hgr hg2
      have HD2 : Hid (HintD w w2 G C L) := HDr.out.kept hg2 hlt
      have HR2 : Hid (Rd w2 R a len cap ((k + 1 + 2 * (n - j) + 1 : Nat) : Int)) := hR2
      clear hRr hgr hg2 HDr hR2
      by_cases hx : x = 0
      · subst hx
        go_wp2
        go_loopw [3, 5] (fun v i wr => ∃ (G C m : Nat) (L : List Hn), v = .slice (some ⟨G, 0, none⟩) L.length C ∧ m ≤ 10 ∧ L.length ≤ 5 + m ∧ i = .int .i64 m ∧ HintD w wr G C L ∧ Rd wr R a len cap ((k + 1 + 2 * (n - j) + 1 : Nat) : Int) ∧ w.grownBy wr (some R)) (fun _ i _ => 10 - (intOf i).toNat)
        case atStart => exact ⟨G, C, 0, L, rfl, by omega, by omega, rfl, HD2.out, HR2.out, hg2'⟩
        case round =>
          rename World => wq
          clear HD2 HR2 hg2'
          obtain ⟨G, C, m, L, rfl, hm, hlm, rfl, hD, hRr, hgr⟩ := hrel
          have HDr : Hid (HintD w wq G C L) := hD
          have HRr : Hid (Rd wq R a len cap ((k + 1 + 2 * (n - j) + 1 : Nat) : Int)) := hRr
          clear hD hRr
          by_cases hm10 : m < 10
          · have hmi : (m : Int) < 10 := by omega
            have hds := decS_size m (by omega)
            go_wp2_with fail
            refine (dec_upto 9 m wq (by omega) (by omega)).mono ?_
            rintro e w3 ⟨rfl, hb3⟩
            have HD3 : Hid (HintD w w3 G C L) := HDr.out.below hb3
            have HR3 : Hid (Rd w3 R a len cap ((k + 1 + 2 * (n - j) + 1 : Nat) : Int)) := Rd.grown HRr.out (grown_none hb3) (fun q e => by cases e)
            have hg3 := grown_trans hgr (grown_of_below hb3)
            have hGl : G < w3.heap.size := (HD3.out.2.2.lt G rfl).2
            clear hgr hb3 HDr HRr
            generalize decS m = ds at *
            go_wp2_with fail
            refine (hintAddS_any G C L _ 1 w3 (by omega) HD3.out.1 hGl HD3.out.2.1 (by rw [ByteArray.size_append]; have : (⟨#[104]⟩ : ByteArray).size = 1 := rfl; omega) (by omega) HD3.out.row).mono ?_
            rintro e w4 ⟨g4, c4, ⟨R4, b4⟩, rfl, hA, hlr, hc4, ho4, hb4⟩
            simp only at hlr hc4 ho4
            have HD4 : Hid (HintD w w4 g4 c4 R4) := ⟨hc4, addH_small hA HD3.out.2.1 (by rw [ByteArray.size_append]; have : (⟨#[104]⟩ : ByteArray).size = 1 := rfl; omega), ownsRow_mono ho4 hg3.size⟩
            have HR4 : Hid (Rd w4 R a len cap ((k + 1 + 2 * (n - j) + 1 : Nat) : Int)) := Rd.grown HR3.out (grown_none hb4) (fun q e => by cases e)
            have hg4 := grown_trans hg3 (grown_of_below hb4)
            clear HR3 hb4 ho4 hA HD3 hg3 hGl
            go_wp2
            go_roundw
            case rel => exact ⟨g4, c4, m + 1, R4, rfl, by omega, by omega, by go_num, HD4.out, HR4.out, hg4⟩
            case measure => simp [intOf]; omega
          · have hmd : decide ((m : Int) < 10) = false := decide_eq_false (by omega)
            go_wp2
            go_ret
            exact ⟨G, C, _, L, rfl, by omega, by omega, HDr.out, HRr.out, hgr⟩
      · have hxb : (x == 0) = false := beq_eq_false_iff_ne.2 hx
        go_wp2
        go_ret
        exact ⟨G, C, _, L, rfl, by omega, by omega, HD2.out, HR2.out, hg2'⟩

set_option maxRecDepth 100000 in
set_option maxHeartbeats 2000000 in
theorem l11AnyHints_any (R : Nat) (a : Option Addr) (len cap k : Nat) (w : World) (hR : Rd w R a len cap k) (hC : Code w R a len) (hk : k ≤ 700000) :
    Calls Tryd.prog 26 #[.pointer (some ⟨R, 0, none⟩)] w fun e w' => ∃ (G C k' : Nat) (L : List Hn), e = .returned (.slice (some ⟨G, 0, none⟩) L.length C) ∧ L.length ≤ 16 ∧ k' ≤ k + 23 ∧ HintD w w' G C L ∧ Rd w' R a len cap (k' : Int) ∧ w.grownBy w' (some R) := by
  obtain ⟨i0, hi, hz0, hz1, hz2⟩ := info_parts infoHn
  have hlt := hR.lt
  have hlit : (w.alloc (.cells #[] 31)).ownsRow w.heap.size 31 2 (.slice (some ⟨w.heap.size, 0, none⟩) 0 0) 0 [] := World.ownsRow_lit w #[] 0 (Nat.le_refl _) (by decide) rfl
  have HC : Hid (Code w R a len) := hC
  have hg0 := grown_alloc w (.cells #[] 31) R
  have hR0 := hR.alloc (.cells #[] 31)
  go_enter Tryd.func26, Tryd.ntmps26
  go_wp2_with fail
  refine (l11Hints_any R a len cap k _ hR0 (hC.kept hg0 hlt) (by omega)).mono ?_
  rintro e w1 ⟨G, C, k1, L, rfl, hL, hk1, hD1, hR1, hg1⟩
  have hg01 := grown_trans hg0 hg1
  have ho1 := own_kept hlit hg1 hlt
  have HD1 : Hid (HintD (w.alloc (.cells #[] 31)) w1 G C L) := hD1
  have HLE : Hid ((hnCells L).length = L.length * 2) := hnCells_len L
  have HRD : Hid (∀ j u, (hnCells L)[j]? = some u → w1.cell? ((⟨G, 0, none⟩ : Addr).add j) = some u) := fun j u h => by
    have := hD1.row
    exact hnRow_cells this j u h
  have hs1 := hg01.size
  have HR1 : Hid (Rd w1 R a len cap (k1 : Int)) := hR1
  clear hlit hR hC hR0 hg0 hg1 hD1 hR1
  go_wp2_with (at_builtin; refine wpList_append_own _ rfl _ _ 23 rfl w.heap.size 31 i0 (.agg #[.string ⟨#[]⟩, .int .i64 0]) 2 24 Tryd.underlying23 hi hz0 hz1 hz2 rfl (by decide) (.slice (some ⟨w.heap.size, 0, none⟩) 0 0) 0 [] rfl ho1 ⟨G, 0, none⟩ L.length C (hnCells L) rfl HLE.out HRD.out (hns_one L) (by unfold maxLen; omega) (by omega) hs1 ?_)
  intro v2 w2 hown2 hgrow2 hnn2
  have hv2 : v2 ≠ .slice none 0 0 := fun e => hnn2 e
  obtain ⟨G2, C2, rfl, hGC, hoG⟩ := ret_hrow rfl (by simpa using hown2) hv2
  have HD2 : Hid (HintD w w2 G2 C2 L) := ⟨hGC, HD1.out.2.1, hoG⟩
  have hg02 : w.grownBy w2 (some R) := grown_own hg01 hgrow2 (fun j hj => by simp [Value.ownBlock] at hj; omega)
  have HR2 : Hid (Rd w2 R a len cap (k1 : Int)) := Rd.grown HR1.out hgrow2 (fun j hj => by simp [Value.ownBlock] at hj; omega)
  clear hown2 hgrow2 hnn2 hv2 hoG HD1 HRD ho1 HR1 hg01 hs1
  go_wp2_with fail
  refine (pick_any R a len cap k1 _ _ HR2.out (HC.out.kept hg02 hlt) (by omega) (by omega) (by omega)).mono ?_
  rintro e w3 ⟨x, rfl, hx0, hx1, hR3, hg3⟩
  have HD3 : Hid (HintD w w3 G2 C2 L) := HD2.out.kept hg3 hlt
  have hg03 := grown_trans hg02 hg3
  have HR3 : Hid (Rd w3 R a len cap ((k1 + 1 : Nat) : Int)) := hR3
  clear HD2 HR2 hg02 hg3 hR3
  obtain ⟨n, rfl⟩ := Int.eq_ofNat_of_zero_le hx0
  by_cases hn0 : n = 0
  · subst hn0
    have hs3 := hg03.size
    go_wp2_with fail
    refine (of_any R w3.heap.size 4 a len cap (k1 + 1) _ _ (HR3.out.alloc _) (HC.out.kept (grown_trans hg03 (grown_alloc _ _ _)) hlt) (by omega) (strs_new _ _ _ 20 (by decide +kernel)) (by omega) (by omega) (by omega)).mono ?_
    rintro e w4 ⟨t, rfl, ht, hR4, hg4⟩
    have hg04 := grown_trans hg03 (grown_trans (grown_alloc _ _ _) hg4)
    have HD4 : Hid (HintD w w4 G2 C2 L) := (HD3.out.alloc _).kept hg4 hlt
    clear HD3 HR3 hg03 hg4
    go_wp2_with fail
    refine (pick_any R a len cap (k1 + 1 + 1) _ _ hR4 (HC.out.kept hg04 hlt) (by omega) (by omega) (by omega)).mono ?_
    rintro e w5 ⟨x, rfl, hx0, hx1, hR5, hg5⟩
    have HD5 : Hid (HintD w w5 G2 C2 L) := HD4.out.kept hg5 hlt
    have hg05 := grown_trans hg04 hg5
    have HR5 : Hid (Rd w5 R a len cap ((k1 + 1 + 1 + 1 : Nat) : Int)) := hR5
    have hs5 := hg05.size
    have ho5 := HD5.out.2.2.alloc (.cells #[.string t, .int .i64 x] 31)
    clear HD4 hR4 hg04 hg5 hR5
    go_wp2_with (at_builtin; refine wpList_append_own _ rfl _ _ 23 rfl w.heap.size 31 i0 (.agg #[.string ⟨#[]⟩, .int .i64 0]) 2 24 Tryd.underlying23 hi hz0 hz1 hz2 rfl (by decide) (.slice (some ⟨G2, 0, none⟩) L.length C2) L.length (hnCells L) rfl ho5 ⟨w5.heap.size, 0, none⟩ 1 1 [.string t, .int .i64 x] rfl rfl (cells_new _ _ _) (hn_one _ _) (by unfold maxLen; omega) (by omega) (by simp; omega) ?_)
    intro v6 w6 hown6 hgrow6 hnn6
    have hv6 : v6 ≠ .slice none 0 0 := fun e => by simp [e] at hnn6
    have hlen : (L ++ [(⟨t, x⟩ : Hn)]).length = L.length + 1 := by simp
    obtain ⟨G6, C6, rfl, hGC6, hoG6⟩ := ret_hrow (hs := L ++ [(⟨t, x⟩ : Hn)]) hlen (by rw [hnCells_snoc]; exact hown6) hv6
    have HD6 : Hid (HintD w w6 G6 C6 (L ++ [(⟨t, x⟩ : Hn)])) := ⟨hGC6, fun i hi => by
      by_cases e : i < L.length
      · have := HD5.out.2.1 i e
        rw [hnat_get _ _ hi, List.getElem_append_left e]
        rwa [hnat_get _ _ e] at this
      · rw [hnat_get _ _ hi, List.getElem_append_right (by omega)]
        simp
        omega, hoG6⟩
    have hg06 : w.grownBy w6 (some R) := grown_own (grown_trans hg05 (grown_alloc w5 (.cells #[.string t, .int .i64 x] 31) R)) hgrow6 (fun j hj => (HD5.out.2.2.lt j hj).1)
    have HR6 : Hid (Rd w6 R a len cap ((k1 + 1 + 1 + 1 : Nat) : Int)) := Rd.grown (HR5.out.alloc (.cells #[.string t, .int .i64 x] 31)) hgrow6 (fun j hj => by have := (HD5.out.2.2.lt j hj).1; omega)
    clear hown6 hgrow6 hnn6 hv6 hoG6 HD5 HR5 ho5 hg05
    have HLL : Hid ((L ++ [(⟨t, x⟩ : Hn)]).length ≤ 16) := by unfold Hid; omega
    clear hlen
    generalize L ++ [(⟨t, x⟩ : Hn)] = L6 at *
    go_wp2
    go_ret
    exact ⟨G6, C6, _, L6, rfl, HLL.out, by omega, HD6.out, HR6.out, hg06⟩
  · have hnb : ((n : Int) == 0) = false := beq_eq_false_iff_ne.2 (by omega)
    by_cases hn1 : n = 1
    · subst hn1
      by_cases hL0 : 0 < L.length
      · have hli : (0 : Int) < (L.length : Int) := by omega
        have hs3 := hg03.size
        go_wp2_with fail
        refine (oneP_any R w3.heap.size 3 a len cap (k1 + 1) (fun z => 0 ≤ z ∧ z ≤ 1000000000) _ (HR3.out.alloc _) (HC.out.kept (grown_trans hg03 (grown_alloc _ _ _)) hlt) (by omega) (ints_new _ _ _ 0 1000000000 (by decide +kernel)) (by omega) (by omega) (by omega)).mono ?_
        rintro e w4 ⟨z, rfl, hz, hR4, hg4⟩
        have hg04 := grown_trans hg03 (grown_trans (grown_alloc _ _ _) hg4)
        have HD4 : Hid (HintD w w4 G2 C2 L) := (HD3.out.alloc _).kept hg4 hlt
        have HR4 : Hid (Rd w4 R a len cap ((k1 + 1 + 1 : Nat) : Int)) := hR4
        have hk2 : 0 * 2 + 1 < (hnCells L).length := by rw [HLE.out]; omega
        have hc4 := HD4.out.2.2.cellAt 1 (by omega)
        rw [List.getElem?_eq_getElem hk2] at hc4
        generalize (hnCells L)[0 * 2 + 1]'hk2 = u0 at hc4
        have hf4 := HD4.out.2.2.frozenAt 1
        obtain ⟨ho5, hg5⟩ := HD4.out.2.2.stored 1 (.int .i64 z)
        have hcs := hnCells_set L 0 z hL0
        have HD5 : Hid (HintD w (w4.setCell ⟨G2, 1, none⟩ (.int .i64 z)) G2 C2 (L.set 0 ⟨(hnat L 0).text, z⟩)) := by
          refine ⟨by rw [List.length_set]; exact HD4.out.1, fun i hi => ?_, ?_⟩
          · rw [List.length_set] at hi
            rw [hnat_get _ _ (by rw [List.length_set]; exact hi), List.getElem_set]
            split
            · exact HD4.out.2.1 0 hL0
            · have := HD4.out.2.1 i hi
              rwa [hnat_get _ _ hi] at this
          · rw [List.length_set, hcs]
            exact ho5
        have hg05 : w.grownBy (w4.setCell ⟨G2, 1, none⟩ (.int .i64 z)) (some R) := grown_own hg04 hg5 (fun j hj => (HD4.out.2.2.lt j (by rw [← hj]; rfl)).1)
        have HR5 : Hid (Rd (w4.setCell ⟨G2, 1, none⟩ (.int .i64 z)) R a len cap ((k1 + 1 + 1 : Nat) : Int)) := Rd.grown HR4.out hg5 (fun j hj => by have := (HD4.out.2.2.lt j (by rw [← hj]; rfl)).1; omega)
        have HLL : Hid ((L.set 0 ⟨(hnat L 0).text, z⟩).length = L.length) := by unfold Hid; rw [List.length_set]
        clear HD4 HR4 hR4 hg4 hk2 ho5 hg5 hcs HD3 HR3 hg03 hg04
        generalize L.set 0 ⟨(hnat L 0).text, z⟩ = L5 at *
        go_wp2
        go_ret
        exact ⟨G2, C2, _, L5, by rw [HLL.out]; rfl, by rw [HLL.out]; omega, by omega, HD5.out, HR5.out, hg05⟩
      · have hli : decide ((0 : Int) < (L.length : Int)) = false := decide_eq_false (by omega)
        have hli2 : decide (0 < L.length) = false := decide_eq_false hL0
        go_wp2
        go_ret
        exact ⟨G2, C2, _, L, rfl, by omega, by omega, HD3.out, HR3.out, hg03⟩
    · have hnb1 : ((n : Int) == 1) = false := beq_eq_false_iff_ne.2 (by omega)
      go_wp2
      go_ret
      exact ⟨G2, C2, _, L, rfl, by omega, by omega, HD3.out, HR3.out, hg03⟩
theorem HintD.below0 {w wr : World} {G C : Nat} {L : List Hn} {n : Nat} {w0 : World} (h : HintD w wr G C L) (hn : w0.heap.size ≤ w.heap.size) : HintD w0 wr G C L := ⟨h.1, h.2.1, ownsRow_mono h.2.2 hn⟩
set_option maxHeartbeats 1000000 in
theorem drawHintAdd_any (a : Option Addr) (len cap : Nat) (w : World) (h : BytesIn w a len cap) :
    Calls Tryd.prog 11 #[.slice a len cap] w fun e w' => ∃ (G C : Nat) (L : List Hn) (t : ByteArray) (x : Int), e = .returned (.tuple #[.slice (some ⟨G, 0, none⟩) L.length C, .string t, .int .i64 x]) ∧ L.length ≤ 16 ∧ t.size ≤ 20 ∧ (0 ≤ x ∧ x ≤ 1000000000) ∧ HintD w w' G C L ∧ Below w.heap.size w w' := by
  go_enter Tryd.func11, Tryd.ntmps11
  go_wp2_with fail
  refine (open_any a len cap _ h).mono ?_
  rintro e w1 ⟨len', rfl, hR, hC, hb1⟩
  have hlt := hR.lt
  have hs1 := hb1.size
  have HC : Hid (Code w1 w.heap.size a len') := hC
  go_wp2_with fail
  refine (l11AnyHints_any w.heap.size a len' cap 0 _ hR hC (by omega)).mono ?_
  rintro e w2 ⟨G, C, k2, L, rfl, hL, hk2, hD2, hR2, hg2⟩
  have HD2 : Hid (HintD w1 w2 G C L) := hD2
  have hs2 := hg2.size
  clear hR hC hD2
  go_wp2_with fail
  refine (of_any w.heap.size w2.heap.size 6 a len' cap k2 _ _ (hR2.alloc _) (HC.out.kept (grown_trans hg2 (grown_alloc _ _ _)) hlt) (by omega) (strs_new _ _ _ 20 (by decide +kernel)) (by omega) (by omega) (by omega)).mono ?_
  rintro e w3 ⟨t, rfl, ht, hR3, hg3⟩
  have hg03 := grown_trans hg2 (grown_trans (grown_alloc _ _ _) hg3)
  have HD3 : Hid (HintD w1 w3 G C L) := (HD2.out.alloc _).kept hg3 hlt
  have hs3 := hg03.size
  clear hR2 hg2 hg3 HD2
  go_wp2_with fail
  refine (oneP_any w.heap.size w3.heap.size 5 a len' cap (k2 + 1) (fun z => 0 ≤ z ∧ z ≤ 1000000000) _ (hR3.alloc _) (HC.out.kept (grown_trans hg03 (grown_alloc _ _ _)) hlt) (by omega) (ints_new _ _ _ 0 1000000000 (by decide +kernel)) (by omega) (by omega) (by omega)).mono ?_
  rintro e w4 ⟨z, rfl, hz, _, hg4⟩
  have hg04 := grown_trans hg03 (grown_trans (grown_alloc _ _ _) hg4)
  have HD4 : Hid (HintD w w4 G C L) := HintD.below0 (n := 0) ((HD3.out.alloc _).kept hg4 hlt) hs1
  have HB4 : Hid (Below w.heap.size w w4) := grown_below hb1 hg04
  clear hR3 hg03 hg4 HD3 hg04
  go_wp2
  exact bodyPost_ret (v := .tuple #[.slice (some ⟨G, 0, none⟩) L.length C, .string t, .int .i64 z]) (by simp [results, Tryd.results11, go_sem]) rfl ⟨G, C, L, t, z, rfl, hL, ht, hz, HD4.out, HB4.out⟩
set_option maxHeartbeats 1000000 in
theorem drawHintFind_any (a : Option Addr) (len cap : Nat) (w : World) (h : BytesIn w a len cap) :
    Calls Tryd.prog 17 #[.slice a len cap] w fun e w' => ∃ (G C : Nat) (L : List Hn) (t : ByteArray) (x : Int), e = .returned (.tuple #[.slice (some ⟨G, 0, none⟩) L.length C, .string t, .int .i64 x]) ∧ L.length ≤ 16 ∧ t.size ≤ 20 ∧ (-1 ≤ x ∧ x ≤ 4) ∧ HintD w w' G C L ∧ Below w.heap.size w w' := by
  go_enter Tryd.func17, Tryd.ntmps17
  go_wp2_with fail
  refine (open_any a len cap _ h).mono ?_
  rintro e w1 ⟨len', rfl, hR, hC, hb1⟩
  have hlt := hR.lt
  have hs1 := hb1.size
  have HC : Hid (Code w1 w.heap.size a len') := hC
  go_wp2_with fail
  refine (l11AnyHints_any w.heap.size a len' cap 0 _ hR hC (by omega)).mono ?_
  rintro e w2 ⟨G, C, k2, L, rfl, hL, hk2, hD2, hR2, hg2⟩
  have HD2 : Hid (HintD w1 w2 G C L) := hD2
  have hs2 := hg2.size
  clear hR hC hD2
  go_wp2_with fail
  refine (of_any w.heap.size w2.heap.size 5 a len' cap k2 _ _ (hR2.alloc _) (HC.out.kept (grown_trans hg2 (grown_alloc _ _ _)) hlt) (by omega) (strs_new _ _ _ 20 (by decide +kernel)) (by omega) (by omega) (by omega)).mono ?_
  rintro e w3 ⟨t, rfl, ht, hR3, hg3⟩
  have hg03 := grown_trans hg2 (grown_trans (grown_alloc _ _ _) hg3)
  have HD3 : Hid (HintD w1 w3 G C L) := (HD2.out.alloc _).kept hg3 hlt
  have hs3 := hg03.size
  clear hR2 hg2 hg3 HD2
  go_wp2_with fail
  refine (pick_any w.heap.size a len' cap (k2 + 1) _ _ hR3 (HC.out.kept hg03 hlt) (by omega) (by omega) (by omega)).mono ?_
  rintro e w4 ⟨z, rfl, hz0, hz1, _, hg4⟩
  have hg04 := grown_trans hg03 hg4
  have HD4 : Hid (HintD w w4 G C L) := HintD.below0 (n := 0) (HD3.out.kept hg4 hlt) hs1
  have HB4 : Hid (Below w.heap.size w w4) := grown_below hb1 hg04
  clear hR3 hg03 hg4 HD3 hg04
  go_wp2
  exact bodyPost_ret (v := .tuple #[.slice (some ⟨G, 0, none⟩) L.length C, .string t, .int .i64 (z - 1)]) (by simp [results, Tryd.results17, go_sem]) rfl ⟨G, C, L, t, z - 1, rfl, hL, ht, by omega, HD4.out, HB4.out⟩
end Go.Proofs.YtgmfaganaeibkaaDoor
