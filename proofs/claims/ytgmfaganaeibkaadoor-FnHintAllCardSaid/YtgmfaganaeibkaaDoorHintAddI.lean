/- impl.HintAdd. -/
import Derived.Test.YtgmfaganaeibkaaDoorInsertAll
namespace Go.Proofs.YtgmfaganaeibkaaDoor
open Go.RowKit
set_option linter.unusedVariables false

theorem hereH_lt {hs : List Hn} {t : ByteArray} {k : Nat} (h : hereH hs t k = true) : k < hs.length := by
  unfold hereH at h
  simp only [Bool.and_eq_true, decide_eq_true_eq] at h
  exact h.1
/-- What an answer of HintAdd is, in memory. -/
def AddAns (w : World) (B : Nat) (hs : List Hn) (t : ByteArray) (x : Int) (e : Ending) (w' : World) : Prop :=
  ∃ v r, e = .returned (.tuple #[v, .bool r.2]) ∧ AddH hs t x r ∧ r.1.length ≤ hs.length + 1 ∧ w'.ownsRow B 31 2 v r.1.length (hnCells r.1) ∧ Below B w w'
theorem addAns_none {w w' : World} {B : Nat} {hs : List Hn} {t : ByteArray} {x : Int} (hB : hintsB hs = false) (v : Value) (hv : w'.ownsRow B 31 2 v 0 []) (hb : Below B w w') : AddAns w B hs t x (.returned (.tuple #[v, .bool false])) w' :=
  ⟨v, ([], false), rfl, .inl ⟨hB, rfl⟩, by simp, hv, hb⟩
theorem addAns_bad {w w' : World} {B : Nat} {hs : List Hn} {t : ByteArray} {x : Int} {v : Value} (hB : hintsB hs = true) (ht : (hintTI t && hnW x) = false) (ho : w'.ownsRow B 31 2 v hs.length (hnCells hs)) (hb : Below B w w') : AddAns w B hs t x (.returned (.tuple #[v, .bool false])) w' :=
  ⟨v, (hs, false), rfl, .inr (.inl ⟨hB, ht, rfl⟩), by simp, ho, hb⟩
theorem addAns_at {w w' : World} {B : Nat} {hs : List Hn} {t : ByteArray} {x : Int} {v : Value} {k : Nat} {r : List Hn} {b : Bool} (hB : hintsB hs = true) (ht : (hintTI t && hnW x) = true) (hk : PosH hs t k) (hr : addAt hs t x k = (r, b)) (hl : r.length ≤ hs.length + 1) (ho : w'.ownsRow B 31 2 v r.length (hnCells r)) (hb : Below B w w') : AddAns w B hs t x (.returned (.tuple #[v, .bool b])) w' :=
  ⟨v, (r, b), rfl, .inr (.inr ⟨hB, ht, k, hk, hr.symm⟩), hl, ho, hb⟩

set_option maxRecDepth 100000 in
set_option maxHeartbeats 2000000 in
theorem hintAddI_any (a : Option Addr) (cap : Nat) (hs : List Hn) (t : ByteArray) (x : Int) (w : World) (hz : hs.length ≤ 1048576) (hsm : HnsSmall hs) (hts : t.size ≤ 1048576) (hx : -9223372036854775808 ≤ x ∧ x ≤ 9223372036854775807) (hm : MaxL w) (hr : HnRow w a hs) :
    Calls Tryd.prog 12 #[.slice a hs.length cap, .string t, .int .i64 x] w fun e w' => AddAns w w.heap.size hs t x e w' := by
  have HH := hintsI_any a cap hs w hz hsm hm hr
  cases hB : hintsB hs with
  | false =>
    rw [hB] at HH
    go_enter Tryd.func12, Tryd.ntmps12
    go_wp2_with fail
    refine HH.mono ?_
    rintro e w1 ⟨rfl, hb1⟩
    go_wp2
    go_ret2
    exact addAns_none hB _ (World.ownsRow_nil _ _ _ _) hb1
  | true =>
    rw [hB] at HH
    go_enter Tryd.func12, Tryd.ntmps12
    go_wp2_with fail
    refine HH.mono ?_
    rintro e w1 ⟨rfl, hb1⟩
    clear HH
    have HR1 : Hid (HnRow w1 a hs) := hr.below hb1
    have hm1 := hm.below hb1
    go_wp2_with fail
    refine (hintsCopy_any a cap hs w1 hz hsm HR1.out).mono ?_
    rintro e w2 ⟨v, rfl, ho2, hb2⟩
    clear HR1 hr
    obtain ⟨g, c, rfl, hgc, hgn, hgb, hrow⟩ := owns_hnRow ho2 (hnTo_cells hs)
    have HO2 : Hid (w2.ownsRow w.heap.size 31 2 (.slice g hs.length c) hs.length (hnCells hs)) := ownsRow_mono ho2 hb1.size
    have HB2 : Hid (Below w.heap.size w w2) := hb1.trans (hb2.mono hb1.size)
    have hm2 := hm1.below hb2
    have HRW : Hid (HnRow w2 g hs) := hrow
    clear ho2 hb2 hb1 hm1 hm hrow hgb
    go_wp2_with fail
    refine (clone_any t w2 (by omega)).mono ?_
    rintro e w3 ⟨rfl, hb3⟩
    have HB3 : Hid (Below w2.heap.size w2 (w3.alloc (.cells #[.string t, .int .i64 x] 31))) := hb3.alloc hb3.size _
    have B4 := Blk.new w3 #[.string t, .int .i64 x] 31
    have hs3 := hb3.size
    clear hb3
    go_wp2_with fail
    obtain ⟨W4, hW4⟩ : ∃ W4, w3.alloc (.cells #[.string t, .int .i64 x] 31) = W4 := ⟨_, rfl⟩
    rw [hW4] at HB3 B4 ⊢
    have hm4 := hm2.below HB3.out
    have HRW4 : Hid (HnRow W4 g hs) := HRW.out.below HB3.out
    have HO4 : Hid (W4.ownsRow w.heap.size 31 2 (.slice g hs.length c) hs.length (hnCells hs)) := HO2.out.kept (grown_none HB3.out) (Classical.em _)
    have HB4 : Hid (Below w.heap.size w W4) := HB2.out.trans (HB3.out.mono HB2.out.size)
    have hgl : ∀ y, g = some y → 0 < hs.length → y.block < w2.heap.size := fun y hy hp => by
      obtain ⟨g', off', e, hl, _⟩ := HRW.out hp
      rw [e] at hy
      cases hy
      exact hl
    have hgne : ∀ y, g = some y → 0 < hs.length → y.block ≠ w3.heap.size := fun y hy hp => by
      have := hgl y hy hp
      omega
    clear HB2 HB3 HO2 HRW hm2 hW4
    refine (hintOk_any t x W4 hts hm4).mono ?_
    rintro e w5 ⟨rfl, hb5⟩
    have B5 := B4.below hb5 B4.lt
    have HO5 : Hid (w5.ownsRow w.heap.size 31 2 (.slice g hs.length c) hs.length (hnCells hs)) := HO4.out.kept (grown_none hb5) (Classical.em _)
    have HB5 : Hid (Below w.heap.size w w5) := HB4.out.trans (hb5.mono HB4.out.size)
    have HRW5 : Hid (HnRow w5 g hs) := HRW4.out.below hb5
    have b0 := B5.cell 0
    have b1 := B5.cell 1
    simp at b0 b1
    clear HO4 HB4 HRW4 hb5 B4 hm4
    cases ht : (hintTI t && hnW x) with
    | false =>
      go_wp2
      go_ret2
      exact addAns_bad hB ht HO5.out HB5.out
    | true =>
      go_wp2_with fail
      refine (searchH_any g c hs t x w5 hz (hnat_ascending hB) HRW5.out).mono ?_
      rintro e w6 ⟨k, rfl, hpos, hb6⟩
      have B6 := B5.below hb6 B5.lt
      have HO6 : Hid (w6.ownsRow w.heap.size 31 2 (.slice g hs.length c) hs.length (hnCells hs)) := HO5.out.kept (grown_none hb6) (Classical.em _)
      have HB6 : Hid (Below w.heap.size w w6) := HB5.out.trans (hb6.mono HB5.out.size)
      have HRW6 : Hid (HnRow w6 g hs) := HRW5.out.below hb6
      have HP : Hid (PosH hs t k) := hpos
      obtain ⟨h10, hfa⟩ := hints_facts hB
      have HX : Hid (hnW x = true) := by
        unfold Hid
        cases h : hnW x with
        | true => rfl
        | false => rw [h, Bool.and_false] at ht; cases ht
      have hx2 : 1 ≤ x ∧ x ≤ 999999999 := by
        have := HX.out
        unfold hnW at this
        simpa [Bool.and_eq_true, decide_eq_true_eq] using this
      have hs6 := HB6.out.size
      clear HO5 HB5 HRW5 hb6 B5 b0 b1 hpos HX
      have b0 := B6.cell 0
      have b1 := B6.cell 1
      simp at b0 b1
      cases hh : hereH hs t k with
      | true =>
        have hk := hereH_lt hh
        obtain ⟨gg, off, rfl, hg, hc⟩ := HRW6.out (by omega)
        obtain ⟨c0, c1⟩ := hc k hk
        obtain ⟨_, hw1, hw2⟩ := hfa k hk
        have hoff : off = 0 := by
          rcases HO6.out.2 with ⟨e, _⟩ | ⟨g', c', cur, e, _⟩
          · cases e
          · cases e; rfl
        subst hoff
        rw [Nat.zero_add] at c0 c1
        have HA1 : Hid ((hnat hs k).weight + x ≤ 999999999 → addAt hs t x k = (hs.set k ⟨(hnat hs k).text, (hnat hs k).weight + x⟩, true)) := fun h => by unfold addAt; rw [if_pos hh, if_pos h]
        have HA2 : Hid (¬ (hnat hs k).weight + x ≤ 999999999 → addAt hs t x k = (hs, false)) := fun h => by unfold addAt; rw [if_pos hh, if_neg h]
        have HCS : Hid (∀ y, hnCells (hs.set k ⟨(hnat hs k).text, y⟩) = (hnCells hs).set (k * 2 + 1) (.int .i64 y)) := fun y => hnCells_set hs k y hk
        have hf := HO6.out.frozenAt (k * 2 + 1)
        generalize hnat hs k = h0 at *
        obtain ⟨tx, x0⟩ := h0
        simp only at c0 c1 hw1 hw2 HA1 HA2 HCS
        have hki : (k : Int) < (hs.length : Int) := by omega
        clear hfa hc HRW6 hgne hgl hgn hgc hg
        by_cases hle : x0 + x ≤ 999999999
        · have hle2 : x ≤ 999999999 - x0 := by omega
          obtain ⟨hoS, hgS⟩ := HO6.out.stored (k * 2 + 1) (.int .i64 (x0 + x))
          have HOS : Hid ((w6.setCell ⟨gg, k * 2 + 1, none⟩ (.int .i64 (x0 + x))).ownsRow w.heap.size 31 2 (.slice (some ⟨gg, 0, none⟩) hs.length c) (hs.set k ⟨tx, x0 + x⟩).length (hnCells (hs.set k ⟨tx, x0 + x⟩))) := by
            unfold Hid
            rw [HCS.out, List.length_set]
            exact hoS
          have HBS : Hid (Below w.heap.size w (w6.setCell ⟨gg, k * 2 + 1, none⟩ (.int .i64 (x0 + x)))) := HB6.out.grown hgS HB6.out.size (fun j hj => by cases hj; exact (HO6.out.lt gg rfl).1)
          have HLS : Hid ((hs.set k ⟨tx, x0 + x⟩).length ≤ hs.length + 1) := by unfold Hid; rw [List.length_set]; omega
          have HA : Hid (addAt hs t x k = (hs.set k ⟨tx, x0 + x⟩, true)) := HA1.out hle
          clear hoS hgS HO6 HB6 HA1 HA2 HCS
          go_wp2
          go_ret2
          exact addAns_at hB ht HP.out HA.out HLS.out HOS.out HBS.out
        · have hle2 : decide (x ≤ 999999999 - x0) = false := decide_eq_false (by omega)
          have HA : Hid (addAt hs t x k = (hs, false)) := HA2.out hle
          clear HA1 HA2 HCS
          go_wp2
          go_ret2
          exact addAns_at hB ht HP.out HA.out (by omega) HO6.out HB6.out
      | false =>
        by_cases hl : hs.length < 10
        · have hli : (hs.length : Int) < 10 := by omega
          have HA : Hid (addAt hs t x k = (hs.take k ++ [⟨t, x⟩] ++ hs.drop k, true)) := by unfold Hid addAt; rw [hh, if_neg (by simp), if_pos hl]
          have hkl := HP.out.1
          clear hfa HRW6 hgl hgn
          have B7 := Blk.new w6 #[.string t, .int .i64 x] 31
          have HO7 := HO6.out.alloc (.cells #[.string t, .int .i64 x] 31)
          have HB7 : Hid (Below w.heap.size w (w6.alloc (.cells #[.string t, .int .i64 x] 31))) := HB6.out.alloc hs6 _
          have hvg : ∀ y, g = some y → y.block ≠ w6.heap.size := fun y hy => by
            rcases HO6.out.2 with ⟨e, _⟩ | ⟨g', c', cur, e, _, hgg, _⟩
            · injection e with e1 _ _
              rw [e1] at hy
              cases hy
            · cases e
              cases hy
              have : g' < w6.heap.size := (HO6.out.lt g' rfl).2
              show g' ≠ _
              omega
          have HI : Hid (Calls Tryd.prog 34 #[.slice g hs.length c, .int .i64 k, .slice (some ⟨w6.heap.size, 0, none⟩) 1 1] (w6.alloc (.cells #[.string t, .int .i64 x] 31)) fun e w' => ∃ v', e = .returned v' ∧ w'.ownsRow w.heap.size 31 2 v' (hs.length + 1) (hnCells (hs.take k ++ [⟨t, x⟩] ++ hs.drop k)) ∧ (w6.alloc (.cells #[.string t, .int .i64 x] 31)).grownBy w' (Value.slice g hs.length c).ownBlock) :=
            insertH_any w.heap.size w6.heap.size k g c hs t x _ hz hkl HB7.out.size HO7 B7 hvg
          have HLB : Hid (∀ j, (Value.slice g hs.length c).ownBlock = some j → w.heap.size ≤ j) := fun j hj => (HO6.out.lt j hj).1
          clear HO7 B7 hvg hgne B6
          go_wp2_with fail
          refine HI.out.mono ?_
          rintro e w8 ⟨v', rfl, ho8, hg8⟩
          have HB8 : Hid (Below w.heap.size w w8) := HB7.out.grown hg8 HB7.out.size HLB.out
          have HLN : Hid ((hs.take k ++ [(⟨t, x⟩ : Hn)] ++ hs.drop k).length = hs.length + 1) := by unfold Hid; simp; omega
          have HO8 : Hid (w8.ownsRow w.heap.size 31 2 v' (hs.take k ++ [(⟨t, x⟩ : Hn)] ++ hs.drop k).length (hnCells (hs.take k ++ [⟨t, x⟩] ++ hs.drop k))) := by unfold Hid; rw [HLN.out]; exact ho8
          clear HI HO6 HB6 HB7 ho8 hg8 HLB b0 b1
          go_wp2
          go_ret2
          exact addAns_at hB ht HP.out HA.out (Nat.le_of_eq HLN.out) HO8.out HB8.out
        · have hli : decide ((hs.length : Int) < 10) = false := decide_eq_false (by omega)
          have HA : Hid (addAt hs t x k = (hs, false)) := by unfold Hid addAt; rw [hh, if_neg (by simp), if_neg hl]
          clear hfa HRW6 hgl hgn hgne
          go_wp2
          go_ret2
          exact addAns_at hB ht HP.out HA.out (by omega) HO6.out HB6.out
end Go.Proofs.YtgmfaganaeibkaaDoor
