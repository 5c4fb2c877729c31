/- impl.SetRead and spec.SetRead read the same. -/
import Derived.Test.YthaobhghbopgkaaDoorSplitAny
import Derived.Test.YthaobhghbopgkaaDoorReadPlain
import Derived.Test.YthaobhghbopgkaaDoorFigsI
import Derived.Test.YthaobhghbopgkaaDoorL1Cut
import Derived.Test.YthaobhghbopgkaaDoorIntRows
namespace Go.Proofs.YthaobhghbopgkaaDoor
open Go.RowKit
set_option linter.unusedVariables false

/-- What SetRead answers. -/
def ReadAns (w w' : World) (s : ByteArray) (e : Ending) : Prop :=
  ∃ a cap, e = .returned (.tuple #[.slice a (readL s).length cap, .bool (readB s)]) ∧ w'.ownsRow w.heap.size 3 1 (.slice a (readL s).length cap) (readL s).length ((readL s).map (Value.int .i64)) ∧ Below w.heap.size w w'
theorem readAns_none {w w' : World} {s : ByteArray} (hl : readL s = []) (hb : Below w.heap.size w w') : ReadAns w w' s (.returned (.tuple #[.slice none 0 0, .bool (readB s)])) :=
  ⟨none, 0, by rw [hl]; rfl, by rw [hl]; exact World.ownsRow_nil _ _ _ _, hb⟩
theorem readAns_some {w w' : World} {s : ByteArray} {a : Option Addr} {n cap : Nat} {zs : List Int} (hn : zs.length = n) (hl : readL s = zs) (ho : w'.ownsRow w.heap.size 3 1 (.slice a n cap) n (zs.map (Value.int .i64))) (hb : Below w.heap.size w w') : ReadAns w w' s (.returned (.tuple #[.slice a n cap, .bool (readB s)])) := by
  subst hn
  subst hl
  exact ⟨a, cap, rfl, ho, hb⟩
theorem readAns_bool {w w' : World} {s : ByteArray} {v : Value} {b : Bool} (hb : readB s = b) (h : ReadAns w w' s (.returned (.tuple #[v, .bool (readB s)]))) : ReadAns w w' s (.returned (.tuple #[v, .bool b])) := by
  subst hb
  exact h

set_option maxHeartbeats 2000000 in
theorem readI_any (s : ByteArray) (w : World) (hs : s.size ≤ 1048576) (hm : MaxL w) :
    Calls Tryd.prog 8 #[.string s] w fun e w' => ReadAns w w' s e := by
  by_cases h0 : s.size = 0
  · have hl := readL_zero h0
    have hb := readB_zero h0
    have HA : Hid (ReadAns w w s (.returned (.tuple #[.slice none 0 0, .bool true]))) := readAns_bool hb (readAns_none hl (Below.refl _ _))
    have he := size_empty s h0
    subst he
    clear hl hb h0 hs hm
    go_enter Tryd.func8, Tryd.ntmps8
    go_wp2
    go_ret2
    exact HA.out
  have he := size_noEmpty s h0
  obtain ⟨i0, hi, hz0, hz1, hz2⟩ := info_parts infoInt
  have hmn := manyB_le 32 s
  have hlen : (parts s).length = manyB 32 s + 1 := cuts_full_len 32 s
  go_enter Tryd.func8, Tryd.ntmps8
  go_wp2_with fail
  refine (split_any s 32 _ hs hm).mono ?_
  rintro e w1 ⟨g, rfl, hrow, hb1⟩
  have HROW : Hid (StrRow w1 (some ⟨g, 0, none⟩) (parts s)) := hrow
  have hsz1 := hb1.size
  clear hrow hm
  generalize hps : parts s = ps at *
  have HPS : Hid (parts s = ps) := hps
  have HSZ : Hid (∀ i, i < ps.length → (pat ps i).size ≤ 1048576) := fun i hi => by have := pat_size 32 (manyB 32 s) s i (by rw [← hps] at hi; exact hi); rw [← hps]; unfold parts; omega
  clear hps
  generalize hn : manyB 32 s = n at *
  go_wp2
  go_loopw [4, 5, 15] (fun o l i wr => ∃ k : Nat, k ≤ n + 1 ∧ i = .int .i64 k ∧ l = .int .i64 (sumTo ps k) ∧ sumTo ps k ≤ 999999999 ∧ figsOk ps k = true ∧ wr.ownsRow w1.heap.size 3 1 o k ((sums ps k).map (Value.int .i64)) ∧ Below w1.heap.size w1 wr) (fun _ _ i _ => n + 1 - (intOf i).toNat)
  case atStart => exact ⟨0, Nat.zero_le _, rfl, rfl, Nat.zero_le _, rfl, World.ownsRow_nil _ _ _ _, Below.refl _ _⟩
  case round =>
    obtain ⟨k, hk, rfl, rfl, hsum, hfo, hown, hbel⟩ := hrel
    have hsz := hbel.size
    have HFO : Hid (figsOk ps k = true) := hfo
    clear hfo
    by_cases hlt : k < n + 1
    · have hkl : (k : Int) < (n : Int) + 1 := by omega
      obtain ⟨g', eg, hg, hc⟩ := (HROW.out.below hbel) (by omega)
      cases eg
      have c1 := hc k (by omega)
      have c2 : wr.cell? ⟨g, k, none⟩ = some (.string (pat ps k)) := c1
      have hpz := HSZ.out k (by omega)
      have HSU : Hid (sumTo ps (k + 1) = sumTo ps k + numB (pat ps k)) := rfl
      have HNF : Hid (figB (pat ps k) = false → partsOk ps = false) := fun h => partsOk_no_fig (by omega) h
      have HNB : Hid (999999999 < sumTo ps (k + 1) → partsOk ps = false) := fun h => partsOk_no_big (k := k) (by omega) h
      have HSS : Hid (sums ps (k + 1) = sums ps k ++ [((sumTo ps (k + 1) : Nat) : Int)]) := sums_succ ps k
      have HFS : Hid (figB (pat ps k) = true → figsOk ps (k + 1) = true) := fun h => allTo_snoc _ _ HFO.out h
      clear hc c1
      generalize pat ps k = p at *
      generalize hst : sumTo ps k = st at *
      generalize hst1 : sumTo ps (k + 1) = st1 at *
      have HFG := figuresGet_any p wr (by unfold maxLen; omega)
      cases hf : figB p with
      | false =>
        have HA : Hid (∀ wx, Below w.heap.size w wx → ReadAns w wx s (.returned (.tuple #[.slice none 0 0, .bool false]))) := fun wx hbx => by
          have h := readB_no h0 (by rw [HPS.out]; exact HNF.out hf)
          exact readAns_bool h.1 (readAns_none h.2 hbx)
        rw [figG_no hf, hf] at HFG
        have HFGH : Hid (Calls Tryd.prog 23 #[.string p] wr fun e w' => e = .returned (.tuple #[.int .i64 0, .bool false]) ∧ w' = wr) := HFG
        clear HFG hown
        go_wp2_with fail
        refine HFGH.out.mono ?_
        rintro e w2 ⟨rfl, rfl⟩
        go_wp2
        go_ret2
        exact HA.out _ (hb1.trans (hbel.mono hsz1))
      | true =>
        have hnb := numB_bd p hf
        have HNM : Hid (st1 = st + numB p) := HSU.out
        rw [figG_yes hf, hf] at HFG
        have HFGH : Hid (Calls Tryd.prog 23 #[.string p] wr fun e w' => e = .returned (.tuple #[.int .i64 (numB p : Int), .bool true]) ∧ w' = wr) := HFG
        clear HFG
        generalize numB p = nb at *
        by_cases hbig : 999999999 - (st : Int) < (nb : Int)
        · have HA : Hid (∀ wx, Below w.heap.size w wx → ReadAns w wx s (.returned (.tuple #[.slice none 0 0, .bool false]))) := fun wx hbx => by
            have hst1' := HNM.out
            have h := readB_no h0 (by rw [HPS.out]; exact HNB.out (by omega))
            exact readAns_bool h.1 (readAns_none h.2 hbx)
          clear hown
          go_wp2_with fail
          refine HFGH.out.mono ?_
          rintro e w2 ⟨rfl, rfl⟩
          go_wp2
          go_ret2
          exact HA.out _ (hb1.trans (hbel.mono hsz1))
        · have hst1' := HNM.out
          have HOW : Hid (wr.ownsRow w1.heap.size 3 1 _ k ((sums ps k).map (Value.int .i64))) := hown
          clear hown
          go_wp2_with fail
          refine HFGH.out.mono ?_
          rintro e w2 ⟨rfl, rfl⟩
          go_wp2_with (at_builtin; refine wpList_append_own _ rfl _ _ 23 rfl w1.heap.size 3 i0 (.int .i64 0) 1 8 Tryd.underlying23 hi hz0 hz1 hz2 rfl (by decide) _ _ _ rfl (HOW.out.alloc _) ⟨w2.heap.size, 0, none⟩ 1 1 [.int .i64 ((st : Int) + (nb : Int))] rfl rfl (cells_new _ _ _) (int_one _) (by unfold maxLen; omega) (by omega) (by simp; omega) ?_)
          intro v' w3 hown' hgrow _
          have hb4 : Below w1.heap.size w1 w3 := (hbel.alloc hsz _).grown hgrow (by simp; omega) (fun j hj => (HOW.out.lt j hj).1)
          have ho4 : w3.ownsRow w1.heap.size 3 1 v' (k + 1) ((sums ps (k + 1)).map (Value.int .i64)) := by
            rw [HSS.out, List.map_append, HNM.out]
            have : (((st + nb : Nat) : Int)) = (st : Int) + (nb : Int) := by omega
            rw [List.map_cons, List.map_nil, this]
            exact hown'
          clear hown' hgrow HOW
          go_wp2
          go_roundw
          case rel => exact ⟨k + 1, by omega, by go_num, by rw [hst1, HNM.out]; go_num, by omega, HFS.out hf, ho4, hb4⟩
          case measure => simp [intOf]; omega
    · have hkl : k = n + 1 := by omega
      subst hkl
      have hf : figsOk ps ps.length = true := by rw [hlen]; exact HFO.out
      have HPO : Hid (partsOk ps = setB (sums ps (n + 1))) := by have := partsOk_set hf; rw [hlen] at this; exact this
      obtain ⟨oa, oc, ov, hir⟩ := owns_intRow (zs := sums ps (n + 1)) (by rw [sums_len]; exact hown)
      rw [sums_len] at ov
      subst ov
      have HSI : Hid (Calls Tryd.prog 10 #[.slice oa (n + 1) oc] wr fun e w' => e = .returned (.bool (setB (sums ps (n + 1)))) ∧ w' = wr) := by
        unfold Hid
        have := setI_any oa oc (sums ps (n + 1)) wr (by rw [sums_len]; omega) hir
        rw [sums_len] at this
        exact this
      have HOW : Hid (wr.ownsRow w1.heap.size 3 1 (.slice oa (n + 1) oc) (n + 1) ((sums ps (n + 1)).map (Value.int .i64))) := hown
      have hbw : Below w.heap.size w wr := hb1.trans (hbel.mono hsz1)
      clear hown hir
      cases hset : setB (sums ps (n + 1)) with
      | false =>
        have HA : Hid (ReadAns w wr s (.returned (.tuple #[.slice none 0 0, .bool false]))) := by
          have h := readB_no h0 (by rw [HPS.out, HPO.out]; exact hset)
          exact readAns_bool h.1 (readAns_none h.2 hbw)
        rw [hset] at HSI
        clear HOW HROW
        go_wp2_with fail
        refine HSI.out.mono ?_
        rintro e w2 ⟨rfl, rfl⟩
        go_wp2
        go_ret2
        exact HA.out
      | true =>
        have HA : Hid (ReadAns w wr s (.returned (.tuple #[.slice oa (n + 1) oc, .bool true]))) := by
          have h := readB_yes h0 (by rw [HPS.out, HPO.out]; exact hset)
          rw [HPS.out, hlen] at h
          exact readAns_bool h.1 (readAns_some (zs := sums ps (n + 1)) (sums_len _ _) h.2 (ownsRow_mono HOW.out hsz1) hbw)
        rw [hset] at HSI
        clear HOW HROW
        go_wp2_with fail
        refine HSI.out.mono ?_
        rintro e w2 ⟨rfl, rfl⟩
        go_wp2
        go_ret2
        exact HA.out
end Go.Proofs.YthaobhghbopgkaaDoor
