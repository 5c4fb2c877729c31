/- spec.SetRead. -/
import Derived.Test.YthaobhghbopgkaaDoorSetRead
namespace Go.Proofs.YthaobhghbopgkaaDoor
open Go.RowKit
set_option linter.unusedVariables false

/-- What the model's SetRead answers. -/
def ReadAnsS (w w' : World) (s : ByteArray) (e : Ending) : Prop :=
  ∃ a cap, e = .returned (.tuple #[.slice a (readL s).length cap, .bool (readB s)]) ∧ IntRow w' a (readL s) ∧ Below w.heap.size w w'
theorem readAnsS_none {w w' : World} {s : ByteArray} {a : Option Addr} {b : Bool} (hb : readB s = b) (hl : readL s = []) (hw : Below w.heap.size w w') : ReadAnsS w w' s (.returned (.tuple #[.slice a 0 0, .bool b])) := by
  subst hb
  exact ⟨a, 0, by rw [hl]; rfl, by rw [hl]; exact fun hp => by simp at hp, hw⟩
theorem readAnsS_some {w w' : World} {s : ByteArray} {a : Option Addr} {n cap : Nat} {zs : List Int} {b : Bool} (hn : zs.length = n) (hb : readB s = b) (hl : readL s = zs) (ho : IntRow w' a zs) (hw : Below w.heap.size w w') : ReadAnsS w w' s (.returned (.tuple #[.slice a n cap, .bool b])) := by
  subst hn
  subst hl
  subst hb
  exact ⟨a, cap, rfl, ho, hw⟩

set_option maxHeartbeats 2000000 in
theorem readS_any (s : ByteArray) (w : World) (hs : s.size ≤ 1048576) :
    Calls Tryd.prog 13 #[.string s] w fun e w' => ReadAnsS w w' s e := by
  by_cases h0 : s.size = 0
  · have hl := readL_zero h0
    have hb := readB_zero h0
    have HA : Hid (∀ a wx, Below w.heap.size w wx → ReadAnsS w wx s (.returned (.tuple #[.slice a 0 0, .bool true]))) := fun a wx h => readAnsS_none hb hl h
    have he := size_empty s h0
    subst he
    clear hl hb h0 hs
    go_enter Tryd.func13, Tryd.ntmps13
    go_wp2
    go_ret2
    exact HA.out _ _ ((Below.refl _ w).alloc (Nat.le_refl _) _)
  have he := size_noEmpty s h0
  obtain ⟨i0, hi, hz0, hz1, hz2⟩ := info_parts infoInt
  have hlen : (cuts 32 16 s).length ≤ 17 := cuts_len_le 32 16 s
  obtain ⟨P1, P2⟩ := parts16 s
  have HGB := gaps_back 16 s
  have HSZ : Hid (∀ i, i < (cuts 32 16 s).length → (pat (cuts 32 16 s) i).size ≤ 1048576) := fun i hi => by have := pat_size 32 16 s i hi; omega
  go_enter Tryd.func13, Tryd.ntmps13
  go_wp2_with fail
  refine (l1Cut_any s 32 32 rfl 16 _ hs (by omega)).mono ?_
  rintro e w1 ⟨v, rfl, hvo, hb1d⟩
  have hb1 : Below w.heap.size w w1 := ((Below.refl _ w).alloc (Nat.le_refl _) _).trans (hb1d.mono (by simp))
  have hvb : ∀ x, v.ownBlock = some x → w.heap.size < x := fun x hx => by
    have := (hvo.lt x hx).1
    simp at this
    omega
  obtain ⟨va, vc, rfl, hrow⟩ := owns_strRow hvo
  have hself : w1.ownsRow w.heap.size 3 1 (.slice (some ⟨w.heap.size, 0, none⟩) 0 0) 0 [] :=
    (World.ownsRow_lit w #[] 0 (Nat.le_refl _) (by decide) rfl).kept (grown_none hb1d) (Classical.em _)
  have HROW : Hid (StrRow w1 va (cuts 32 16 s)) := hrow
  have hsz1 := hb1.size
  clear hrow hvo hb1d
  have HP1 : Hid (partsOk (cuts 32 16 s) = partsOk (parts s)) := P1
  have HP2 : Hid (partsOk (parts s) = true → cuts 32 16 s = parts s) := P2
  have HGBH : Hid (figsOk (cuts 32 16 s) (cuts 32 16 s).length = true → gapsTo (sums (cuts 32 16 s) (cuts 32 16 s).length) (cuts 32 16 s).length = s) := HGB
  clear P1 P2 HGB
  generalize cuts 32 16 s = ps at *
  generalize hn : ps.length = n at *
  have HSELF : Hid (w1.ownsRow w.heap.size 3 1 (.slice (some ⟨w.heap.size, 0, none⟩) 0 0) 0 []) := hself
  clear hself
  go_wp2
  go_loopw [4, 6, 7] (fun o l i wr => ∃ (vo : Value) (k : Nat), vo = o ∧ (k = 0 → vo = .slice (some ⟨w.heap.size, 0, none⟩) 0 0) ∧ k ≤ n ∧ i = .int .i64 k ∧ l = .int .i64 (sumTo ps k) ∧ figsOk ps k = true ∧ wr.ownsRow w.heap.size 3 1 o k ((sums ps k).map (Value.int .i64)) ∧ StrRow wr va ps ∧ Below w.heap.size w wr) (fun _ _ i _ => n - (intOf i).toNat)
  case atStart => exact ⟨_, 0, rfl, fun _ => rfl, Nat.zero_le _, rfl, rfl, rfl, HSELF.out, HROW.out, hb1⟩
  case round =>
    clear HSELF HROW
    obtain ⟨vo, k, rfl, hvo0, hk, rfl, rfl, hfo, hown, hrow, hbel⟩ := hrel
    have hsz := hbel.size
    have HFO : Hid (figsOk ps k = true) := hfo
    have hsb := sumTo_bd ps k hfo
    clear hfo
    by_cases hlt : k < n
    · have hkl : (k : Int) < (n : Int) := by omega
      obtain ⟨g, rfl, hg, hc⟩ := hrow (by omega)
      have HROW : Hid (StrRow wr (some ⟨g, 0, none⟩) ps) := hrow
      have hne : vo.ownBlock ≠ some g := by
        by_cases hk0 : k = 0
        · rw [hvo0 hk0]
          intro e
          have h1 := hvb g rfl
          have h2 : w.heap.size = g := Option.some.inj e
          omega
        · rcases hown.2 with ⟨h1, h2⟩ | ⟨g', c, cur, h1, _⟩
          · exact absurd h2 hk0
          · subst h1
            intro e
            cases e
            have q1 := hown.cellAt 0 (by omega)
            have q2 := hc 0 (by omega)
            rw [List.getElem?_map, List.getElem?_eq_getElem (by rw [sums_len]; omega)] at q1
            rw [q2] at q1
            cases q1
      have HNE : Hid (vo.ownBlock ≠ some g) := hne
      clear hne hvo0
      have c2 : wr.cell? ⟨g, k, none⟩ = some (.string (pat ps k)) := hc k (by omega)
      have hpz := HSZ.out k (by omega)
      have HSU : Hid (sumTo ps (k + 1) = sumTo ps k + numB (pat ps k)) := rfl
      have HNF : Hid (figB (pat ps k) = false → partsOk ps = false) := fun h => partsOk_no_fig (by omega) h
      have HSS : Hid (sums ps (k + 1) = sums ps k ++ [((sumTo ps (k + 1) : Nat) : Int)]) := sums_succ ps k
      have HFS : Hid (figB (pat ps k) = true → figsOk ps (k + 1) = true) := fun h => allTo_snoc _ _ HFO.out h
      clear hc hrow
      generalize pat ps k = p at *
      generalize hst : sumTo ps k = st at *
      generalize hst1 : sumTo ps (k + 1) = st1 at *
      have HFG := l1Figures_any p wr hpz
      cases hf : figB p with
      | false =>
        have HA : Hid (∀ a wx, Below w.heap.size w wx → ReadAnsS w wx s (.returned (.tuple #[.slice a 0 0, .bool false]))) := fun a wx hbx => by
          have h := readB_no h0 (by rw [← HP1.out]; exact HNF.out hf)
          exact readAnsS_none h.1 h.2 hbx
        rw [figR_no hf] at HFG
        have HFGH : Hid (Calls Tryd.prog 30 #[.string p] wr fun e w' => e = .returned (.int .i64 (-1)) ∧ w' = wr) := HFG
        clear HFG hown HROW
        go_wp2_with fail
        refine HFGH.out.mono ?_
        rintro e w2 ⟨rfl, rfl⟩
        go_wp2
        go_ret2
        exact HA.out _ _ (hbel.alloc hsz _)
      | true =>
        have hnb := numB_bd p hf
        have HNM : Hid (st1 = st + numB p) := HSU.out
        rw [figR_yes hf] at HFG
        have HFGH : Hid (Calls Tryd.prog 30 #[.string p] wr fun e w' => e = .returned (.int .i64 (numB p : Int)) ∧ w' = wr) := HFG
        clear HFG
        generalize numB p = nb at *
        have hst1' := HNM.out
        have HOW : Hid (wr.ownsRow w.heap.size 3 1 _ k ((sums ps k).map (Value.int .i64))) := hown
        clear hown
        go_wp2_with fail
        refine HFGH.out.mono ?_
        rintro e w2 ⟨rfl, rfl⟩
        go_wp2_with (at_builtin; refine wpList_append_own _ rfl _ _ 23 rfl w.heap.size 3 i0 (.int .i64 0) 1 8 Tryd.underlying23 hi hz0 hz1 hz2 rfl (by decide) _ _ _ rfl (HOW.out.alloc _) ⟨w2.heap.size, 0, none⟩ 1 1 [.int .i64 ((st : Int) + (nb : Int))] rfl rfl (cells_new _ _ _) (int_one _) (by unfold maxLen; omega) (by omega) (by simp; omega) ?_)
        intro v' w3 hown' hgrow _
        have hb4 : Below w.heap.size w w3 := (hbel.alloc hsz _).grown hgrow (by simp; omega) (fun j hj => (HOW.out.lt j hj).1)
        have ho4 : w3.ownsRow w.heap.size 3 1 v' (k + 1) ((sums ps (k + 1)).map (Value.int .i64)) := by
          rw [HSS.out, List.map_append, HNM.out]
          have : (((st + nb : Nat) : Int)) = (st : Int) + (nb : Int) := by omega
          rw [List.map_cons, List.map_nil, this]
          exact hown'
        have hbk : w3.heap[g]? = w2.heap[g]? := (hgrow.block g (by simp; omega) (fun e => HNE.out e.symm)).trans (Below.heap_alloc _ _ _ hg)
        have hrow4 : StrRow w3 (some ⟨g, 0, none⟩) ps := fun hp => by
          obtain ⟨g', e, hg', hc'⟩ := HROW.out hp
          cases e
          exact ⟨g, rfl, by have := hgrow.size; simp at this; omega, fun i hi => (World.cell?_of_block hbk).trans (hc' i hi)⟩
        clear hbk HROW
        clear hown' hgrow HOW
        go_wp2
        go_roundw
        case rel => exact ⟨v', k + 1, rfl, (fun h => by omega), by omega, by go_num, by rw [hst1, HNM.out]; go_num, HFS.out hf, ho4, hrow4, hb4⟩
        case measure => simp [intOf]; omega
    · have hkl : k = n := by omega
      subst hkl
      clear hrow
      have hf : figsOk ps ps.length = true := by rw [hn]; exact HFO.out
      have HPO : Hid (partsOk ps = setB (sums ps k)) := by have := partsOk_set hf; rw [hn] at this; exact this
      have HBK : Hid (gapsTo (sums ps k) k = s) := HGBH.out HFO.out
      obtain ⟨oa, oc, ov, hir⟩ := owns_intRow (zs := sums ps k) (by rw [sums_len]; exact hown)
      rw [sums_len] at ov
      subst ov
      have HSI : Hid (Calls Tryd.prog 24 #[.slice oa k oc] wr fun e w' => e = .returned (.bool (setB (sums ps k))) ∧ Below wr.heap.size wr w') := by
        unfold Hid
        have := setS_any oa oc (sums ps k) wr (by rw [sums_len]; omega) hir
        rw [sums_len] at this
        exact this
      have HIR : Hid (IntRow wr oa (sums ps k)) := hir
      clear hown hir
      cases hset : setB (sums ps k) with
      | false =>
        have HA : Hid (∀ a wx, Below w.heap.size w wx → ReadAnsS w wx s (.returned (.tuple #[.slice a 0 0, .bool false]))) := fun a wx hbx => by
          have h := readB_no h0 (by rw [← HP1.out, HPO.out]; exact hset)
          exact readAnsS_none h.1 h.2 hbx
        rw [hset] at HSI
        go_wp2_with fail
        refine HSI.out.mono ?_
        rintro e w2 ⟨rfl, hb2⟩
        have hbw := hbel.trans (hb2.mono hsz)
        go_wp2
        go_ret2
        exact HA.out _ _ (hbw.alloc hbw.size _)
      | true =>
        have HA : Hid (∀ wx, Below w.heap.size w wx → IntRow wx oa (sums ps k) → ReadAnsS w wx s (.returned (.tuple #[.slice oa k oc, .bool true]))) := fun wx hbx hrx => by
          have hpo : partsOk (parts s) = true := by rw [← HP1.out, HPO.out]; exact hset
          have h := readB_yes h0 hpo
          rw [← HP2.out hpo, hn] at h
          exact readAnsS_some (zs := sums ps k) (sums_len _ _) h.1 h.2 hrx hbx
        rw [hset] at HSI
        go_wp2_with fail
        refine HSI.out.mono ?_
        rintro e w2 ⟨rfl, hb2⟩
        have hbw := hbel.trans (hb2.mono hsz)
        have hir2 := HIR.out.below hb2
        have HG := l3Gaps_any oa oc (sums ps k) w2 hset hir2
        rw [sums_len, HBK.out] at HG
        have HGH : Hid (Calls Tryd.prog 25 #[.slice oa k oc] w2 fun e w' => e = .returned (.string s) ∧ Below w2.heap.size w2 w') := HG
        have HIR2 : Hid (IntRow w2 oa (sums ps k)) := hir2
        clear HG hir2 HIR
        go_wp2_with fail
        refine HGH.out.mono ?_
        rintro e w3 ⟨rfl, hb3⟩
        have hbw3 := hbw.trans (hb3.mono hbw.size)
        have HIR3 : Hid (IntRow w3 oa (sums ps k)) := HIR2.out.below hb3
        clear HIR2
        go_wp2
        go_ret2
        exact HA.out _ hbw3 HIR3.out
end Go.Proofs.YthaobhghbopgkaaDoor
