/- IndexNew of the program and of the model. -/
import Derived.Test.YtlbigfgjalmhiaaFldsOk3
import Derived.Test.YtlbigfgjalmhiaaFldCells
import Derived.Test.YtlbigfgjalmhiaaClone
import Derived.Test.YtlbigfgjalmhiaaCelRows
import Derived.Test.YtlbigfgjalmhiaaBlk
import Derived.Deep.AppendLies
import Derived.Deep.RegionLaw
namespace Go.Proofs.Ytlbigfgjalmhiaa
open Go.RowKit
set_option linter.unusedVariables false

theorem own_set4 {w : World} {base : Nat} {e : TypeId} {size : Nat} {v : Value} {n B : Nat} {xs : List Value} (h : w.ownsRow base e size v n xs) (hB : v.ownBlock ≠ some B) (x0 x1 x2 x3 : Value) : ((((w.setCell ⟨B, 0, none⟩ x0).setCell ⟨B, 1, none⟩ x1).setCell ⟨B, 2, none⟩ x2).setCell ⟨B, 3, none⟩ x3).ownsRow base e size v n xs :=
  (((h.kept (grown_cell _ _ 0 _) (.inr hB)).kept (grown_cell _ _ 1 _) (.inr hB)).kept (grown_cell _ _ 2 _) (.inr hB)).kept (grown_cell _ _ 3 _) (.inr hB)
theorem fieldsB_pos {fs : List Fld} (h : fieldsB fs = true) : 0 < fs.length := by
  rcases Nat.eq_zero_or_pos fs.length with e | e
  · unfold fieldsB at h
    simp [e] at h
  · exact e
theorem row_cells {w : World} {g off : Nat} {fs : List Fld} (h : FldRow w (some ⟨g, off, none⟩) fs) : ∀ j u, (fldCells fs)[j]? = some u → w.cell? ((⟨g, off, none⟩ : Addr).add j) = some u := by
  intro j u hj
  have hlen : j < fs.length * 3 := by rw [← fldCells_len]; exact (List.getElem?_eq_some_iff.1 hj).1
  obtain ⟨g', off', e, hg, hc⟩ := h (by omega)
  cases e
  have hT := fldTo_cells fs (j / 3) (by omega)
  obtain ⟨c0, c1, c2⟩ := hc (j / 3) (by omega)
  rw [addr_add]
  have h3 : j % 3 = 0 ∨ j % 3 = 1 ∨ j % 3 = 2 := by omega
  rcases h3 with h3 | h3 | h3
  · rw [show j = j / 3 * 3 by omega, hT.1] at hj
    rw [show off + j = off + j / 3 * 3 by omega, c0, ← hj]
  · rw [show j = j / 3 * 3 + 1 by omega, hT.2.1] at hj
    rw [show off + j = off + j / 3 * 3 + 1 by omega, c1, ← hj]
  · rw [show j = j / 3 * 3 + 2 by omega, hT.2.2] at hj
    rw [show off + j = off + j / 3 * 3 + 2 by omega, c2, ← hj]
set_option maxHeartbeats 1000000 in
theorem entries_none (m : Option Nat) (w : World) : Calls Try.prog 28 #[.agg #[.map m, .slice none 0 0]] w fun e w' => e = .returned (.slice none 0 0) ∧ Below w.heap.size w w' := by
  go_enter Try.func28, Try.ntmps28
  go_wp2
  refine wp_loop_rounds 1 ?_
  rw [rounds_succ]
  go_wp2
  go_ret
  exact ⟨rfl, (Below.refl _ w).alloc (Nat.le_refl _) _⟩
theorem mk_map (t : TypeId) (w : World) : (Instr.makeMap t none).run Try.prog w = .ok (.map (some w.heap.size)) (w.alloc (.map #[] 0)) := rfl
set_option maxHeartbeats 1000000 in
theorem wordsOf_none (a : Option Addr) (n cap : Nat) (w : World) : Calls Try.prog 27 #[.slice a n cap, .slice none 0 0] w fun e w' => ∃ m, e = .returned (.agg #[.map m, .slice none 0 0]) ∧ Below w.heap.size w w' := by
  have hmm := mk_map
  have hb0 : Below w.heap.size w (((w.alloc (.cells #[.map none, .slice none 0 0] 53)).alloc (.map #[] 0)).alloc (.cells #[.map (some (w.heap.size + 1)), .slice none 0 0] 53)) := (((Below.refl _ w).alloc (Nat.le_refl _) _).alloc (by simp) _).alloc (by simp; omega) _
  go_enter Try.func27, Try.ntmps27
  go_wp2
  refine wp_loop_rounds 1 ?_
  rw [rounds_succ]
  go_wp2
  refine bodyPost_ret (v := .agg #[.map (some (w.heap.size + 1)), .slice none 0 0]) (by simp [results, Try.results27, go_sem]) rfl ⟨_, rfl, ?_⟩
  exact (((Below.refl _ w).alloc (Nat.le_refl _) _).alloc (by simp) _).alloc (by simp; omega) _
theorem ftake_snoc (fs : List Fld) (k : Nat) (h : k < fs.length) : fs.take (k + 1) = fs.take k ++ [fat fs k] := by
  rw [List.take_add_one, List.getElem?_eq_getElem h, fat_get _ _ h]; rfl
set_option maxRecDepth 100000 in
set_option maxHeartbeats 2000000 in
theorem indexOf_any (a : Option Addr) (cap : Nat) (fs : List Fld) (w : World) (hz : fs.length ≤ 1048576) (hsm : FldsSmall fs) (hr : FldRow w a fs) :
    Calls Try.prog 12 #[.slice a fs.length cap, .slice none 0 0, .int .i64 0] w fun e w' => ∃ v, e = .returned (.agg #[v, .slice none 0 0, .slice none 0 0, .int .i64 0]) ∧ w'.ownsRow w.heap.size 60 3 v fs.length (fldCells fs) ∧ Below w.heap.size w w' := by
  obtain ⟨i0, hi, hz0, hz1, hz2⟩ := info_parts infoFld
  have HR : Hid (FldRow w a fs) := hr
  have HSM : Hid (FldsSmall fs) := hsm
  clear hr hsm
  have D0 : Blk ((w.alloc (.cells #[.slice none 0 0, .slice none 0 0, .slice none 0 0, .int .i64 0] 28)).alloc (.cells #[.slice none 0 0, .slice none 0 0, .slice none 0 0, .int .i64 0] 28)) w.heap.size #[.slice none 0 0, .slice none 0 0, .slice none 0 0, .int .i64 0] 28 := (Blk.new w _ _).alloc _
  have X0 : Blk ((w.alloc (.cells #[.slice none 0 0, .slice none 0 0, .slice none 0 0, .int .i64 0] 28)).alloc (.cells #[.slice none 0 0, .slice none 0 0, .slice none 0 0, .int .i64 0] 28)) (w.heap.size + 1) #[.slice none 0 0, .slice none 0 0, .slice none 0 0, .int .i64 0] 28 := by
    have h := Blk.new (w.alloc (.cells #[.slice none 0 0, .slice none 0 0, .slice none 0 0, .int .i64 0] 28)) #[.slice none 0 0, .slice none 0 0, .slice none 0 0, .int .i64 0] 28
    rw [show (w.alloc (.cells #[.slice none 0 0, .slice none 0 0, .slice none 0 0, .int .i64 0] 28)).heap.size = w.heap.size + 1 from by simp] at h
    exact h
  have hb0 : Below w.heap.size w ((w.alloc (.cells #[.slice none 0 0, .slice none 0 0, .slice none 0 0, .int .i64 0] 28)).alloc (.cells #[.slice none 0 0, .slice none 0 0, .slice none 0 0, .int .i64 0] 28)) := ((Below.refl _ w).alloc (Nat.le_refl _) _).alloc (by simp) _
  go_enter Try.func12, Try.ntmps12
  go_wp2
  go_loopw [16] (fun i wr => ∃ (k : Nat) (v : Value), k ≤ fs.length ∧ i = .int .i64 k ∧ wr.ownsRow w.heap.size 60 3 v k (fldCells (fs.take k)) ∧ Blk wr w.heap.size #[.slice none 0 0, .slice none 0 0, .slice none 0 0, .int .i64 0] 28 ∧ Blk wr (w.heap.size + 1) #[v, .slice none 0 0, .slice none 0 0, .int .i64 0] 28 ∧ Below w.heap.size w wr) (fun i _ => fs.length - (intOf i).toNat)
  case atStart => exact ⟨0, _, Nat.zero_le _, rfl, World.ownsRow_nil _ _ _ _, D0, X0, hb0⟩
  case round =>
    obtain ⟨k, v, hk, rfl, hown, hD, hX, hbel⟩ := hrel
    clear D0 X0 hb0
    obtain ⟨vp, vc, rfl⟩ : ∃ p c, v = .slice p k c := by
      rcases hown.2 with ⟨rfl, rfl⟩ | ⟨g, c, cur, rfl, _⟩
      · exact ⟨_, _, rfl⟩
      · exact ⟨_, _, rfl⟩
    have x0 := hX.cell 0
    have x1 := hX.cell 1
    have x2 := hX.cell 2
    have x3 := hX.cell 3
    simp at x0 x1 x2 x3
    by_cases hlt : k < fs.length
    · have hks : (k : Int) < (fs.length : Int) := by omega
      obtain ⟨g, off, rfl, hg, hc⟩ := (HR.out.below hbel) (by omega)
      obtain ⟨c0, c1, c2⟩ := hc k hlt
      have hsz := HSM.out k hlt
      have HTK : Hid (fldCells (fs.take (k + 1)) = fldCells (fs.take k) ++ [.string (fat fs k).name, .int .i64 (fat fs k).kind, .int .i64 (fat fs k).weight]) := by unfold Hid; rw [ftake_snoc _ _ hlt, fldCells_snoc]
      generalize fat fs k = f0 at *
      obtain ⟨t, kd, wt⟩ := f0
      simp only at c0 c1 c2 hsz HTK
      have HO : Hid (wr.ownsRow w.heap.size 60 3 (.slice vp k vc) k (fldCells (fs.take k))) := hown
      have HB : Hid (Below w.heap.size w wr) := hbel
      have HD : Hid (Blk wr w.heap.size #[.slice none 0 0, .slice none 0 0, .slice none 0 0, .int .i64 0] 28) := hD
      have HX : Hid (Blk wr (w.heap.size + 1) #[.slice vp k vc, .slice none 0 0, .slice none 0 0, .int .i64 0] 28) := hX
      have hxl := hX.lt
      have FA := Blk.new wr #[.string t, .int .i64 kd, .int .i64 wt] 60
      have hfl := FA.lt
      have hrl : ∀ j, (Value.slice vp k vc).ownBlock = some j → j < wr.heap.size := fun j hj => (hown.lt j hj).2
      clear hc hown hg hD hX hbel
      go_wp2_with fail
      refine (clone_any t _ (by omega)).mono ?_
      rintro e w3 ⟨rfl, hb3⟩
      have hba : Below wr.heap.size wr (wr.alloc (.cells #[.string t, .int .i64 kd, .int .i64 wt] 60)) := (Below.refl _ wr).alloc (Nat.le_refl _) _
      have hb13 := below_trans hba hb3
      have F3 := FA.below hb3 hfl
      have HO3 : Hid (w3.ownsRow w.heap.size 60 3 (.slice vp k vc) k (fldCells (fs.take k))) := HO.out.kept (grown_none hb13) (Classical.em _)
      have D3 := HD.out.below hb13 HD.out.lt
      have X3 := HX.out.below hb13 HX.out.lt
      have hw3 := below_trans HB.out hb13
      have hs3 := hb3.size
      simp at hs3
      clear FA HO HD HX HB hb3 hba hb13 c0 c1 c2 x0 x1 x2 x3
      have f0 := F3.cell 0
      have z0 := F3.frozen 0
      simp at f0
      obtain ⟨W4, hW4⟩ : ∃ W4, w3.setCell ⟨wr.heap.size, 0, none⟩ (.string t) = W4 := ⟨_, rfl⟩
      have F4 : Blk W4 wr.heap.size #[.string t, .int .i64 kd, .int .i64 wt] 60 := by rw [← hW4]; exact F3.set 0 _
      have D4 : Blk W4 w.heap.size #[.slice none 0 0, .slice none 0 0, .slice none 0 0, .int .i64 0] 28 := by rw [← hW4]; exact D3.other (by show w.heap.size ≠ wr.heap.size; omega) _
      have X4 : Blk W4 (w.heap.size + 1) #[.slice vp k vc, .slice none 0 0, .slice none 0 0, .int .i64 0] 28 := by rw [← hW4]; exact X3.other (by show w.heap.size + 1 ≠ wr.heap.size; omega) _
      have HO4 : Hid (W4.ownsRow w.heap.size 60 3 (.slice vp k vc) k (fldCells (fs.take k))) := by
        unfold Hid
        rw [← hW4]
        exact World.ownsRow.kept HO3.out (grown_cell _ _ 0 _) (.inr (fun e => by have := hrl _ e; omega))
      have hw4 : Below w.heap.size w W4 := by rw [← hW4]; exact hw3.setCell (by show w.heap.size ≤ wr.heap.size; omega) _
      have hs4 : W4.heap.size = w3.heap.size := by rw [← hW4]; simp [World.setCell]
      have HN4 : Hid (∀ j u, [Value.string t, .int .i64 kd, .int .i64 wt][j]? = some u → (W4.alloc (.cells #[.string t, .int .i64 kd, .int .i64 wt] 60)).cell? ((⟨w3.heap.size, 0, none⟩ : Addr).add j) = some u) := by have h := cells_new W4 [Value.string t, .int .i64 kd, .int .i64 wt] 60; rw [hs4] at h; exact h
      have y0 := F4.cell 0
      have y1 := F4.cell 1
      have y2 := F4.cell 2
      have v0 := X4.cell 0
      simp at y0 y1 y2 v0
      clear F3 D3 X3 HO3 hw3
      generalize fldCells (fs.take k) = xs at *
      go_wp2_with (at_builtin; refine wpList_append_own _ rfl _ _ 23 rfl w.heap.size 60 i0 (.agg #[.string ⟨#[]⟩, .int .i64 0, .int .i64 0]) 3 32 Try.underlying23 hi hz0 hz1 hz2 rfl (by decide) _ _ _ rfl (HO4.out.alloc _) ⟨w3.heap.size, 0, none⟩ 1 1 [.string t, .int .i64 kd, .int .i64 wt] rfl rfl HN4.out (three_one _ _ _) (by unfold maxLen; omega) (by omega) (by simp; omega) ?_)
      intro v' w7 hown' hgrow _
      have HO7 : Hid (w7.ownsRow w.heap.size 60 3 v' (k + 1) (fldCells (fs.take (k + 1)))) := by unfold Hid; rw [HTK.out]; exact hown'
      obtain ⟨p7, c7, rfl⟩ : ∃ p c, v' = .slice p (k + 1) c := by
        rcases hown'.2 with ⟨_, h⟩ | ⟨g, c, cur, rfl, _⟩
        · omega
        · exact ⟨_, _, rfl⟩
      have D7 := (D4.alloc _).grown hgrow (fun e => own_type HO4.out D4 (by decide) e.symm)
      have X7 := (X4.alloc _).grown hgrow (fun e => own_type HO4.out X4 (by decide) e.symm)
      have hw4a := hw4.alloc hw4.size (.cells #[.string t, .int .i64 kd, .int .i64 wt] 60)
      have hw7 : Below w.heap.size w w7 := hw4a.grown hgrow hw4a.size (fun j hj => (HO4.out.lt j hj).1)
      have g0 := X7.cell 0
      have q0 := X7.frozen 0
      simp at g0
      have hv := own_type HO7.out X7 (by decide)
      have HO8 : Hid ((w7.setCell ⟨w.heap.size + 1, 0, none⟩ (.slice p7 (k + 1) c7)).ownsRow w.heap.size 60 3 (.slice p7 (k + 1) c7) (k + 1) (fldCells (fs.take (k + 1)))) := World.ownsRow.kept HO7.out (grown_cell _ _ 0 _) (.inr hv)
      have HD8 : Hid (Blk (w7.setCell ⟨w.heap.size + 1, 0, none⟩ (.slice p7 (k + 1) c7)) w.heap.size #[.slice none 0 0, .slice none 0 0, .slice none 0 0, .int .i64 0] 28) := D7.other (by show w.heap.size ≠ w.heap.size + 1; omega) _
      have HX8 : Hid (Blk (w7.setCell ⟨w.heap.size + 1, 0, none⟩ (.slice p7 (k + 1) c7)) (w.heap.size + 1) #[.slice p7 (k + 1) c7, .slice none 0 0, .slice none 0 0, .int .i64 0] 28) := X7.set 0 _
      have hw8 : Below w.heap.size w (w7.setCell ⟨w.heap.size + 1, 0, none⟩ (.slice p7 (k + 1) c7)) := hw7.setCell (Nat.le_succ _) _
      clear hown' hgrow HO4 HN4 D4 X4 F4 y0 y1 y2 v0 D7 X7 hw4 hw4a hw7 HO7 hv HTK hW4 hs4
      go_wp2
      go_roundw
      case rel => exact ⟨k + 1, _, by omega, by go_num, HO8.out, HD8.out, HX8.out, hw8⟩
      case measure => simp [intOf]; omega
    · have hkl : k = fs.length := by omega
      subst hkl
      rw [List.take_of_length_le (Nat.le_refl _)] at hown
      have HO : Hid (wr.ownsRow w.heap.size 60 3 (.slice vp fs.length vc) fs.length (fldCells fs)) := hown
      clear hown x0 x1 x2 x3
      go_wp2
      refine wp_loop_rounds 1 ?_
      rw [rounds_succ]
      go_wp2_with fail
      refine (wordsOf_none a fs.length cap _).mono ?_
      rintro e w2 ⟨m, rfl, hb2⟩
      have D2 := hD.below hb2 hD.lt
      have X2 := hX.below hb2 hX.lt
      have HO2 : Hid (w2.ownsRow w.heap.size 60 3 (.slice vp fs.length vc) fs.length (fldCells fs)) := HO.out.kept (grown_none hb2) (Classical.em _)
      have hw2 := below_trans hbel hb2
      clear hD hX HO hbel hb2
      go_wp2_with fail
      refine (entries_none m _).mono ?_
      rintro e w3 ⟨rfl, hb3⟩
      have D3 := D2.below hb3 D2.lt
      have X3 := X2.below hb3 X2.lt
      have HO3 : Hid (w3.ownsRow w.heap.size 60 3 (.slice vp fs.length vc) fs.length (fldCells fs)) := HO2.out.kept (grown_none hb3) (Classical.em _)
      have hw3 := below_trans hw2 hb3
      clear D2 X2 HO2 hw2 hb3
      have hx := own_type HO3.out X3 (by decide)
      have hd := own_type HO3.out D3 (by decide)
      obtain ⟨W4, hW4⟩ : ∃ W4, w3.setCell ⟨w.heap.size + 1, 2, none⟩ (.slice none 0 0) = W4 := ⟨_, rfl⟩
      have X4 : Blk W4 (w.heap.size + 1) #[.slice vp fs.length vc, .slice none 0 0, .slice none 0 0, .int .i64 0] 28 := by rw [← hW4]; exact X3.set 2 _
      have D4 : Blk W4 w.heap.size #[.slice none 0 0, .slice none 0 0, .slice none 0 0, .int .i64 0] 28 := by rw [← hW4]; exact D3.other (by show w.heap.size ≠ w.heap.size + 1; omega) _
      have HO4 : Hid (W4.ownsRow w.heap.size 60 3 (.slice vp fs.length vc) fs.length (fldCells fs)) := by unfold Hid; rw [← hW4]; exact World.ownsRow.kept HO3.out (grown_cell _ _ 2 _) (.inr hx)
      have hw4 : Below w.heap.size w W4 := by rw [← hW4]; exact hw3.setCell (Nat.le_succ _) _
      have t2 := X3.cell 2
      have z2 := X3.frozen 2
      have r0 := X4.cell 0
      have r1 := X4.cell 1
      have r2 := X4.cell 2
      have r3 := X4.cell 3
      have d0 := D4.cell 0
      have d1 := D4.cell 1
      have d2 := D4.cell 2
      have d3 := D4.cell 3
      have e0 := D4.frozen 0
      have e1 := D4.frozen 1
      have e2 := D4.frozen 2
      have e3 := D4.frozen 3
      simp at t2 r0 r1 r2 r3 d0 d1 d2 d3
      have hd4 := own_type HO4.out D4 (by decide)
      clear D3 HO3 hw3 hx X3
      go_wp2
      refine bodyPost_ret (v := .agg #[.slice vp fs.length vc, .slice none 0 0, .slice none 0 0, .int .i64 0]) (by simp [results, Try.results12, go_sem, d0, d1, d2, d3]) rfl ⟨_, rfl, ?_, ?_⟩
      · exact own_set4 HO4.out hd4 _ _ _ _
      · exact (((hw4.setCell (Nat.le_refl _) _).setCell (Nat.le_refl _) _).setCell (Nat.le_refl _) _).setCell (Nat.le_refl _) _
/-- The fields of a new index. -/
def newF (fs : List Fld) : List Fld := if fieldsB fs = true then fs else []
theorem newF_yes {fs : List Fld} (h : fieldsB fs = true) : newF fs = fs := if_pos h
theorem newF_no {fs : List Fld} (h : fieldsB fs = false) : newF fs = [] := if_neg (by rw [h]; decide)
def NewAns (w w' : World) (fs : List Fld) (e : Ending) : Prop := ∃ v, e = .returned (.tuple #[.agg #[v, .slice none 0 0, .slice none 0 0, .int .i64 0], .bool (fieldsB fs)]) ∧ w'.ownsRow w.heap.size 60 3 v (newF fs).length (fldCells (newF fs)) ∧ Below w.heap.size w w'
set_option maxRecDepth 100000 in
set_option maxHeartbeats 2000000 in
theorem newI_any (a : Option Addr) (cap : Nat) (fs : List Fld) (w : World) (hz : fs.length ≤ 1048576) (hcap : fs.length ≤ cap) (hsm : FldsSmall fs) (hr : FldRow w a fs) :
    Calls Try.prog 5 #[.slice a fs.length cap] w fun e w' => NewAns w w' fs e := by
  have HR : Hid (∀ wx, Below w.heap.size w wx → FldRow wx a fs) := fun wx h => hr.below h
  have HSM : Hid (FldsSmall fs) := hsm
  clear hr hsm
  have D0 := Blk.new w #[.slice none 0 0, .slice none 0 0, .slice none 0 0, .int .i64 0] 28
  have hb0 : Below w.heap.size w (w.alloc (.cells #[.slice none 0 0, .slice none 0 0, .slice none 0 0, .int .i64 0] 28)) := (Below.refl _ w).alloc (Nat.le_refl _) _
  unfold NewAns
  go_enter Try.func5, Try.ntmps5
  go_wp2_with fail
  refine (fieldsI_any a cap fs _ hz hcap HSM.out (HR.out _ hb0)).mono ?_
  rintro e w1 ⟨rfl, hb1⟩
  have D1 := D0.below hb1 D0.lt
  have hw1 := below_trans hb0 hb1
  clear D0 hb0 hb1
  have d0 := D1.cell 0
  have d1 := D1.cell 1
  have d2 := D1.cell 2
  have d3 := D1.cell 3
  have e0 := D1.frozen 0
  have e1 := D1.frozen 1
  have e2 := D1.frozen 2
  have e3 := D1.frozen 3
  simp at d0 d1 d2 d3
  cases hb : fieldsB fs with
  | false =>
    have HF : Hid (newF fs = []) := newF_no hb
    clear HR HSM
    go_wp2
    refine bodyPost_ret (v := .tuple #[.agg #[.slice none 0 0, .slice none 0 0, .slice none 0 0, .int .i64 0], .bool false]) (by simp [results, Try.results5, go_sem, d0, d1, d2, d3]) rfl ⟨.slice none 0 0, by rw [hb], by rw [HF.out]; exact World.ownsRow_nil _ _ _ _, ?_⟩
    exact (((hw1.setCell (Nat.le_refl _) _).setCell (Nat.le_refl _) _).setCell (Nat.le_refl _) _).setCell (Nat.le_refl _) _
  | true =>
    have HF : Hid (newF fs = fs) := newF_yes hb
    go_wp2_with fail
    refine (indexOf_any a cap fs _ hz HSM.out (HR.out _ hw1)).mono ?_
    rintro e w2 ⟨v, rfl, ho, hb2⟩
    obtain ⟨p, c, rfl⟩ : ∃ p c, v = .slice p fs.length c := by
      rcases ho.2 with ⟨rfl, h⟩ | ⟨g, c, cur, rfl, _⟩
      · exact ⟨none, 0, by rw [h]⟩
      · exact ⟨_, _, rfl⟩
    have D2 := D1.below hb2 D1.lt
    have hw2 := below_trans hw1 hb2
    have HO : Hid (w2.ownsRow w.heap.size 60 3 (.slice p fs.length c) (newF fs).length (fldCells (newF fs))) := by unfold Hid; rw [HF.out]; exact ownsRow_mono ho hw1.size
    have hd := own_type ho D2 (by decide)
    clear D1 hb2 hw1 d0 d1 d2 d3 e0 e1 e2 e3 ho HR HSM
    have d0 := D2.cell 0
    have d1 := D2.cell 1
    have d2 := D2.cell 2
    have d3 := D2.cell 3
    have e0 := D2.frozen 0
    have e1 := D2.frozen 1
    have e2 := D2.frozen 2
    have e3 := D2.frozen 3
    simp at d0 d1 d2 d3
    go_wp2
    refine bodyPost_ret (v := .tuple #[.agg #[.slice p fs.length c, .slice none 0 0, .slice none 0 0, .int .i64 0], .bool true]) (by simp [results, Try.results5, go_sem, d0, d1, d2, d3]) rfl ⟨.slice p fs.length c, by rw [hb], ?_, ?_⟩
    · exact own_set4 HO.out hd _ _ _ _
    · exact (((hw2.setCell (Nat.le_refl _) _).setCell (Nat.le_refl _) _).setCell (Nat.le_refl _) _).setCell (Nat.le_refl _) _
set_option maxRecDepth 100000 in
set_option maxHeartbeats 2000000 in
theorem newS_any (a : Option Addr) (cap : Nat) (fs : List Fld) (w : World) (hz : fs.length ≤ 1048576) (hsm : FldsSmall fs) (hr : FldRow w a fs) :
    Calls Try.prog 6 #[.slice a fs.length cap] w fun e w' => NewAns w w' fs e := by
  obtain ⟨i0, hi, hz0, hz1, hz2⟩ := info_parts infoFld
  have HR : Hid (∀ wx, Below w.heap.size w wx → FldRow wx a fs) := fun wx h => hr.below h
  have HSM : Hid (FldsSmall fs) := hsm
  clear hr hsm
  have D0 := Blk.new w #[.slice none 0 0, .slice none 0 0, .slice none 0 0, .int .i64 0] 28
  have hb0 : Below w.heap.size w (w.alloc (.cells #[.slice none 0 0, .slice none 0 0, .slice none 0 0, .int .i64 0] 28)) := (Below.refl _ w).alloc (Nat.le_refl _) _
  unfold NewAns
  go_enter Try.func6, Try.ntmps6
  go_wp2_with fail
  refine (fieldsS_any a cap fs _ hz HSM.out (HR.out _ hb0)).mono ?_
  rintro e w1 ⟨rfl, hb1⟩
  have D1 := D0.below hb1 D0.lt
  have hw1 := below_trans hb0 hb1
  clear D0 hb0 hb1
  cases hb : fieldsB fs with
  | false =>
    have d0 := D1.cell 0
    have d1 := D1.cell 1
    have d2 := D1.cell 2
    have d3 := D1.cell 3
    have e0 := D1.frozen 0
    have e1 := D1.frozen 1
    have e2 := D1.frozen 2
    have e3 := D1.frozen 3
    simp at d0 d1 d2 d3
    have HF : Hid (newF fs = []) := newF_no hb
    clear HR HSM
    go_wp2
    refine bodyPost_ret (v := .tuple #[.agg #[.slice none 0 0, .slice none 0 0, .slice none 0 0, .int .i64 0], .bool false]) (by simp [results, Try.results6, go_sem, d0, d1, d2, d3]) rfl ⟨.slice none 0 0, by rw [hb], by rw [HF.out]; exact World.ownsRow_nil _ _ _ _, ?_⟩
    exact (((hw1.setCell (Nat.le_refl _) _).setCell (Nat.le_refl _) _).setCell (Nat.le_refl _) _).setCell (Nat.le_refl _) _
  | true =>
    have HF : Hid (newF fs = fs) := newF_yes hb
    have hpos := fieldsB_pos hb
    obtain ⟨g, off, rfl, hg, hc⟩ := (HR.out _ hw1) hpos
    have HN : Hid (∀ j u, (fldCells fs)[j]? = some u → (w1.alloc (.cells #[] 60)).cell? ((⟨g, off, none⟩ : Addr).add j) = some u) := row_cells ((HR.out _ hw1).below ((Below.refl _ w1).alloc (Nat.le_refl _) _))
    have HL : Hid ((w1.alloc (.cells #[] 60)).ownsRow w.heap.size 60 3 (.slice (some ⟨w1.heap.size, 0, none⟩) 0 0) 0 []) := ownsRow_mono (World.ownsRow_lit w1 #[] 0 (Nat.le_refl _) (by decide) rfl) hw1.size
    have HCL : Hid ((fldCells fs).length = fs.length * 3) := fldCells_len fs
    have hw1a := hw1.alloc hw1.size (.cells #[] 60)
    clear HR HSM hc hg
    go_wp2_with (at_builtin; refine wpList_append_own _ rfl _ _ 23 rfl w.heap.size 60 i0 (.agg #[.string ⟨#[]⟩, .int .i64 0, .int .i64 0]) 3 32 Try.underlying23 hi hz0 hz1 hz2 rfl (by decide) _ _ _ rfl HL.out ⟨g, off, none⟩ fs.length cap (fldCells fs) rfl HCL.out HN.out (flds_one _) (by unfold maxLen; omega) (by omega) (by simp; have := hw1.size; omega) ?_)
    intro v' w7 hown' hgrow _
    have HO7 : Hid (w7.ownsRow w.heap.size 60 3 v' fs.length (fldCells fs)) := by unfold Hid; simpa using hown'
    obtain ⟨p, c, rfl⟩ : ∃ p c, v' = .slice p fs.length c := by
      rcases HO7.out.2 with ⟨_, h⟩ | ⟨g, c, cur, rfl, _⟩
      · omega
      · exact ⟨_, _, rfl⟩
    have D2 := (D1.alloc _).grown hgrow (fun e => own_type HL.out (D1.alloc _) (by decide) e.symm)
    have hw2 : Below w.heap.size w w7 := hw1a.grown hgrow hw1a.size (fun j hj => (HL.out.lt j hj).1)
    have HO : Hid (w7.ownsRow w.heap.size 60 3 (.slice p fs.length c) (newF fs).length (fldCells (newF fs))) := by unfold Hid; rw [HF.out]; exact HO7.out
    have hd := own_type HO7.out D2 (by decide)
    have d0 := D2.cell 0
    have d1 := D2.cell 1
    have d2 := D2.cell 2
    have d3 := D2.cell 3
    have e0 := D2.frozen 0
    have e1 := D2.frozen 1
    have e2 := D2.frozen 2
    have e3 := D2.frozen 3
    simp at d0 d1 d2 d3
    clear hown' hgrow HL HN HCL D1 hw1 hw1a HO7
    go_wp2
    refine bodyPost_ret (v := .tuple #[.agg #[.slice p fs.length c, .slice none 0 0, .slice none 0 0, .int .i64 0], .bool true]) (by simp [results, Try.results6, go_sem, d0, d1, d2, d3]) rfl ⟨.slice p fs.length c, by rw [hb], ?_, ?_⟩
    · exact own_set4 HO.out hd _ _ _ _
    · exact (((hw2.setCell (Nat.le_refl _) _).setCell (Nat.le_refl _) _).setCell (Nat.le_refl _) _).setCell (Nat.le_refl _) _
end Go.Proofs.Ytlbigfgjalmhiaa
