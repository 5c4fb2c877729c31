/- Copies of an index, in memory of their own. -/
import Derived.Test.YtbifagdcnpnpjaaGreatIdx
import Derived.Test.YtbifagdcnpnpjaaGreatToInts
import Derived.Test.YtbifagdcnpnpjaaGreatIdxSz
namespace Go.Proofs.YtbifagdcnpnpjaaGreat
open Go.RowKit
set_option linter.unusedVariables false

theorem El.set {α : Type} (E : El α) {w : World} {c : List Value} {a : α} {fp : List Nat} (h : E.own w c a fp) {p : Addr} (hp : p.block ∉ fp) (v : Value) : E.own (w.setCell p v) c a fp :=
  E.kept h fun b hb => Below.heap_setCell _ _ _ _ (fun e => hp (by rw [← e]; exact hb))
theorem celCells_two (cs : List Cel) : (celCells cs).length = cs.length * 2 := by
  induction cs with
  | nil => rfl
  | cons c cs ih => rw [celCells_cons, List.length_cons, List.length_cons, ih, List.length_cons]; omega
theorem celTo_eq {xs : List Value} {cs : List Cel} (h : CelTo xs cs cs.length) (hl : xs.length = cs.length * 2) : xs = celCells cs := by
  have h' := celTo_cells cs
  apply List.ext_getElem?
  intro j
  by_cases hj : j < cs.length * 2
  · have e : j = j / 2 * 2 ∨ j = j / 2 * 2 + 1 := by omega
    obtain ⟨a0, a1⟩ := h (j / 2) (by omega)
    obtain ⟨b0, b1⟩ := h' (j / 2) (by omega)
    rcases e with e | e
    · rw [e, a0, b0]
    · rw [e, a1, b1]
  · rw [List.getElem?_eq_none (by omega), List.getElem?_eq_none (by rw [celCells_two]; omega)]
theorem fldTo_eq {xs : List Value} {fs : List Fld} (h : FldTo xs fs fs.length) (hl : xs.length = fs.length * 3) : xs = fldCells fs := by
  have h' := fldTo_cells fs
  apply List.ext_getElem?
  intro j
  by_cases hj : j < fs.length * 3
  · have e : j = j / 3 * 3 ∨ j = j / 3 * 3 + 1 ∨ j = j / 3 * 3 + 2 := by omega
    obtain ⟨a0, a1, a2⟩ := h (j / 3) (by omega)
    obtain ⟨b0, b1, b2⟩ := h' (j / 3) (by omega)
    rcases e with e | e | e
    · rw [e, a0, b0]
    · rw [e, a1, b1]
    · rw [e, a2, b2]
  · rw [List.getElem?_eq_none (by omega), List.getElem?_eq_none (by rw [fldCells_len]; omega)]
/-- A row of which the first k are made. -/
structure GPart {α : Type} (E : El α) (w : World) (B n : Nat) (xs : List Value) (ls : List α) (fps : Nat → List Nat) (k : Nat) : Prop where
  row : w.ownsRow B E.ty E.size (.slice (some ⟨B, 0, none⟩) ls.length n) ls.length xs
  el : ∀ i a, i < k → ls[i]? = some a → E.own w (grp xs E.size i) a (fps i) ∧ ∀ b ∈ fps i, B < b
  nd : ∀ i j, i < k → j < k → i ≠ j → ∀ b, b ∈ fps i → b ∉ fps j
theorem GPart.start {α : Type} {E : El α} {w : World} {B n : Nat} {xs : List Value} {ls : List α} (h : w.ownsRow B E.ty E.size (.slice (some ⟨B, 0, none⟩) ls.length n) ls.length xs) : GPart E w B n xs ls (fun _ => []) 0 :=
  ⟨h, fun i a hi => by omega, fun i j hi => by omega⟩
theorem GPart.step {α : Type} {E : El α} {w w2 w3 : World} {B n k : Nat} {xs xs' c : List Value} {ls : List α} {fps : Nat → List Nat} {a : α} {fp : List Nat} (h : GPart E w B n xs ls fps k) (hb2 : Below w.heap.size w w2) (hk : ls[k]? = some a)
    (hq : E.own w2 c a fp) (hf : ∀ b ∈ fp, w.heap.size ≤ b) (ho : w3.ownsRow B E.ty E.size (.slice (some ⟨B, 0, none⟩) ls.length n) ls.length xs') (hx : grp xs' E.size k = c) (hx2 : ∀ i, i ≠ k → grp xs' E.size i = grp xs E.size i)
    (hb : ∀ b, b ≠ B → w3.heap[b]? = w2.heap[b]?) : GPart E w3 B n xs' ls (fun i => if i = k then fp else fps i) (k + 1) := by
  have hB : B < w.heap.size := (h.row.lt B rfl).2
  have hfo : ∀ i, i < k → ∀ b ∈ fps i, B < b ∧ b < w.heap.size := fun i hi b hb => by
    have hkl := (List.getElem?_eq_some_iff.1 hk).1
    obtain ⟨h1, h2⟩ := h.el i ls[i] hi (List.getElem?_eq_getElem (by omega))
    exact ⟨h2 b hb, E.lt h1 b hb⟩
  refine ⟨ho, fun i a' hi ha => ?_, fun i j hi hj hne b hb1 hb2' => ?_⟩
  · by_cases e : i = k
    · subst e
      rw [hk] at ha
      cases ha
      simp only [if_pos]
      rw [hx]
      exact ⟨E.kept hq fun b hb1 => hb b (fun e => by have := hf b hb1; omega), fun b hb1 => by have := hf b hb1; omega⟩
    · simp only [if_neg e]
      rw [hx2 i e]
      obtain ⟨h1, h2⟩ := h.el i a' (by omega) ha
      exact ⟨E.kept h1 fun b hb1 => (hb b (fun e2 => by have := h2 b hb1; omega)).trans (hb2.block b (E.lt h1 b hb1)), h2⟩
  · by_cases e : i = k
    · rw [if_pos e] at hb1
      rw [if_neg (by omega)] at hb2'
      have := hf b hb1
      have := hfo j (by omega) b hb2'
      omega
    · rw [if_neg e] at hb1
      by_cases e2 : j = k
      · rw [if_pos e2] at hb2'
        have := hf b hb2'
        have := hfo i (by omega) b hb1
        omega
      · rw [if_neg e2] at hb2'
        exact h.nd i j (by omega) (by omega) hne b hb1 hb2'
theorem GPart.row_of {α : Type} {E : El α} {w : World} {B n : Nat} {xs : List Value} {ls : List α} {fps : Nat → List Nat} (h : GPart E w B n xs ls fps ls.length) : GRow E w B (.slice (some ⟨B, 0, none⟩) ls.length n) xs ls fps :=
  .make h.row (fun i a hi => by
    obtain ⟨h1, h2⟩ := h.el i a (List.getElem?_eq_some_iff.1 hi).1 hi
    exact ⟨h1, fun b hb => Nat.le_of_lt (h2 b hb)⟩) h.nd (fun g hg i hi hm => by
    cases hg
    have := (h.el i ls[i] hi (List.getElem?_eq_getElem hi)).2 B hm
    omega)
theorem infoPst : (Tryz.prog.info? 107).map (fun i => (i.zero, i.size, i.bytes)) = some (some (.agg #[.int .i64 0, .slice none 0 0]), 2, 32) := by kernel_rfl
theorem infoEnt : (Tryz.prog.info? 99).map (fun i => (i.zero, i.size, i.bytes)) = some (some (.agg #[.string ⟨#[]⟩, .string ⟨#[]⟩, .slice none 0 0]), 3, 56) := by kernel_rfl
theorem infoRw : (Tryz.prog.info? 69).map (fun i => (i.zero, i.size, i.bytes)) = some (some (.agg #[.int .i64 0, .string ⟨#[]⟩, .slice none 0 0]), 3, 48) := by kernel_rfl

theorem toPost_any (q : Option Addr) (c : Nat) (p : Pst) (w : World) (hz : p.ats.length ≤ 1048576) (hr : IntRow w q p.ats) :
    Calls Tryz.prog 133 #[.agg #[.int .i64 p.doc, .slice q p.ats.length c]] w fun e w' => ∃ q' c' fp, e = .returned (.agg #[.int .i64 p.doc, .slice q' p.ats.length c']) ∧ pstEl.own w' [.int .i64 p.doc, .slice q' p.ats.length c'] p fp ∧ (∀ b ∈ fp, w.heap.size ≤ b) ∧ Below w.heap.size w w' := by
  obtain ⟨d, zs⟩ := p
  simp only at hz hr ⊢
  have hb0 : Below w.heap.size w (((w.alloc (.cells #[.int .i64 d, .slice q zs.length c] 169)).alloc (.cells #[.int .i64 0, .slice none 0 0] 107)).alloc (.cells #[.int .i64 d, .slice none 0 0] 107)) := (((Below.refl _ w).alloc (Nat.le_refl _) _).alloc (by simp) _).alloc (by simp; omega) _
  have r0 := hr.below hb0
  clear hr
  have HB0 : Hid (Below w.heap.size w (((w.alloc (.cells #[.int .i64 d, .slice q zs.length c] 169)).alloc (.cells #[.int .i64 0, .slice none 0 0] 107)).alloc (.cells #[.int .i64 d, .slice none 0 0] 107))) := hb0
  clear hb0
  go_enter Tryz.func133, Tryz.ntmps133
  go_wp2_with fail
  refine (toIntS_any q c zs _ (by omega) r0).mono ?_
  rintro e w2 ⟨v, rfl, ho, hb2⟩
  obtain ⟨hcl, hfz⟩ := bcell hb2
  have hz2 : w.heap.size + 3 ≤ w2.heap.size := by have := hb2.size; simp at this; omega
  have hbw : Below w.heap.size w w2 := HB0.out.trans (hb2.mono (by simp; omega))
  obtain ⟨q', c', rfl, _, _, _, hq'⟩ := row_val ho
  have HO : Hid (pstEl.own w2 [.int .i64 d, .slice q' zs.length c'] ⟨d, zs⟩ (Value.ownBlock (.slice q' zs.length c')).toList) := ⟨_, rfl, ownsRow_mono ho (Nat.zero_le _), rfl⟩
  have HF : Hid (∀ b ∈ (Value.ownBlock (.slice q' zs.length c')).toList, w.heap.size + 3 ≤ b) := fun b hb => by
    rw [Option.mem_toList] at hb
    have := (ho.lt b hb).1
    simp at this
    omega
  clear HB0 ho r0 hb2 hq'
  go_wp2
  refine bodyPost_ret (v := .agg #[.int .i64 d, .slice q' zs.length c']) (by simp [results, Tryz.results133, go_sem, hcl]) rfl ⟨q', c', _, rfl, ?_, fun b hb => by have := HF.out b hb; omega, ?_⟩
  · exact El.set _ (El.set _ (El.set _ HO.out (fun h => by have := HF.out _ h; simp at this <;> omega) _) (fun h => by have := HF.out _ h; simp at this <;> omega) _) (fun h => by have := HF.out _ h; simp at this <;> omega) _
  · exact ((hbw.setCell (by show w.heap.size ≤ w.heap.size + 1 + 1; omega) _).setCell (by show w.heap.size ≤ w.heap.size + 1; omega) _).setCell (by show w.heap.size ≤ w.heap.size + 1; omega) _

set_option maxRecDepth 100000 in
set_option maxHeartbeats 1000000 in
theorem toPostS_any (a : Option Addr) (cap : Nat) (ls : List Pst) (w : World) (hz : ls.length ≤ 1048576) (hsm : ∀ x ∈ ls, PstSm x) (hr : PstRow w a ls) :
    Calls Tryz.prog 116 #[.slice a ls.length cap] w fun e w' => ∃ v xs fps, e = .returned v ∧ GRow pstEl w' w.heap.size v xs ls fps ∧ Below w.heap.size w w' := by
  obtain ⟨i0, hi, hz0, hz1, hz2⟩ := info_parts infoPst
  go_enter Tryz.func116, Tryz.ntmps116
  go_wp2_with (refine wpList_make_full _ rfl _ _ 61 rfl w.heap.size 107 i0 (.agg #[.int .i64 0, .slice none 0 0]) 2 Tryz.underlying61 hi hz0 hz1 .i64 .i64 _ _ ls.length rfl rfl rfl rfl (by rw [hz2]; omega) (by unfold maxLen; omega) (Nat.le_refl _) ?_; intro w1 hown1 hgrow1)
  have hb1 : Below w.heap.size w w1 := (Below.refl _ w).grown hgrow1 (Nat.le_refl _) (fun j hj => by cases hj)
  generalize (madeCells (Value.agg #[.int .i64 0, .slice none 0 0]).cells (ls.length * 2)).toList = x0 at hown1
  have HO : Hid (GPart pstEl w1 w.heap.size ls.length x0 ls (fun _ => []) 0) := .start hown1
  clear hown1 hgrow1
  go_wp2
  go_loopw [4] (fun i wr => ∃ (k : Nat) (xs : List Value) (fps : Nat → List Nat), k ≤ ls.length ∧ i = .int .i64 k ∧ GPart pstEl wr w.heap.size ls.length xs ls fps k ∧ Below w.heap.size w wr) (fun i _ => ls.length - (intOf i).toNat)
  case atStart => exact ⟨0, x0, _, Nat.zero_le _, rfl, HO.out, hb1⟩
  case round =>
    clear HO
    obtain ⟨k, xs, fps, hk, rfl, hown, hbel⟩ := hrel
    by_cases hlt : k < ls.length
    · obtain ⟨g, off, rfl, hg, hc⟩ := (hr.below hbel) (by omega)
      have hget : ls[k]? = some ls[k] := List.getElem?_eq_getElem hlt
      have HS : Hid (PstSm ls[k]) := hsm _ (List.getElem_mem hlt)
      obtain ⟨q, c, c0, c1, hcl, hrow⟩ := hc k ls[k] hget
      have HR : Hid (IntRow wr q ls[k].ats) := hrow
      have hxl : xs.length = ls.length * 2 := hown.row.1
      have HOW : Hid (GPart pstEl wr w.heap.size ls.length xs ls fps k) := hown
      have HG : Hid (ls[k]? = some ls[k]) := hget
      clear hr hc hsm hrow hown hget
      have HGE : Hid (∀ x, x = ls[k] → ls[k]? = some x) := fun x e => by rw [e]; exact HG.out
      clear HG
      obtain ⟨el, hel⟩ : ∃ el, el = ls[k] := ⟨_, rfl⟩
      rw [← hel] at HS c0 c1 HR hcl
      have HG : Hid (ls[k]? = some el) := HGE.out el hel
      clear HGE hel
      go_wp2_with fail
      refine (toPost_any q c el _ HS.out HR.out).mono ?_
      rintro e w2 ⟨q', c', fp, rfl, hq, hf, hb2⟩
      have HQ : Hid (pstEl.own w2 [.int .i64 el.doc, .slice q' el.ats.length c'] el fp) := hq
      have HF : Hid (∀ b ∈ fp, wr.heap.size ≤ b) := hf
      have ho2 : w2.ownsRow w.heap.size 107 2 (.slice (some ⟨w.heap.size, 0, none⟩) ls.length ls.length) ls.length xs := HOW.out.row.kept (grown_none hb2) (Classical.em _)
      obtain ⟨ho3, hg3⟩ := ho2.stored (k * 2) (.int .i64 el.doc)
      obtain ⟨ho4, hg4⟩ := ho3.stored (k * 2 + 1) (.slice q' el.ats.length c')
      have d0 := ho2.cellAt (k * 2) (by omega)
      rw [List.getElem?_eq_getElem (by omega)] at d0
      have f0 := ho2.frozenAt (k * 2)
      generalize xs[k * 2] = o0 at d0
      have d1 := ho2.cellAt (k * 2 + 1) (by omega)
      rw [List.getElem?_eq_getElem (by omega)] at d1
      have f1 := ho2.frozenAt (k * 2 + 1)
      generalize xs[k * 2 + 1] = o1 at d1
      have HB4 : Hid (Below w.heap.size w ((w2.setCell ⟨w.heap.size, k * 2, none⟩ (.int .i64 el.doc)).setCell ⟨w.heap.size, k * 2 + 1, none⟩ (.slice q' el.ats.length c'))) :=
        (((hbel.trans (hb2.mono hbel.size)).setCell (Nat.le_refl _) _).setCell (Nat.le_refl _) _)
      have HO4 : Hid (GPart pstEl ((w2.setCell ⟨w.heap.size, k * 2, none⟩ (.int .i64 el.doc)).setCell ⟨w.heap.size, k * 2 + 1, none⟩ (.slice q' el.ats.length c')) w.heap.size ls.length ((xs.set (k * 2) (.int .i64 el.doc)).set (k * 2 + 1) (.slice q' el.ats.length c')) ls (fun i => if i = k then fp else fps i) (k + 1)) := by
        refine HOW.out.step hb2 HG.out HQ.out HF.out ho4 ?_ (fun i hne => ?_) (fun b hne => ?_)
        · apply List.ext_getElem?
          intro j
          show (grp _ 2 k)[j]? = _
          by_cases hj : j < 2
          · rw [grp_get hj]
            have hj' : j = 0 ∨ j = 1 := by omega
            rcases hj' with rfl | rfl <;> simp [List.getElem?_set] <;> omega
          · unfold grp
            rw [List.getElem?_take, if_neg hj, List.getElem?_eq_none (by simp; omega)]
        · have hoff : ∀ o, o < 2 → k * 2 + o < i * 2 ∨ (i + 1) * 2 ≤ k * 2 + o := fun o ho => by omega
          show grp _ 2 i = grp _ 2 i
          rw [grp_set_other (hoff 1 (by decide)), grp_set_other (by have := hoff 0 (by decide); simpa using this)]
        · exact (Below.heap_setCell _ _ _ _ hne).trans (Below.heap_setCell _ _ _ _ hne)
      clear ho2 ho3 hg3 ho4 hg4 HOW HQ HF hq hf HR c0 c1
      go_wp2
      go_roundw
      case rel => exact ⟨k + 1, _, _, by omega, by go_num, HO4.out, HB4.out⟩
      case measure => simp [intOf]; omega
    · have hkl : k = ls.length := by omega
      subst hkl
      have HO : Hid (GRow pstEl wr w.heap.size (.slice (some ⟨w.heap.size, 0, none⟩) ls.length ls.length) xs ls fps) := hown.row_of
      clear hr hown
      go_wp2
      go_ret
      exact ⟨_, xs, fps, rfl, HO.out, hbel⟩

theorem toEntry_any (q : Option Addr) (c : Nat) (x : Ent) (w : World) (hz : EntSm x) (hr : PstRow w q x.posts) :
    Calls Tryz.prog 89 #[.agg #[.string x.field, .string x.term, .slice q x.posts.length c]] w fun e w' => ∃ q' c' fp, e = .returned (.agg #[.string x.field, .string x.term, .slice q' x.posts.length c']) ∧ entEl.own w' [.string x.field, .string x.term, .slice q' x.posts.length c'] x fp ∧ (∀ b ∈ fp, w.heap.size ≤ b) ∧ Below w.heap.size w w' := by
  obtain ⟨f, t, ps⟩ := x
  obtain ⟨_, _, hz⟩ := hz
  simp only at hz hr ⊢
  have hb0 : Below w.heap.size w (((w.alloc (.cells #[.string f, .string t, .slice q ps.length c] 118)).alloc (.cells #[.string ⟨#[]⟩, .string ⟨#[]⟩, .slice none 0 0] 99)).alloc (.cells #[.string f, .string t, .slice none 0 0] 99)) := (((Below.refl _ w).alloc (Nat.le_refl _) _).alloc (by simp) _).alloc (by simp; omega) _
  have r0 := hr.below hb0
  clear hr
  have HZ : Hid (PstsSm ps) := hz
  clear hz
  have HB0 : Hid (Below w.heap.size w (((w.alloc (.cells #[.string f, .string t, .slice q ps.length c] 118)).alloc (.cells #[.string ⟨#[]⟩, .string ⟨#[]⟩, .slice none 0 0] 99)).alloc (.cells #[.string f, .string t, .slice none 0 0] 99))) := hb0
  clear hb0
  go_enter Tryz.func89, Tryz.ntmps89
  go_wp2_with fail
  refine (toPostS_any q c ps _ HZ.out.1 HZ.out.2 r0).mono ?_
  rintro e w2 ⟨v, xs, fps, rfl, ho, hb2⟩
  obtain ⟨hcl, hfz⟩ := bcell hb2
  have hz2 : w.heap.size + 3 ≤ w2.heap.size := by have := hb2.size; simp at this; omega
  have hbw : Below w.heap.size w w2 := HB0.out.trans (hb2.mono (by simp; omega))
  obtain ⟨q', c', rfl, _, _, _, hq'⟩ := row_val ho.row
  have HO : Hid (entEl.own w2 [.string f, .string t, .slice q' ps.length c'] ⟨f, t, ps⟩ (footOf (.slice q' ps.length c') fps ps.length)) := ⟨_, rfl, ho.sl⟩
  have HF : Hid (∀ b ∈ footOf (.slice q' ps.length c') fps ps.length, w.heap.size + 3 ≤ b) := fun b hb => by
    have := (ho.lt b hb).1
    simp at this
    omega
  clear HB0 ho r0 hb2 hq'
  go_wp2
  refine bodyPost_ret (v := .agg #[.string f, .string t, .slice q' ps.length c']) (by simp [results, Tryz.results89, go_sem, hcl]) rfl ⟨q', c', _, rfl, ?_, fun b hb => by have := HF.out b hb; omega, ?_⟩
  · exact El.set _ (El.set _ (El.set _ (El.set _ HO.out (fun h => by have := HF.out _ h; simp at this <;> omega) _) (fun h => by have := HF.out _ h; simp at this <;> omega) _) (fun h => by have := HF.out _ h; simp at this <;> omega) _) (fun h => by have := HF.out _ h; simp at this <;> omega) _
  · exact (((hbw.setCell (by show w.heap.size ≤ w.heap.size + 1 + 1; omega) _).setCell (by show w.heap.size ≤ w.heap.size + 1; omega) _).setCell (by show w.heap.size ≤ w.heap.size + 1; omega) _).setCell (by show w.heap.size ≤ w.heap.size + 1; omega) _

set_option maxRecDepth 100000 in
set_option maxHeartbeats 1000000 in
theorem toEntryS_any (a : Option Addr) (cap : Nat) (ls : List Ent) (w : World) (hz : ls.length ≤ 1048576) (hsm : ∀ x ∈ ls, EntSm x) (hr : EntRow w a ls) :
    Calls Tryz.prog 48 #[.slice a ls.length cap] w fun e w' => ∃ v xs fps, e = .returned v ∧ GRow entEl w' w.heap.size v xs ls fps ∧ Below w.heap.size w w' := by
  obtain ⟨i0, hi, hz0, hz1, hz2⟩ := info_parts infoEnt
  go_enter Tryz.func48, Tryz.ntmps48
  go_wp2_with (refine wpList_make_full _ rfl _ _ 31 rfl w.heap.size 99 i0 (.agg #[.string ⟨#[]⟩, .string ⟨#[]⟩, .slice none 0 0]) 3 Tryz.underlying31 hi hz0 hz1 .i64 .i64 _ _ ls.length rfl rfl rfl rfl (by rw [hz2]; omega) (by unfold maxLen; omega) (Nat.le_refl _) ?_; intro w1 hown1 hgrow1)
  have hb1 : Below w.heap.size w w1 := (Below.refl _ w).grown hgrow1 (Nat.le_refl _) (fun j hj => by cases hj)
  generalize (madeCells (Value.agg #[.string ⟨#[]⟩, .string ⟨#[]⟩, .slice none 0 0]).cells (ls.length * 3)).toList = x0 at hown1
  have HO : Hid (GPart entEl w1 w.heap.size ls.length x0 ls (fun _ => []) 0) := .start hown1
  clear hown1 hgrow1
  go_wp2
  go_loopw [4] (fun i wr => ∃ (k : Nat) (xs : List Value) (fps : Nat → List Nat), k ≤ ls.length ∧ i = .int .i64 k ∧ GPart entEl wr w.heap.size ls.length xs ls fps k ∧ Below w.heap.size w wr) (fun i _ => ls.length - (intOf i).toNat)
  case atStart => exact ⟨0, x0, _, Nat.zero_le _, rfl, HO.out, hb1⟩
  case round =>
    clear HO
    obtain ⟨k, xs, fps, hk, rfl, hown, hbel⟩ := hrel
    by_cases hlt : k < ls.length
    · obtain ⟨g, off, rfl, hg, hc⟩ := (hr.below hbel) (by omega)
      have hget : ls[k]? = some ls[k] := List.getElem?_eq_getElem hlt
      have HS : Hid (EntSm ls[k]) := hsm _ (List.getElem_mem hlt)
      obtain ⟨q, c, c0, c1, c2, hcl, hrow⟩ := hc k ls[k] hget
      have HR : Hid (PstRow wr q ls[k].posts) := hrow
      have hxl : xs.length = ls.length * 3 := hown.row.1
      have HOW : Hid (GPart entEl wr w.heap.size ls.length xs ls fps k) := hown
      have HG : Hid (ls[k]? = some ls[k]) := hget
      clear hr hc hsm hrow hown hget
      have HGE : Hid (∀ x, x = ls[k] → ls[k]? = some x) := fun x e => by rw [e]; exact HG.out
      clear HG
      obtain ⟨el, hel⟩ : ∃ el, el = ls[k] := ⟨_, rfl⟩
      rw [← hel] at HS c0 c1 c2 HR hcl
      have HG : Hid (ls[k]? = some el) := HGE.out el hel
      clear HGE hel
      go_wp2_with fail
      refine (toEntry_any q c el _ HS.out HR.out).mono ?_
      rintro e w2 ⟨q', c', fp, rfl, hq, hf, hb2⟩
      have HQ : Hid (entEl.own w2 [.string el.field, .string el.term, .slice q' el.posts.length c'] el fp) := hq
      have HF : Hid (∀ b ∈ fp, wr.heap.size ≤ b) := hf
      have ho2 : w2.ownsRow w.heap.size 99 3 (.slice (some ⟨w.heap.size, 0, none⟩) ls.length ls.length) ls.length xs := HOW.out.row.kept (grown_none hb2) (Classical.em _)
      obtain ⟨ho3, hg3⟩ := ho2.stored (k * 3) (.string el.field)
      obtain ⟨ho4, hg4⟩ := ho3.stored (k * 3 + 1) (.string el.term)
      obtain ⟨ho5, hg5⟩ := ho4.stored (k * 3 + 2) (.slice q' el.posts.length c')
      have d0 := ho2.cellAt (k * 3) (by omega)
      rw [List.getElem?_eq_getElem (by omega)] at d0
      have f0 := ho2.frozenAt (k * 3)
      generalize xs[k * 3] = o0 at d0
      have d1 := ho2.cellAt (k * 3 + 1) (by omega)
      rw [List.getElem?_eq_getElem (by omega)] at d1
      have f1 := ho2.frozenAt (k * 3 + 1)
      generalize xs[k * 3 + 1] = o1 at d1
      have d2 := ho2.cellAt (k * 3 + 2) (by omega)
      rw [List.getElem?_eq_getElem (by omega)] at d2
      have f2 := ho2.frozenAt (k * 3 + 2)
      generalize xs[k * 3 + 2] = o2 at d2
      have HB4 : Hid (Below w.heap.size w (((w2.setCell ⟨w.heap.size, k * 3, none⟩ (.string el.field)).setCell ⟨w.heap.size, k * 3 + 1, none⟩ (.string el.term)).setCell ⟨w.heap.size, k * 3 + 2, none⟩ (.slice q' el.posts.length c'))) :=
        ((((hbel.trans (hb2.mono hbel.size)).setCell (Nat.le_refl _) _).setCell (Nat.le_refl _) _).setCell (Nat.le_refl _) _)
      have HO4 : Hid (GPart entEl (((w2.setCell ⟨w.heap.size, k * 3, none⟩ (.string el.field)).setCell ⟨w.heap.size, k * 3 + 1, none⟩ (.string el.term)).setCell ⟨w.heap.size, k * 3 + 2, none⟩ (.slice q' el.posts.length c')) w.heap.size ls.length (((xs.set (k * 3) (.string el.field)).set (k * 3 + 1) (.string el.term)).set (k * 3 + 2) (.slice q' el.posts.length c')) ls (fun i => if i = k then fp else fps i) (k + 1)) := by
        refine HOW.out.step hb2 HG.out HQ.out HF.out ho5 ?_ (fun i hne => ?_) (fun b hne => ?_)
        · apply List.ext_getElem?
          intro j
          show (grp _ 3 k)[j]? = _
          by_cases hj : j < 3
          · rw [grp_get hj]
            have hj' : j = 0 ∨ j = 1 ∨ j = 2 := by omega
            rcases hj' with rfl | rfl | rfl <;> simp [List.getElem?_set] <;> omega
          · unfold grp
            rw [List.getElem?_take, if_neg hj, List.getElem?_eq_none (by simp; omega)]
        · have hoff : ∀ o, o < 3 → k * 3 + o < i * 3 ∨ (i + 1) * 3 ≤ k * 3 + o := fun o ho => by omega
          show grp _ 3 i = grp _ 3 i
          rw [grp_set_other (hoff 2 (by decide)), grp_set_other (hoff 1 (by decide)), grp_set_other (by have := hoff 0 (by decide); simpa using this)]
        · exact (Below.heap_setCell _ _ _ _ hne).trans ((Below.heap_setCell _ _ _ _ hne).trans (Below.heap_setCell _ _ _ _ hne))
      clear ho2 ho3 hg3 ho4 hg4 ho5 hg5 HOW HQ HF hq hf HR c0 c1 c2
      go_wp2
      go_roundw
      case rel => exact ⟨k + 1, _, _, by omega, by go_num, HO4.out, HB4.out⟩
      case measure => simp [intOf]; omega
    · have hkl : k = ls.length := by omega
      subst hkl
      have HO : Hid (GRow entEl wr w.heap.size (.slice (some ⟨w.heap.size, 0, none⟩) ls.length ls.length) xs ls fps) := hown.row_of
      clear hr hown
      go_wp2
      go_ret
      exact ⟨_, xs, fps, rfl, HO.out, hbel⟩

theorem toDocO_any (key : ByteArray) (a : Option Addr) (cap : Nat) (cs : List Cel) (w : World) (hz : cs.length ≤ 1048576) (hr : CelRow w a cs) :
    Calls Tryz.prog 25 #[.agg #[.string key, .slice a cs.length cap]] w fun e w' => ∃ p c, e = .returned (.agg #[.string key, .slice p cs.length c]) ∧ w'.ownsRow w.heap.size 121 2 (.slice p cs.length c) cs.length (celCells cs) ∧ Below w.heap.size w w' := by
  have hb0 : Below w.heap.size w (((w.alloc (.cells #[.string key, .slice a cs.length cap] 50)).alloc (.cells #[.string ⟨#[]⟩, .slice none 0 0] 39)).alloc (.cells #[.string key, .slice none 0 0] 39)) := (((Below.refl _ w).alloc (Nat.le_refl _) _).alloc (by simp) _).alloc (by simp; omega) _
  have r0 := hr.below hb0
  clear hr
  have HB0 : Hid (Below w.heap.size w (((w.alloc (.cells #[.string key, .slice a cs.length cap] 50)).alloc (.cells #[.string ⟨#[]⟩, .slice none 0 0] 39)).alloc (.cells #[.string key, .slice none 0 0] 39))) := hb0
  clear hb0
  go_enter Tryz.func25, Tryz.ntmps25
  go_wp2_with fail
  refine (toCellS_any a cap cs _ hz r0).mono ?_
  rintro e w2 ⟨v, xs, rfl, ho, ht, hb2⟩
  obtain ⟨hcl, hfz⟩ := bcell hb2
  have hz2 : w.heap.size + 3 ≤ w2.heap.size := by have := hb2.size; simp at this; omega
  have hbw : Below w.heap.size w w2 := HB0.out.trans (hb2.mono (by simp; omega))
  rw [celTo_eq ht ho.1] at ho
  obtain ⟨p, c, rfl, _, _, _, hq'⟩ := row_val ho
  have HF : Hid (∀ b, Value.ownBlock (.slice p cs.length c) = some b → w.heap.size + 3 ≤ b) := fun b hb => by
    have := (ho.lt b hb).1
    simp at this
    omega
  have HO : Hid (w2.ownsRow w.heap.size 121 2 (.slice p cs.length c) cs.length (celCells cs)) := ownsRow_mono ho (by simp; omega)
  clear HB0 ho ht r0 hb2 hq'
  go_wp2
  refine bodyPost_ret (v := .agg #[.string key, .slice p cs.length c]) (by simp [results, Tryz.results25, go_sem, hcl]) rfl ⟨p, c, rfl, ?_, ?_⟩
  · exact row_same HO.out fun g hg => by
      have := HF.out g hg
      exact (Below.heap_setCell _ _ _ _ (by show g ≠ w.heap.size + 1; omega)).trans ((Below.heap_setCell _ _ _ _ (by show g ≠ w.heap.size + 1; omega)).trans (Below.heap_setCell _ _ _ _ (by show g ≠ w.heap.size + 1 + 1; omega)))
  · exact ((hbw.setCell (by show w.heap.size ≤ w.heap.size + 1 + 1; omega) _).setCell (by show w.heap.size ≤ w.heap.size + 1; omega) _).setCell (by show w.heap.size ≤ w.heap.size + 1; omega) _
theorem toRow_any (q : Option Addr) (c : Nat) (x : Rw) (w : World) (hz : RwSm x) (hr : CelRow w q x.cells) :
    Calls Tryz.prog 88 #[.agg #[.int .i64 x.id, .string x.key, .slice q x.cells.length c]] w fun e w' => ∃ q' c' fp, e = .returned (.agg #[.int .i64 x.id, .string x.key, .slice q' x.cells.length c']) ∧ rwEl.own w' [.int .i64 x.id, .string x.key, .slice q' x.cells.length c'] x fp ∧ (∀ b ∈ fp, w.heap.size ≤ b) ∧ Below w.heap.size w w' := by
  obtain ⟨d, key, cs⟩ := x
  obtain ⟨_, hz, _⟩ := hz
  simp only at hz hr ⊢
  have hb0 : Below w.heap.size w (((w.alloc (.cells #[.int .i64 d, .string key, .slice q cs.length c] 114)).alloc (.cells #[.int .i64 0, .string ⟨#[]⟩, .slice none 0 0] 69)).alloc (.cells #[.int .i64 d, .string ⟨#[]⟩, .slice none 0 0] 69)) := (((Below.refl _ w).alloc (Nat.le_refl _) _).alloc (by simp) _).alloc (by simp; omega) _
  have r0 := hr.below hb0
  clear hr
  have HB0 : Hid (Below w.heap.size w (((w.alloc (.cells #[.int .i64 d, .string key, .slice q cs.length c] 114)).alloc (.cells #[.int .i64 0, .string ⟨#[]⟩, .slice none 0 0] 69)).alloc (.cells #[.int .i64 d, .string ⟨#[]⟩, .slice none 0 0] 69))) := hb0
  clear hb0
  go_enter Tryz.func88, Tryz.ntmps88
  go_wp2_with fail
  refine (toDocO_any key q c cs _ hz r0).mono ?_
  rintro e w2 ⟨q', c', rfl, ho, hb2⟩
  obtain ⟨hcl, hfz⟩ := bcell hb2
  have hz2 : w.heap.size + 3 ≤ w2.heap.size := by have := hb2.size; simp at this; omega
  have hbw : Below w.heap.size w w2 := HB0.out.trans (hb2.mono (by simp; omega))
  have HO : Hid (rwEl.own w2 [.int .i64 d, .string key, .slice q' cs.length c'] ⟨d, key, cs⟩ (Value.ownBlock (.slice q' cs.length c')).toList) := ⟨_, rfl, ownsRow_mono ho (Nat.zero_le _), rfl⟩
  have HF : Hid (∀ b ∈ (Value.ownBlock (.slice q' cs.length c')).toList, w.heap.size + 3 ≤ b) := fun b hb => by
    rw [Option.mem_toList] at hb
    have := (ho.lt b hb).1
    simp at this
    omega
  clear HB0 ho r0 hb2
  go_wp2
  refine bodyPost_ret (v := .agg #[.int .i64 d, .string key, .slice q' cs.length c']) (by simp [results, Tryz.results88, go_sem, hcl]) rfl ⟨q', c', _, rfl, ?_, fun b hb => by have := HF.out b hb; omega, ?_⟩
  · exact El.set _ (El.set _ (El.set _ (El.set _ (El.set _ HO.out (fun h => by have := HF.out _ h; simp at this <;> omega) _) (fun h => by have := HF.out _ h; simp at this <;> omega) _) (fun h => by have := HF.out _ h; simp at this <;> omega) _) (fun h => by have := HF.out _ h; simp at this <;> omega) _) (fun h => by have := HF.out _ h; simp at this <;> omega) _
  · exact ((((hbw.setCell (by show w.heap.size ≤ w.heap.size + 1 + 1; omega) _).setCell (by show w.heap.size ≤ w.heap.size + 1 + 1; omega) _).setCell (by show w.heap.size ≤ w.heap.size + 1; omega) _).setCell (by show w.heap.size ≤ w.heap.size + 1; omega) _).setCell (by show w.heap.size ≤ w.heap.size + 1; omega) _

set_option maxRecDepth 100000 in
set_option maxHeartbeats 1000000 in
theorem toRowS_any (a : Option Addr) (cap : Nat) (ls : List Rw) (w : World) (hz : ls.length ≤ 1048576) (hsm : ∀ x ∈ ls, RwSm x) (hr : RwRow w a ls) :
    Calls Tryz.prog 47 #[.slice a ls.length cap] w fun e w' => ∃ v xs fps, e = .returned v ∧ GRow rwEl w' w.heap.size v xs ls fps ∧ Below w.heap.size w w' := by
  obtain ⟨i0, hi, hz0, hz1, hz2⟩ := info_parts infoRw
  go_enter Tryz.func47, Tryz.ntmps47
  go_wp2_with (refine wpList_make_full _ rfl _ _ 30 rfl w.heap.size 69 i0 (.agg #[.int .i64 0, .string ⟨#[]⟩, .slice none 0 0]) 3 Tryz.underlying30 hi hz0 hz1 .i64 .i64 _ _ ls.length rfl rfl rfl rfl (by rw [hz2]; omega) (by unfold maxLen; omega) (Nat.le_refl _) ?_; intro w1 hown1 hgrow1)
  have hb1 : Below w.heap.size w w1 := (Below.refl _ w).grown hgrow1 (Nat.le_refl _) (fun j hj => by cases hj)
  generalize (madeCells (Value.agg #[.int .i64 0, .string ⟨#[]⟩, .slice none 0 0]).cells (ls.length * 3)).toList = x0 at hown1
  have HO : Hid (GPart rwEl w1 w.heap.size ls.length x0 ls (fun _ => []) 0) := .start hown1
  clear hown1 hgrow1
  go_wp2
  go_loopw [4] (fun i wr => ∃ (k : Nat) (xs : List Value) (fps : Nat → List Nat), k ≤ ls.length ∧ i = .int .i64 k ∧ GPart rwEl wr w.heap.size ls.length xs ls fps k ∧ Below w.heap.size w wr) (fun i _ => ls.length - (intOf i).toNat)
  case atStart => exact ⟨0, x0, _, Nat.zero_le _, rfl, HO.out, hb1⟩
  case round =>
    clear HO
    obtain ⟨k, xs, fps, hk, rfl, hown, hbel⟩ := hrel
    by_cases hlt : k < ls.length
    · obtain ⟨g, off, rfl, hg, hc⟩ := (hr.below hbel) (by omega)
      have hget : ls[k]? = some ls[k] := List.getElem?_eq_getElem hlt
      have HS : Hid (RwSm ls[k]) := hsm _ (List.getElem_mem hlt)
      obtain ⟨q, c, c0, c1, c2, hcl, hrow⟩ := hc k ls[k] hget
      have HR : Hid (CelRow wr q ls[k].cells) := hrow
      have hxl : xs.length = ls.length * 3 := hown.row.1
      have HOW : Hid (GPart rwEl wr w.heap.size ls.length xs ls fps k) := hown
      have HG : Hid (ls[k]? = some ls[k]) := hget
      clear hr hc hsm hrow hown hget
      have HGE : Hid (∀ x, x = ls[k] → ls[k]? = some x) := fun x e => by rw [e]; exact HG.out
      clear HG
      obtain ⟨el, hel⟩ : ∃ el, el = ls[k] := ⟨_, rfl⟩
      rw [← hel] at HS c0 c1 c2 HR hcl
      have HG : Hid (ls[k]? = some el) := HGE.out el hel
      clear HGE hel
      go_wp2_with fail
      refine (toRow_any q c el _ HS.out HR.out).mono ?_
      rintro e w2 ⟨q', c', fp, rfl, hq, hf, hb2⟩
      have HQ : Hid (rwEl.own w2 [.int .i64 el.id, .string el.key, .slice q' el.cells.length c'] el fp) := hq
      have HF : Hid (∀ b ∈ fp, wr.heap.size ≤ b) := hf
      have ho2 : w2.ownsRow w.heap.size 69 3 (.slice (some ⟨w.heap.size, 0, none⟩) ls.length ls.length) ls.length xs := HOW.out.row.kept (grown_none hb2) (Classical.em _)
      obtain ⟨ho3, hg3⟩ := ho2.stored (k * 3) (.int .i64 el.id)
      obtain ⟨ho4, hg4⟩ := ho3.stored (k * 3 + 1) (.string el.key)
      obtain ⟨ho5, hg5⟩ := ho4.stored (k * 3 + 2) (.slice q' el.cells.length c')
      have d0 := ho2.cellAt (k * 3) (by omega)
      rw [List.getElem?_eq_getElem (by omega)] at d0
      have f0 := ho2.frozenAt (k * 3)
      generalize xs[k * 3] = o0 at d0
      have d1 := ho2.cellAt (k * 3 + 1) (by omega)
      rw [List.getElem?_eq_getElem (by omega)] at d1
      have f1 := ho2.frozenAt (k * 3 + 1)
      generalize xs[k * 3 + 1] = o1 at d1
      have d2 := ho2.cellAt (k * 3 + 2) (by omega)
      rw [List.getElem?_eq_getElem (by omega)] at d2
      have f2 := ho2.frozenAt (k * 3 + 2)
      generalize xs[k * 3 + 2] = o2 at d2
      have HB4 : Hid (Below w.heap.size w (((w2.setCell ⟨w.heap.size, k * 3, none⟩ (.int .i64 el.id)).setCell ⟨w.heap.size, k * 3 + 1, none⟩ (.string el.key)).setCell ⟨w.heap.size, k * 3 + 2, none⟩ (.slice q' el.cells.length c'))) :=
        ((((hbel.trans (hb2.mono hbel.size)).setCell (Nat.le_refl _) _).setCell (Nat.le_refl _) _).setCell (Nat.le_refl _) _)
      have HO4 : Hid (GPart rwEl (((w2.setCell ⟨w.heap.size, k * 3, none⟩ (.int .i64 el.id)).setCell ⟨w.heap.size, k * 3 + 1, none⟩ (.string el.key)).setCell ⟨w.heap.size, k * 3 + 2, none⟩ (.slice q' el.cells.length c')) w.heap.size ls.length (((xs.set (k * 3) (.int .i64 el.id)).set (k * 3 + 1) (.string el.key)).set (k * 3 + 2) (.slice q' el.cells.length c')) ls (fun i => if i = k then fp else fps i) (k + 1)) := by
        refine HOW.out.step hb2 HG.out HQ.out HF.out ho5 ?_ (fun i hne => ?_) (fun b hne => ?_)
        · apply List.ext_getElem?
          intro j
          show (grp _ 3 k)[j]? = _
          by_cases hj : j < 3
          · rw [grp_get hj]
            have hj' : j = 0 ∨ j = 1 ∨ j = 2 := by omega
            rcases hj' with rfl | rfl | rfl <;> simp [List.getElem?_set] <;> omega
          · unfold grp
            rw [List.getElem?_take, if_neg hj, List.getElem?_eq_none (by simp; omega)]
        · have hoff : ∀ o, o < 3 → k * 3 + o < i * 3 ∨ (i + 1) * 3 ≤ k * 3 + o := fun o ho => by omega
          show grp _ 3 i = grp _ 3 i
          rw [grp_set_other (hoff 2 (by decide)), grp_set_other (hoff 1 (by decide)), grp_set_other (by have := hoff 0 (by decide); simpa using this)]
        · exact (Below.heap_setCell _ _ _ _ hne).trans ((Below.heap_setCell _ _ _ _ hne).trans (Below.heap_setCell _ _ _ _ hne))
      clear ho2 ho3 hg3 ho4 hg4 ho5 hg5 HOW HQ HF hq hf HR c0 c1 c2
      go_wp2
      go_roundw
      case rel => exact ⟨k + 1, _, _, by omega, by go_num, HO4.out, HB4.out⟩
      case measure => simp [intOf]; omega
    · have hkl : k = ls.length := by omega
      subst hkl
      have HO : Hid (GRow rwEl wr w.heap.size (.slice (some ⟨w.heap.size, 0, none⟩) ls.length ls.length) xs ls fps) := hown.row_of
      clear hr hown
      go_wp2
      go_ret
      exact ⟨_, xs, fps, rfl, HO.out, hbel⟩
end Go.Proofs.YtbifagdcnpnpjaaGreat
