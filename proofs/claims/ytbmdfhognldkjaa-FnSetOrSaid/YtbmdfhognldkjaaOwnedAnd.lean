/- impl.ownedBy where what both have is asked for. -/
import Derived.Test.YtbmdfhognldkjaaOwnedLaw
import Derived.Test.YtbmdfhognldkjaaSide
import Derived.Test.YtbmdfhognldkjaaAsk
import Derived.Shelf.RegionOpen
namespace Go.Proofs.Ytbmdfhognldkjaa
open Go.RowKit Go.Shelf
attribute [local go_sem] Oper.semAt_some

theorem keepsFrom_low {B : Nat} {X Y : World} (h : Below X.heap.size X Y) : KeepsFrom B X Y := ⟨h.size, fun k _ _ hk _ => (h.block k (Array.getElem?_eq_some_iff.1 hk).1).trans hk⟩
set_option maxRecDepth 100000 in
set_option maxHeartbeats 4000000 in
theorem ownedAnd_any (a b : Option Addr) (ca cb : Nat) (zs ys : List Int) (w : World) (hz : zs.length ≤ 1048576) (hy : ys.length ≤ 1048576) (hra : RowLow w.heap.size w a zs) (hrb : RowLow w.heap.size w b ys) :
    Calls Try.prog 37 #[.slice a zs.length ca, .slice b ys.length cb, .func (.func 38) #[] #[]] w fun e W' => ∃ v, e = .returned v ∧ W'.ownsRow w.heap.size 3 1 v (toldL (fun p q => p && q) (mg zs ys)).length ((toldL (fun p q => p && q) (mg zs ys)).map (Value.int .i64)) ∧ Below w.heap.size w W' := by
  obtain ⟨i0, hi, hz0, hz1, hz2⟩ := info_parts infoInt
  have hN := mg_len (zs.length + ys.length) zs ys (Nat.le_refl _)
  have HRA : Hid (RowLow w.heap.size w a zs) := hra
  have HRB : Hid (RowLow w.heap.size w b ys) := hrb
  clear hra hrb
  refine (callsIn_wide (n := 4)).1 ?_
  refine callsIn_of_wp_marks Try.func37 rfl trivial ?_ rfl
  simp only [Try.ntmps37, List.size_toArray, List.length_cons, List.length_nil, Nat.reduceAdd, Nat.reduceSub, Array.replicate_succ, Array.replicate_zero, List.push_toArray, List.append_toArray, List.nil_append, List.cons_append]
  gi_wp2_with (refine ⟨trivial, ?_⟩; gi_at_call 50; refine (callsIn_wide.2 (sideBySide_any a b _ _ ca cb _)).mono ?_; rintro e V ⟨rfl, rfl⟩)
  obtain ⟨W0, hW0⟩ : ∃ W0, (((w.alloc (.cells #[.func (.func 38) #[] #[]] 43)).alloc (.cells #[.slice none 0 0] 23)).alloc (.cells #[.slice a zs.length ca] 23)).alloc (.cells #[.slice b ys.length cb] 23) = W0 := ⟨_, rfl⟩
  have bF : Boxed W0 w.heap.size 43 (.func (.func 38) #[] #[]) := by
    rw [← hW0]; exact (((Boxed.new w 43 (.func (.func 38) #[] #[])).alloc _).alloc _).alloc _
  have bO : Boxed W0 (w.heap.size + 1) 23 (.slice none 0 0) := by
    have h := Boxed.new (w.alloc (.cells #[.func (.func 38) #[] #[]] 43)) 23 (.slice none 0 0)
    rw [World.size_alloc] at h
    rw [← hW0]; exact (h.alloc _).alloc _
  have c2 : W0.cell? ⟨w.heap.size + 2, 0, none⟩ = some (.slice a zs.length ca) := by
    have h := Boxed.new ((w.alloc (.cells #[.func (.func 38) #[] #[]] 43)).alloc (.cells #[.slice none 0 0] 23)) 23 (.slice a zs.length ca)
    rw [World.size_alloc, World.size_alloc] at h
    rw [← hW0]; exact (h.alloc _).cell
  have c3 : W0.cell? ⟨w.heap.size + 3, 0, none⟩ = some (.slice b ys.length cb) := by
    have h := Boxed.new (((w.alloc (.cells #[.func (.func 38) #[] #[]] 43)).alloc (.cells #[.slice none 0 0] 23)).alloc (.cells #[.slice a zs.length ca] 23)) 23 (.slice b ys.length cb)
    rw [World.size_alloc, World.size_alloc, World.size_alloc] at h
    rw [← hW0]; exact h.cell
  have hsz : W0.heap.size = w.heap.size + 4 := by rw [← hW0]; simp
  have hB0 : Below w.heap.size w W0 := by
    rw [← hW0]; exact ((((Below.refl _ w).alloc (Nat.le_refl _) _).alloc (by simp) _).alloc (by simp; omega) _).alloc (by simp; omega) _
  rw [hW0]
  clear hW0
  have hI : OwnFrom W0.heap.size (OI w.heap.size (.func (.func 38) #[] #[]) (fun p q => p && q) w) :=
    OwnFrom.and (OwnFrom.and (Own.from (holdsRow_own (w.heap.size + 10) (w.heap.size + 1) 23 3 1 (fun pre => (toldL (fun p q => p && q) pre).length) (fun pre => (toldL (fun p q => p && q) pre).map (Value.int .i64)) (fun _ _ => True)) _) (Own.from (boxed_own _ _ _) _)) (ownFrom_below (Nat.le_refl _) (by omega))
  refine rangeAll (w.heap.size + 10) (n := 4) (encs := encT) (Kp := Kz w.heap.size (w.heap.size + 6)) rfl (enters_of Try.func52 (by kernel_rfl) rfl) (mg zs ys) _ hI
    (fun h k => h.trans k) (fun V _ o' _ _ => ⟨below_put (by omega) V o', fun k h1 h2 => World.putObj_heap_other (by omega), fun k c h1 h2 => World.putObj_heap_other (by omega)⟩) (fun _ => rfl)
    (fun r V hb hVs hY2 hk => side_all (W0.heap.size + 1) (w.heap.size + 2) (w.heap.size + 3) w.heap.size a b ca cb zs ys hz hy _ V (by omega) (ownFrom_below' (ownFrom_kept hI (by omega) : OwnFrom V.heap.size _))
      (fun pre X Y k h1 h2 hs hj => ⟨OI.step hj.1 (by omega) (by omega) hs, (hs.block (by omega)).trans hj.2.1, (hs.block (by omega)).trans hj.2.2⟩)
      (fun pre x W1 h hm hl => by rw [show V.heap.size = w.heap.size + 6 from by omega]; exact hY2 pre x W1 h (by omega) hl)
      (HRA.out.keep (hB0.trans (hb.mono (by omega)))) (HRB.out.keep (hB0.trans (hb.mono (by omega))))
      (by rw [hb.cell (p := ⟨w.heap.size + 2, 0, none⟩) (by show w.heap.size + 2 < _; omega)]; exact c2) (by rw [hb.cell (p := ⟨w.heap.size + 3, 0, none⟩) (by show w.heap.size + 3 < _; omega)]; exact c3) (by omega) hk)
    ⟨⟨⟨_, bO, World.ownsRow_nil _ _ _ _, trivial⟩, bF⟩, hB0⟩
    (fun x a' V => ∃ Bx, w.heap.size + 6 ≤ Bx ∧ Own2 V Bx x.2.1 x.2.2 ∧ a' = { tmps := #[.slice a zs.length ca, .slice b ys.length cb, .func (.func 38) #[] #[], undef, undef, .pointer (some ⟨w.heap.size, 0, none⟩), .slice none 0 0, .pointer (some ⟨w.heap.size + 1, 0, none⟩), .int .i64 x.1, .pointer (some ⟨Bx, 0, none⟩), .slice a zs.length ca, .slice b ys.length cb, .func (.func 52) #[] #[.pointer (some ⟨w.heap.size + 2, 0, none⟩), .pointer (some ⟨w.heap.size + 3, 0, none⟩)], .int .i64 x.1, .agg #[.bool x.2.1, .bool x.2.2], undef, undef, undef, undef, undef, undef, undef, undef], defers := [] })
    (fun x a' _ X Y row hs hg hr => by obtain ⟨Bx, h1, h2, h3⟩ := hs; exact ⟨Bx, h1, own2_own Bx x.2.1 x.2.2 () X Y row h2 hg (fun r e => (hr r e).2), h3⟩)
    ?assign ?body ?done
  case assign =>
    rintro l2 pre ⟨z, p, q⟩ V K hi' hm hK
    simp only [encT]
    gi_wp2
    exact hK _ _ ((KeepsOthers.alloc _ _).from _) (Kz.of_below ((Below.refl _ V).alloc (Nat.le_refl _) _) (by omega) (by omega)) (hI.alloc _ hi') ⟨V.heap.size, by omega, heap_alloc_new V _, rfl⟩
  case body =>
    rintro l2 pre ⟨z, p, q⟩ a' V hl ⟨⟨⟨v, bV, hrow, _⟩, bF1⟩, hB1⟩ ⟨Bx, hBx, bX, rfl⟩ hm hlt
    have cV := bV.cell
    have fV := bV.frozen
    have cF := bF1.cell
    have x0 := bX.c0
    have x1 := bX.c1
    have htl := toldL_len (fun p q => p && q) pre
    cases p <;> cases q
    · gi_wp2_with (refine ⟨trivial, ?_⟩; gi_at_call 38; refine (CallsIn.inRound l2 (callsIn_wide.2 (askAnd_any false false _))).mono ?_)
      rintro e V2 rfl hb2
      have hs2 := hb2.size
      have bV2 : Boxed V2 (w.heap.size + 1) 23 v := (hb2.block _ bV.lt).trans bV
      have bF2 : Boxed V2 w.heap.size 43 (.func (.func 38) #[] #[]) := (hb2.block _ bF1.lt).trans bF1
      have hrow2 := hrow.kept (grown_none hb2) (Classical.em _)
      have cV2 := bV2.cell
      have fV2 := bV2.frozen
      clear hrow bV bF1 cV fV cF x0 x1 bX
      gi_wp2
      exact ⟨keepsFrom_low hb2, Kz.of_below hb2 (by omega) (by omega), ⟨⟨v, bV2, by rw [toldL_no _ _ _ rfl]; exact hrow2, trivial⟩, bF2⟩, hB1.trans (hb2.mono (by omega))⟩
    · gi_wp2_with (refine ⟨trivial, ?_⟩; gi_at_call 38; refine (CallsIn.inRound l2 (callsIn_wide.2 (askAnd_any false true _))).mono ?_)
      rintro e V2 rfl hb2
      have hs2 := hb2.size
      have bV2 : Boxed V2 (w.heap.size + 1) 23 v := (hb2.block _ bV.lt).trans bV
      have bF2 : Boxed V2 w.heap.size 43 (.func (.func 38) #[] #[]) := (hb2.block _ bF1.lt).trans bF1
      have hrow2 := hrow.kept (grown_none hb2) (Classical.em _)
      have cV2 := bV2.cell
      have fV2 := bV2.frozen
      clear hrow bV bF1 cV fV cF x0 x1 bX
      gi_wp2
      exact ⟨keepsFrom_low hb2, Kz.of_below hb2 (by omega) (by omega), ⟨⟨v, bV2, by rw [toldL_no _ _ _ rfl]; exact hrow2, trivial⟩, bF2⟩, hB1.trans (hb2.mono (by omega))⟩
    · gi_wp2_with (refine ⟨trivial, ?_⟩; gi_at_call 38; refine (CallsIn.inRound l2 (callsIn_wide.2 (askAnd_any true false _))).mono ?_)
      rintro e V2 rfl hb2
      have hs2 := hb2.size
      have bV2 : Boxed V2 (w.heap.size + 1) 23 v := (hb2.block _ bV.lt).trans bV
      have bF2 : Boxed V2 w.heap.size 43 (.func (.func 38) #[] #[]) := (hb2.block _ bF1.lt).trans bF1
      have hrow2 := hrow.kept (grown_none hb2) (Classical.em _)
      have cV2 := bV2.cell
      have fV2 := bV2.frozen
      clear hrow bV bF1 cV fV cF x0 x1 bX
      gi_wp2
      exact ⟨keepsFrom_low hb2, Kz.of_below hb2 (by omega) (by omega), ⟨⟨v, bV2, by rw [toldL_no _ _ _ rfl]; exact hrow2, trivial⟩, bF2⟩, hB1.trans (hb2.mono (by omega))⟩
    · gi_wp2_with (refine ⟨trivial, ?_⟩; gi_at_call 38; refine (CallsIn.inRound l2 (callsIn_wide.2 (askAnd_any true true _))).mono ?_)
      rintro e V2 rfl hb2
      have hs2 := hb2.size
      have bV2 : Boxed V2 (w.heap.size + 1) 23 v := (hb2.block _ bV.lt).trans bV
      have bF2 : Boxed V2 w.heap.size 43 (.func (.func 38) #[] #[]) := (hb2.block _ bF1.lt).trans bF1
      have hrow2 := hrow.kept (grown_none hb2) (Classical.em _)
      have cV2 := bV2.cell
      have fV2 := bV2.frozen
      clear hrow bV bF1 cV fV cF x0 x1 bX
      gi_wp2_with (gi_at_builtin; refine wpListIn_append_own _ rfl _ _ 23 rfl (w.heap.size + 10) 3 i0 (.int .i64 0) 1 8 Try.underlying23 hi hz0 hz1 hz2 rfl (by decide) _ _ _ rfl (hrow2.alloc _) ⟨V2.heap.size, 0, none⟩ 1 1 [.int .i64 z] rfl rfl (cells_new _ _ _) (int_one _) (by unfold maxLen; omega) (by omega) (by simp; omega) ?_)
      intro v' w1 hown' hgrow _
      obtain ⟨g', cap', rfl⟩ := ownsRow_succ hown'
      obtain ⟨h1, h2, h3, h4, h5, h6⟩ := appendedZ bV2 bF2 (by decide) hrow2 (by omega) hown' hgrow
      have hc1 := h1.cell
      have hf1 := h1.frozen
      clear hown' hgrow hrow2
      gi_wp2
      have h7 := (Kz.of_below (n₀ := w.heap.size) (S := w.heap.size + 6) hb2 (by omega) (by omega)).trans h6
      exact ⟨(keepsFrom_low hb2).trans (h5.from _), h7, ⟨⟨_, h2, by rw [toldL_yes _ _ _ rfl, List.length_append, List.map_append]; exact h4, trivial⟩, h3⟩, hB1.trans h7.below⟩
  case done =>
    rintro D V hD ⟨⟨⟨v, bV, hrow, _⟩, bF1⟩, hB1⟩ hK
    have cV := bV.cell
    gi_wp2
    refine ⟨by simp, .inl ⟨_, _, rfl, run_takeDeferred hK, ?_⟩⟩
    exact ⟨_, results_tmp rfl _ _ _, v, rfl, ownsRow_putObj (ownsRow_mono hrow (by omega)) _ hK rfl, hB1.trans (below_put (by omega) V _)⟩
end Go.Proofs.Ytbmdfhognldkjaa
