/- A copy of a whole index. -/
import Derived.Test.YtbifagdcnpnpjaaGreatIdxTo
namespace Go.Proofs.YtbifagdcnpnpjaaGreat
open Go.RowKit
set_option linter.unusedVariables false

theorem GRow.set {α : Type} {E : El α} {w : World} {B : Nat} {v : Value} {xs : List Value} {ls : List α} {fps : Nat → List Nat} (h : GRow E w B v xs ls fps) {p : Addr} (hp : p.block ∉ footOf v fps ls.length) (u : Value) : GRow E (w.setCell p u) B v xs ls fps :=
  h.kept fun b hb => Below.heap_setCell _ _ _ _ (fun e => hp (by rw [← e]; exact hb))
theorem row_set {w : World} {B n size : Nat} {v : Value} {e : TypeId} {xs : List Value} (h : w.ownsRow B e size v n xs) {p : Addr} (hp : v.ownBlock ≠ some p.block) (u : Value) : (w.setCell p u).ownsRow B e size v n xs :=
  row_same h fun g hg => Below.heap_setCell _ _ _ _ (fun e => hp (by rw [hg, e]))
theorem IdxOwn.set {w : World} {B : Nat} {vf vr ve : Value} {x : Idx} {xr xe : List Value} {fr fe : Nat → List Nat} (h : IdxOwn w B vf vr ve x xr xe fr fe) {p : Addr} (hp : p.block < B) (u : Value) : IdxOwn (w.setCell p u) B vf vr ve x xr xe fr fe :=
  ⟨row_set h.f (fun e => by have := (h.f.lt _ e).1; omega) u, h.r.set (fun hm => by have := (h.r.lt _ hm).1; omega) u, h.e.set (fun hm => by have := (h.e.lt _ hm).1; omega) u, h.apart, h.apartF⟩
theorem IdxOwn.mono {w : World} {B B' : Nat} {vf vr ve : Value} {x : Idx} {xr xe : List Value} {fr fe : Nat → List Nat} (h : IdxOwn w B vf vr ve x xr xe fr fe) (hb : B' ≤ B) : IdxOwn w B' vf vr ve x xr xe fr fe :=
  ⟨ownsRow_mono h.f hb, h.r.rebase (fun b hm => Nat.le_trans hb (h.r.lt b hm).1), h.e.rebase (fun b hm => Nat.le_trans hb (h.e.lt b hm).1), h.apart, h.apartF⟩
theorem Blk.eqw {w w' : World} {B : Nat} {C : Array Value} {t : TypeId} (h : Blk w B C t) (e : w = w') : Blk w' B C t := e ▸ h
set_option maxRecDepth 100000 in
set_option maxHeartbeats 2000000 in
theorem toIndex_any (pf : Option Addr) (cf : Nat) (pr : Option Addr) (cr : Nat) (pe : Option Addr) (ce : Nat) (x : Idx) (w : World) (hs : IdxSm x) (hx : IdxAt w pf cf pr cr pe ce x) :
    Calls Tryz.prog 11 #[.agg (idxC pf cf pr cr pe ce x)] w fun e w' => ∃ pf' cf' pr' cr' pe' ce' xr xe fr fe, e = .returned (.agg (idxC pf' cf' pr' cr' pe' ce' x)) ∧
      IdxOwn w' w.heap.size (.slice pf' x.fields.length cf') (.slice pr' x.rows.length cr') (.slice pe' x.ents.length ce') x xr xe fr fe ∧ IdxAt w' pf' cf' pr' cr' pe' ce' x ∧ Below w.heap.size w w' := by
  unfold idxC
  have HX : Hid (∀ wx, Below w.heap.size w wx → IdxAt wx pf cf pr cr pe ce x) := fun wx h => hx.below h
  have HS : Hid (IdxSm x) := hs
  clear hx hs
  obtain ⟨fs, rs, es, nx⟩ := x
  simp only at HX HS ⊢
  obtain ⟨W0, hW0⟩ : ∃ W0, ((w.alloc (.cells #[.slice pf fs.length cf, .slice pr rs.length cr, .slice pe es.length ce, .int .i64 nx] 26)).alloc (.cells #[.slice none 0 0, .slice none 0 0, .slice none 0 0, .int .i64 0] 33)).alloc (.cells #[.slice none 0 0, .slice none 0 0, .slice none 0 0, .int .i64 0] 33) = W0 := ⟨_, rfl⟩
  have hb0 : Below w.heap.size w W0 := by rw [← hW0]; exact (((Below.refl _ w).alloc (Nat.le_refl _) _).alloc (by simp) _).alloc (by simp; omega) _
  have hs0 : W0.heap.size = w.heap.size + 3 := by rw [← hW0]; simp
  have A0 : Blk W0 w.heap.size #[.slice pf fs.length cf, .slice pr rs.length cr, .slice pe es.length ce, .int .i64 nx] 26 := by rw [← hW0]; exact ((Blk.new w _ _).alloc _).alloc _
  have D0 : Blk W0 (w.heap.size + 1) #[.slice none 0 0, .slice none 0 0, .slice none 0 0, .int .i64 0] 33 := by
    have h := (Blk.new (w.alloc (.cells #[.slice pf fs.length cf, .slice pr rs.length cr, .slice pe es.length ce, .int .i64 nx] 26)) #[.slice none 0 0, .slice none 0 0, .slice none 0 0, .int .i64 0] 33).alloc (.cells #[.slice none 0 0, .slice none 0 0, .slice none 0 0, .int .i64 0] 33)
    rw [hW0] at h
    simpa using h
  have X0 : Blk W0 (w.heap.size + 2) #[.slice none 0 0, .slice none 0 0, .slice none 0 0, .int .i64 0] 33 := by
    have h := Blk.new ((w.alloc (.cells #[.slice pf fs.length cf, .slice pr rs.length cr, .slice pe es.length ce, .int .i64 nx] 26)).alloc (.cells #[.slice none 0 0, .slice none 0 0, .slice none 0 0, .int .i64 0] 33)) #[.slice none 0 0, .slice none 0 0, .slice none 0 0, .int .i64 0] 33
    rw [hW0] at h
    simpa using h
  have a0 := A0.cell 0
  simp at a0
  go_enter Tryz.func11, Tryz.ntmps11
  go_wp2_with fail
  refine (toFieldS_any pf cf fs _ HS.out.fl (HX.out _ hb0).f).mono ?_
  rintro e w1 ⟨v, xs, rfl, ho, ht, hb1⟩
  rw [fldTo_eq ht ho.1] at ho
  obtain ⟨qf, kf, rfl, _, _, _, _⟩ := row_val ho
  have A1 := A0.below hb1 A0.lt
  have D1 := D0.below hb1 D0.lt
  have X1 := X0.below hb1 X0.lt
  have hw1 := below_trans hb0 hb1
  have hs1 := hb1.size
  have x0 := X1.cell 0
  have y0 := X1.frozen 0
  simp at x0
  obtain ⟨W2, hW2⟩ : ∃ W2, w1.setCell ⟨w.heap.size + 1 + 1, 0, none⟩ (.slice qf fs.length kf) = W2 := ⟨_, rfl⟩
  have HF2 : Hid (W2.ownsRow (w.heap.size + 3) 123 3 (.slice qf fs.length kf) fs.length (fldCells fs)) := by unfold Hid; rw [← hW2]; exact row_set (ownsRow_mono ho (by omega)) (fun e => by have := (ho.lt _ e).1; simp at this; omega) _
  have A2 := Blk.eqw (A1.other (by show w.heap.size ≠ w.heap.size + 1 + 1; omega) _) hW2
  have D2 := Blk.eqw (D1.other (by show w.heap.size + 1 ≠ w.heap.size + 1 + 1; omega) _) hW2
  have X2 := X1.set 0 (.slice qf fs.length kf)
  rw [show (⟨w.heap.size + 2, 0, none⟩ : Addr) = ⟨w.heap.size + 1 + 1, 0, none⟩ from rfl, hW2] at X2
  have hw2 : Below w.heap.size w W2 := by rw [← hW2]; exact hw1.setCell (by show w.heap.size ≤ w.heap.size + 1 + 1; omega) _
  have hs2 : W2.heap.size = w1.heap.size := by rw [← hW2]; simp [World.setCell]
  have a1 := A2.cell 1
  simp at a1
  clear A0 D0 X0 A1 D1 X1 ho ht hb0 hb1 hw1 a0
  go_wp2_with fail
  refine (toRowS_any pr cr rs _ HS.out.rs.1 HS.out.rs.2 (HX.out _ hw2).r).mono ?_
  rintro e w3 ⟨v, xr, fr, rfl, hr, hb3⟩
  obtain ⟨qr, kr, rfl, _, _, _, _⟩ := row_val hr.row
  have A3 := A2.below hb3 A2.lt
  have D3 := D2.below hb3 D2.lt
  have X3 := X2.below hb3 X2.lt
  have HF3 : Hid (w3.ownsRow (w.heap.size + 3) 123 3 (.slice qf fs.length kf) fs.length (fldCells fs)) := row_same HF2.out fun g hg => hb3.block g (HF2.out.lt g hg).2
  have HFL : Hid (∀ g, Value.ownBlock (.slice qf fs.length kf) = some g → g < W2.heap.size) := fun g hg => (HF2.out.lt g hg).2
  have hw3 := below_trans hw2 hb3
  have hs3 := hb3.size
  have x1 := X3.cell 1
  have y1 := X3.frozen 1
  simp at x1
  obtain ⟨W4, hW4⟩ : ∃ W4, w3.setCell ⟨w.heap.size + 1 + 1, 1, none⟩ (.slice qr rs.length kr) = W4 := ⟨_, rfl⟩
  have HF4 : Hid (W4.ownsRow (w.heap.size + 3) 123 3 (.slice qf fs.length kf) fs.length (fldCells fs)) := by unfold Hid; rw [← hW4]; exact row_set HF3.out (fun e => by have := (HF3.out.lt _ e).1; simp at this; omega) _
  have HR4 : Hid (GRow rwEl W4 W2.heap.size (.slice qr rs.length kr) xr rs fr) := by unfold Hid; rw [← hW4]; exact hr.set (fun hm => by have := (hr.lt _ hm).1; simp at this; omega) _
  have A4 := Blk.eqw (A3.other (by show w.heap.size ≠ w.heap.size + 1 + 1; omega) _) hW4
  have D4 := Blk.eqw (D3.other (by show w.heap.size + 1 ≠ w.heap.size + 1 + 1; omega) _) hW4
  have X4 := X3.set 1 (.slice qr rs.length kr)
  rw [show (⟨w.heap.size + 2, 1, none⟩ : Addr) = ⟨w.heap.size + 1 + 1, 1, none⟩ from rfl, hW4] at X4
  have hw4 : Below w.heap.size w W4 := by rw [← hW4]; exact hw3.setCell (by show w.heap.size ≤ w.heap.size + 1 + 1; omega) _
  have hs4 : W4.heap.size = w3.heap.size := by rw [← hW4]; simp [World.setCell]
  have a2 := A4.cell 2
  simp at a2
  clear A2 D2 X2 A3 D3 X3 HF2 HF3 hr hb3 hw2 hw3 a1 x0 y0
  go_wp2_with fail
  refine (toEntryS_any pe ce es _ HS.out.es.1 HS.out.es.2 (HX.out _ hw4).e).mono ?_
  rintro e w5 ⟨v, xe, fe, rfl, he, hb5⟩
  obtain ⟨qe, ke, rfl, _, _, _, _⟩ := row_val he.row
  have A5 := A4.below hb5 A4.lt
  have D5 := D4.below hb5 D4.lt
  have X5 := X4.below hb5 X4.lt
  have HF5 : Hid (w5.ownsRow (w.heap.size + 3) 123 3 (.slice qf fs.length kf) fs.length (fldCells fs)) := row_same HF4.out fun g hg => hb5.block g (HF4.out.lt g hg).2
  have HR5 : Hid (GRow rwEl w5 W2.heap.size (.slice qr rs.length kr) xr rs fr) := HR4.out.below hb5
  have HRL : Hid (∀ b ∈ footOf (.slice qr rs.length kr) fr rs.length, W2.heap.size ≤ b ∧ b < W4.heap.size) := fun b hb => HR4.out.lt b hb
  have hw5 := below_trans hw4 hb5
  have hs5 := hb5.size
  have HO5 : Hid (IdxOwn w5 (w.heap.size + 3) (.slice qf fs.length kf) (.slice qr rs.length kr) (.slice qe es.length ke) ⟨fs, rs, es, nx⟩ xr xe fr fe) :=
    ⟨HF5.out, HR5.out.rebase (fun b hb => by have := HRL.out b hb; omega), he.rebase (fun b hb => by have := (he.lt b hb).1; omega), fun b hb hb' => by have := HRL.out b hb; have := (he.lt b hb').1; omega,
      fun b hb => ⟨fun hb' => by have := HFL.out b hb; have := HRL.out b hb'; omega, fun hb' => by have := HFL.out b hb; have := (he.lt b hb').1; omega⟩⟩
  have x2 := X5.cell 2
  have y2 := X5.frozen 2
  simp at x2
  obtain ⟨W6, hW6⟩ : ∃ W6, w5.setCell ⟨w.heap.size + 1 + 1, 2, none⟩ (.slice qe es.length ke) = W6 := ⟨_, rfl⟩
  have HO6 : Hid (IdxOwn W6 (w.heap.size + 3) (.slice qf fs.length kf) (.slice qr rs.length kr) (.slice qe es.length ke) ⟨fs, rs, es, nx⟩ xr xe fr fe) := by unfold Hid; rw [← hW6]; exact HO5.out.set (by show w.heap.size + 1 + 1 < w.heap.size + 3; omega) _
  have A6 := Blk.eqw (A5.other (by show w.heap.size ≠ w.heap.size + 1 + 1; omega) _) hW6
  have D6 := Blk.eqw (D5.other (by show w.heap.size + 1 ≠ w.heap.size + 1 + 1; omega) _) hW6
  have X6 := X5.set 2 (.slice qe es.length ke)
  rw [show (⟨w.heap.size + 2, 2, none⟩ : Addr) = ⟨w.heap.size + 1 + 1, 2, none⟩ from rfl, hW6] at X6
  have hw6 : Below w.heap.size w W6 := by rw [← hW6]; exact hw5.setCell (by show w.heap.size ≤ w.heap.size + 1 + 1; omega) _
  clear A4 D4 X4 A5 D5 X5 HF4 HF5 HR4 HR5 HO5 HFL HRL he hb5 hw4 hw5 a2 x1 y1 HX
  have a3 := A6.cell 3
  simp at a3
  have x3 := X6.cell 3
  have y3 := X6.frozen 3
  simp at x3
  obtain ⟨W7, hW7⟩ : ∃ W7, W6.setCell ⟨w.heap.size + 1 + 1, 3, none⟩ (.int .i64 nx) = W7 := ⟨_, rfl⟩
  have HO7 : Hid (IdxOwn W7 (w.heap.size + 3) (.slice qf fs.length kf) (.slice qr rs.length kr) (.slice qe es.length ke) ⟨fs, rs, es, nx⟩ xr xe fr fe) := by unfold Hid; rw [← hW7]; exact HO6.out.set (by show w.heap.size + 1 + 1 < w.heap.size + 3; omega) _
  have D7 := Blk.eqw (D6.other (by show w.heap.size + 1 ≠ w.heap.size + 1 + 1; omega) _) hW7
  have X7 := X6.set 3 (.int .i64 nx)
  rw [show (⟨w.heap.size + 2, 3, none⟩ : Addr) = ⟨w.heap.size + 1 + 1, 3, none⟩ from rfl, hW7] at X7
  have hw7 : Below w.heap.size w W7 := by rw [← hW7]; exact hw6.setCell (by show w.heap.size ≤ w.heap.size + 1 + 1; omega) _
  have r0 := X7.cell 0
  have r1 := X7.cell 1
  have r2 := X7.cell 2
  have r3 := X7.cell 3
  have d0 := D7.cell 0
  have d1 := D7.cell 1
  have d2 := D7.cell 2
  have d3 := D7.cell 3
  have e0 := D7.frozen 0
  have e1 := D7.frozen 1
  have e2 := D7.frozen 2
  have e3 := D7.frozen 3
  simp at r0 r1 r2 r3 d0 d1 d2 d3
  clear A6 D6 X6 HO6 hw6
  go_wp2
  obtain ⟨W8, hW8⟩ : ∃ W8, (((W7.setCell ⟨w.heap.size + 1, 0, none⟩ (.slice qf fs.length kf)).setCell ⟨w.heap.size + 1, 1, none⟩ (.slice qr rs.length kr)).setCell ⟨w.heap.size + 1, 2, none⟩ (.slice qe es.length ke)).setCell ⟨w.heap.size + 1, 3, none⟩ (.int .i64 nx) = W8 := ⟨_, rfl⟩
  have HO8 : Hid (IdxOwn W8 w.heap.size (.slice qf fs.length kf) (.slice qr rs.length kr) (.slice qe es.length ke) ⟨fs, rs, es, nx⟩ xr xe fr fe) := by
    unfold Hid
    rw [← hW8]
    exact ((((HO7.out.set (by show w.heap.size + 1 < w.heap.size + 3; omega) _).set (by show w.heap.size + 1 < w.heap.size + 3; omega) _).set (by show w.heap.size + 1 < w.heap.size + 3; omega) _).set (by show w.heap.size + 1 < w.heap.size + 3; omega) _).mono (by omega)
  have hat : IdxAt W8 qf kf qr kr qe ke ⟨fs, rs, es, nx⟩ := by
    obtain ⟨_, _, _, _, _, _, e1, e2, e3, h⟩ := HO8.out.at
    cases e1
    cases e2
    cases e3
    exact h
  refine bodyPost_ret (v := .agg #[.slice qf fs.length kf, .slice qr rs.length kr, .slice qe es.length ke, .int .i64 nx]) (by simp [results, Tryz.results11, go_sem, d0, d1, d2, d3]) rfl ⟨qf, kf, qr, kr, qe, ke, xr, xe, fr, fe, rfl, ?_, ?_, ?_⟩
  · rw [hW8]; exact HO8.out
  · rw [hW8]; exact hat
  · exact (((hw7.setCell (Nat.le_succ _) _).setCell (Nat.le_succ _) _).setCell (Nat.le_succ _) _).setCell (Nat.le_succ _) _
end Go.Proofs.YtbifagdcnpnpjaaGreat
