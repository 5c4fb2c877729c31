/- The walk of the law FnFieldsMore. -/
import Derived.Test.YtelkaieknliflaaDoorFldMore
import Derived.Test.YtelkaieknliflaaDoorFldPut
import Derived.Test.YtelkaieknliflaaDoorFldsOk3
import Derived.Deep.AppendLies
import Derived.Deep.RegionLaw
namespace Go.Proofs.YtelkaieknliflaaDoor
open Go.RowKit
set_option linter.unusedVariables false

theorem okI_len (a : Option Addr) (cap n : Nat) (fs : List Fld) (w : World) (hn : fs.length = n) (hz : n ≤ 1048576) (hcap : n ≤ cap) (hsm : FldsSmall fs) (hr : FldRow w a fs) :
    Calls Tryd.prog 9 #[.slice a n cap] w fun e w' => e = .returned (.bool (fieldsB fs)) ∧ Below w.heap.size w w' := by
  subst hn
  exact fieldsI_any a cap fs w hz hcap hsm hr
theorem putI_len (a : Option Addr) (cap n : Nat) (fs : List Fld) (w : World) (hn : fs.length = n) (hz : n ≤ 1048576) (hcap : n ≤ cap) (hsm : FldsSmall fs) (hr : FldRow w a fs) :
    Calls Tryd.prog 6 #[.slice a n cap] w fun e w' => e = .returned (.string (putB fs)) ∧ Below w.heap.size w w' := by
  subst hn
  exact putI_any a cap fs w hz hcap hsm hr
/-- A row with one more is read as such. -/
theorem row_more {w : World} {b g c n : Nat} {fs : List Fld} {z : Fld} (hn : fs.length = n) (h : w.ownsRow b 33 3 (.slice (some ⟨g, 0, none⟩) (n + 1) c) (n + 1) (fldCells fs ++ [.string z.name, .int .i64 z.kind, .int .i64 z.weight])) : FldRow w (some ⟨g, 0, none⟩) (fs ++ [z]) ∧ n + 1 ≤ c := by
  subst hn
  rw [← fldCells_snoc] at h
  obtain ⟨a, cap, e, h1, -, h2⟩ := owns_fldRow (fs := fs ++ [z]) (by rw [List.length_append]; exact h) (fldTo_cells _)
  injection e with e1 e2 e3
  subst e1 e3
  rw [List.length_append] at h1
  exact ⟨h2, h1⟩
theorem FldRow.grown {w w' : World} {g off : Nat} {r : Option Nat} {fs : List Fld} (h : FldRow w (some ⟨g, off, none⟩) fs) (hg : w.grownBy w' r) (hne : r ≠ some g) : FldRow w' (some ⟨g, off, none⟩) fs := fun hp => by
  obtain ⟨g', off', e, hl, hc⟩ := h hp
  cases e
  have hb := hg.block g hl (fun e => hne e.symm)
  refine ⟨g, off, rfl, by have := hg.size; omega, fun i hi => ?_⟩
  obtain ⟨c0, c1, c2⟩ := hc i hi
  exact ⟨(World.cell?_of_block hb).trans c0, (World.cell?_of_block hb).trans c1, (World.cell?_of_block hb).trans c2⟩
theorem row_first {w : World} {g o : Nat} {fs : List Fld} (h : FldRow w (some ⟨g, o, none⟩) fs) (hp : 1 ≤ fs.length) : w.cell? ⟨g, o, none⟩ = some (.string (fat fs 0).name) ∧ w.cell? ⟨g, o + 1, none⟩ = some (.int .i64 (fat fs 0).kind) ∧ w.cell? ⟨g, o + 2, none⟩ = some (.int .i64 (fat fs 0).weight) := by
  obtain ⟨g', o', e, _, hc⟩ := h (by omega)
  cases e
  have := hc 0 (by omega)
  simpa using this
theorem fldsSmall_snoc {fs : List Fld} {z : Fld} (h : FldsSmall fs) (hz : z.name.size ≤ 1048576) : FldsSmall (fs ++ [z]) := fun i hi => by
  by_cases e : i < fs.length
  · rw [fat_left _ _ _ e]; exact h i e
  · have hi' : i = fs.length := by simp at hi; omega
    subst hi'
    rw [fat_last]
    exact hz

set_option maxRecDepth 100000 in
set_option maxHeartbeats 4000000 in
theorem wFnFieldsMore (a0 : Option Addr) (len0 cap0 : Nat) (w : World) (b0 : BytesIn w a0 len0 cap0) :
    Calls Tryd.prog 4 #[.slice a0 len0 cap0] w fun e w' => e = .returned (.bool true) ∧ Below w.heap.size w w' := by
  obtain ⟨i0, hi, hz0, hz1, hz2⟩ := info_parts infoFld
  have m0 := b0.le
  have m1 := b0.max
  unfold maxLen at m1
  by_cases hbig0 : 1048576 < (len0 : Int)
  · clear b0
    go_enter Tryd.func4, Tryd.ntmps4
    go_wp2
    go_ret
    exact ⟨rfl, Below.refl _ _⟩
  go_enter Tryd.func4, Tryd.ntmps4
  go_wp2_with fail
  refine (drawFieldsOk_any _ _ _ _ b0).mono ?_
  rintro e u1 ⟨v, fs, rfl, hfl, hfb, hown, hb1⟩
  clear b0
  obtain ⟨p1, c1, rfl, hc1, -, r1⟩ := owns_fldRow hown (fldTo_cells fs)
  have hsm := hfb.small
  have HFI : Hid (∀ wx, FldRow wx p1 fs → Calls Tryd.prog 9 #[.slice p1 fs.length c1] wx fun e w' => e = .returned (.bool (fieldsB fs)) ∧ Below wx.heap.size wx w') := fun wx h => fieldsI_any p1 c1 fs wx (by omega) hc1 hsm h
  have HFS : Hid (∀ wx, FldRow wx p1 fs → Calls Tryd.prog 10 #[.slice p1 fs.length c1] wx fun e w' => e = .returned (.bool (fieldsB fs)) ∧ Below wx.heap.size wx w') := fun wx h => fieldsS_any p1 c1 fs wx (by omega) hsm h
  have HPI : Hid (∀ wx, FldRow wx p1 fs → Calls Tryd.prog 6 #[.slice p1 fs.length c1] wx fun e w' => e = .returned (.string (putB fs)) ∧ Below wx.heap.size wx w') := fun wx h => putI_any p1 c1 fs wx (by omega) hc1 hsm h
  have HFB : Hid (FldsB fs) := hfb
  have HSM : Hid (FldsSmall fs) := hsm
  clear hown hfb hsm
  go_wp2_with fail
  refine (HFI.out _ r1).mono ?_
  rintro e u2 ⟨rfl, hb2⟩
  have r2 := r1.below hb2
  have hw2 := below_trans hb1 hb2
  clear r1 hb1 hb2
  go_wp2_with fail
  refine (HFS.out _ r2).mono ?_
  rintro e u3 ⟨rfl, hb3⟩
  have r3 := r2.below hb3
  have hw3 := below_trans hw2 hb3
  clear r2 hw2 hb3
  have HR : Hid (FldRow u3 p1 fs) := r3
  clear r3
  by_cases hO : fieldsB fs = false
  · have hO' := hO
    rw [hO]
    go_wp2_with fail
    refine (HFS.out _ HR.out).mono ?_
    rintro e u4 ⟨rfl, hb4⟩
    rw [hO']
    go_wp2
    go_ret
    exact ⟨rfl, below_trans hw3 hb4⟩
  have hO1 : fieldsB fs = true := by simpa using hO
  have HO : Hid (fieldsB fs = true) := hO1
  have hpos : 1 ≤ fs.length := by
    have h2 := hO1
    simp only [fieldsB, Bool.and_eq_true, decide_eq_true_eq] at h2
    exact h2.1.1
  by_cases h4 : 4 ≤ fs.length
  · have h4' : (4 : Int) ≤ (fs.length : Int) := by omega
    rw [hO1]
    clear hO
    go_wp2_with fail
    refine (HFS.out _ HR.out).mono ?_
    rintro e u4 ⟨rfl, hb4⟩
    rw [HO.out]
    clear hO1
    go_wp2
    go_ret
    exact ⟨rfl, below_trans hw3 hb4⟩
  rw [hO1]
  clear hO hO1
  have h4d : decide ((4 : Int) ≤ (fs.length : Int)) = false := decide_eq_false (by omega)
  obtain ⟨g1, o1, rfl, hg1, hcells⟩ := HR.out (by omega)
  clear hcells
  have HROW : Hid (FldRow u3 (some ⟨g1, o1, none⟩) fs) := HR.out
  clear HR HFI HFS
  have HCL : Hid ((fldCells fs).length = fs.length * 3) := fldCells_len fs
  have HLIT : Hid ((u3.alloc (.cells #[] 33)).ownsRow u3.heap.size 33 3 (.slice (some ⟨u3.heap.size, 0, none⟩) 0 0) 0 []) := World.ownsRow_lit u3 #[] 0 (Nat.le_refl _) (by decide) rfl
  have HN : Hid (∀ j u, (fldCells fs)[j]? = some u → (u3.alloc (.cells #[] 33)).cell? ((⟨g1, o1, none⟩ : Addr).add j) = some u) := fldRow_cells (HROW.out.below ((Below.refl _ u3).alloc (Nat.le_refl _) _))
  go_wp2_with (at_builtin; refine wpList_append_own _ rfl _ _ 23 rfl u3.heap.size 33 i0 (.agg #[.string ⟨#[]⟩, .int .i64 0, .int .i64 0]) 3 32 Tryd.underlying23 hi hz0 hz1 hz2 rfl (by decide) _ _ _ rfl HLIT.out ⟨g1, o1, none⟩ fs.length c1 (fldCells fs) rfl HCL.out HN.out (flds_one _) (by unfold maxLen; omega) (by omega) (by simp) ?_)
  intro v4 u4 hown4 hgrow4 _
  have HO4 : Hid (u4.ownsRow u3.heap.size 33 3 v4 fs.length (fldCells fs)) := by
    unfold Hid
    simpa using hown4
  have hb4 : Below u3.heap.size u3 u4 := ((Below.refl _ u3).alloc (Nat.le_refl _) _).grown hgrow4 (by simp) (fun j hj => by cases hj; exact Nat.le_refl _)
  have hs4 := hb4.size
  clear hown4 hgrow4 HLIT HN
  go_wp2_with (at_builtin; refine wpList_append_own _ rfl _ _ 23 rfl u3.heap.size 33 i0 (.agg #[.string ⟨#[]⟩, .int .i64 0, .int .i64 0]) 3 32 Tryd.underlying23 hi hz0 hz1 hz2 rfl (by decide) _ _ _ rfl (HO4.out.alloc _) ⟨u4.heap.size, 0, none⟩ 1 1 [.string sZ, .int .i64 2, .int .i64 0] rfl rfl (cells_new _ _ _) (three_one _ _ _) (by unfold maxLen; omega) (by omega) (by simp; omega) ?_)
  intro v5 u5 hown5 hgrow5 _
  have hb5 : Below u3.heap.size u3 u5 := (hb4.alloc hb4.size _).grown hgrow5 (by have := (hb4.alloc hb4.size (.cells #[.string sZ, .int .i64 2, .int .i64 0] 33)).size; exact this) (fun j hj => (HO4.out.lt j hj).1)
  obtain ⟨g5, c5, rfl⟩ : ∃ g5 c5, v5 = .slice (some ⟨g5, 0, none⟩) (fs.length + 1) c5 := by
    rcases hown5.2 with ⟨e, h⟩ | ⟨g, c, cur, e, _⟩
    · omega
    · exact ⟨g, c, e⟩
  have R5 := row_more (z := fZ) rfl hown5
  have hc5 := R5.2
  have HM5 : Hid (FldRow u5 (some ⟨g5, 0, none⟩) (fs ++ [fZ])) := R5.1
  have HR5 : Hid (FldRow u5 (some ⟨g1, o1, none⟩) fs) := HROW.out.below hb5
  have hw5 := below_trans hw3 hb5
  have hg5 : g1 < u5.heap.size := by have := hb5.size; omega
  clear R5 hown5 hgrow5 HO4 hb4 hb5 HROW
  have HFN : Hid (fieldsB (fs ++ [fat fs 0]) = false) := fieldsB_same (by omega)
  have HS0 : Hid ((fat fs 0).name.size ≤ 1048576) := HSM.out 0 (by omega)
  have X5 := row_first HR5.out hpos
  have HXC : Hid (∀ wx, FldRow wx (some ⟨g1, o1, none⟩) fs → wx.cell? ⟨g1, o1, none⟩ = some (.string (fat fs 0).name) ∧ wx.cell? ⟨g1, o1 + 1, none⟩ = some (.int .i64 (fat fs 0).kind) ∧ wx.cell? ⟨g1, o1 + 2, none⟩ = some (.int .i64 (fat fs 0).weight)) := fun wx h => row_first h hpos
  generalize fat fs 0 = f0 at *
  obtain ⟨nm, kd, wt⟩ := f0
  simp only at X5 HXC HS0
  obtain ⟨x0, x1, x2⟩ := X5
  have HA : Hid ((u5.alloc (.cells #[] 33)).drew.ownsRow u5.heap.size 33 3 (.slice (some ⟨u5.heap.size, 0, none⟩) 0 0) 0 []) := World.ownsRow_lit u5 #[] 0 (Nat.le_refl _) (by decide) rfl
  have HA0 : (u5.alloc (.cells #[] 33)).ownsRow u5.heap.size 33 3 (.slice (some ⟨u5.heap.size, 0, none⟩) 0 0) 0 [] := World.ownsRow_lit u5 #[] 0 (Nat.le_refl _) (by decide) rfl
  have HC : Hid (((u5.alloc (.cells #[] 33)).alloc (.cells #[.string nm, .int .i64 kd, .int .i64 wt] 33)).drew.ownsRow u5.heap.size 33 3 (.slice (some ⟨u5.heap.size, 0, none⟩) 0 0) 0 []) := And.intro (HA0.alloc (.cells #[.string nm, .int .i64 kd, .int .i64 wt] 33)).1 (HA0.alloc (.cells #[.string nm, .int .i64 kd, .int .i64 wt] 33)).2
  have HF0 : ((u5.alloc (.cells #[.string nm, .int .i64 kd, .int .i64 wt] 33)).alloc (.cells #[] 33)).ownsRow u5.heap.size 33 3 (.slice (some ⟨u5.heap.size + 1, 0, none⟩) 0 0) 0 [] := by
    have h := World.ownsRow_lit (e := 33) (size := 3) (u5.alloc (.cells #[.string nm, .int .i64 kd, .int .i64 wt] 33)) #[] 0 (Nat.le_refl _) (by decide) rfl
    rw [show (u5.alloc (.cells #[.string nm, .int .i64 kd, .int .i64 wt] 33)).heap.size = u5.heap.size + 1 from by simp] at h
    exact ownsRow_mono h (by omega)
  have HF : Hid (((u5.alloc (.cells #[.string nm, .int .i64 kd, .int .i64 wt] 33)).alloc (.cells #[] 33)).drew.ownsRow u5.heap.size 33 3 (.slice (some ⟨u5.heap.size + 1, 0, none⟩) 0 0) 0 []) := And.intro HF0.1 HF0.2
  have hb0 : Below u5.heap.size u5 (u5.alloc (.cells #[] 33)) := (Below.refl _ u5).alloc (Nat.le_refl _) _
  have hb1 : Below u5.heap.size u5 ((u5.alloc (.cells #[] 33)).alloc (.cells #[.string nm, .int .i64 kd, .int .i64 wt] 33)) := hb0.alloc hb0.size _
  have hb2 : Below u5.heap.size u5 (u5.alloc (.cells #[.string nm, .int .i64 kd, .int .i64 wt] 33)) := (Below.refl _ u5).alloc (Nat.le_refl _) _
  have hb3 : Below u5.heap.size u5 ((u5.alloc (.cells #[.string nm, .int .i64 kd, .int .i64 wt] 33)).alloc (.cells #[] 33)) := hb2.alloc hb2.size _
  have hbA : Below u5.heap.size u5 (u5.alloc (.cells #[] 33)).drew := ⟨hb0.os, hb0.tape, hb0.output, hb0.size, hb0.block⟩
  have hbC : Below u5.heap.size u5 ((u5.alloc (.cells #[] 33)).alloc (.cells #[.string nm, .int .i64 kd, .int .i64 wt] 33)).drew := ⟨hb1.os, hb1.tape, hb1.output, hb1.size, hb1.block⟩
  have hbF : Below u5.heap.size u5 ((u5.alloc (.cells #[.string nm, .int .i64 kd, .int .i64 wt] 33)).alloc (.cells #[] 33)).drew := ⟨hb3.os, hb3.tape, hb3.output, hb3.size, hb3.block⟩
  have HNA : Hid (∀ j u, (fldCells fs)[j]? = some u → (u5.alloc (.cells #[] 33)).drew.cell? ((⟨g1, o1, none⟩ : Addr).add j) = some u) := fldRow_cells (HR5.out.below hbA)
  have HNC : Hid (∀ j u, (fldCells fs)[j]? = some u → ((u5.alloc (.cells #[] 33)).alloc (.cells #[.string nm, .int .i64 kd, .int .i64 wt] 33)).drew.cell? ((⟨g1, o1, none⟩ : Addr).add j) = some u) := fldRow_cells (HR5.out.below hbC)
  have HNF : Hid (∀ j u, (fldCells fs)[j]? = some u → ((u5.alloc (.cells #[.string nm, .int .i64 kd, .int .i64 wt] 33)).alloc (.cells #[] 33)).drew.cell? ((⟨g1, o1, none⟩ : Addr).add j) = some u) := fldRow_cells (HR5.out.below hbF)
  have HLC : Hid (∀ j u, [Value.string nm, Value.int .i64 kd, Value.int .i64 wt][j]? = some u → ((u5.alloc (.cells #[] 33)).alloc (.cells #[.string nm, .int .i64 kd, .int .i64 wt] 33)).drew.cell? ((⟨u5.heap.size + 1, 0, none⟩ : Addr).add j) = some u) := by
    have h := cells_new (u5.alloc (.cells #[] 33)) [Value.string nm, Value.int .i64 kd, Value.int .i64 wt] 33
    rw [show (u5.alloc (.cells #[] 33)).heap.size = u5.heap.size + 1 from by simp] at h
    exact h
  have HLF : Hid (∀ j u, [Value.string nm, Value.int .i64 kd, Value.int .i64 wt][j]? = some u → ((u5.alloc (.cells #[.string nm, .int .i64 kd, .int .i64 wt] 33)).alloc (.cells #[] 33)).drew.cell? ((⟨u5.heap.size, 0, none⟩ : Addr).add j) = some u) := fun j u h => by
    have h1 := cells_new u5 [Value.string nm, Value.int .i64 kd, Value.int .i64 wt] 33 j u h
    rw [addr_add] at h1 ⊢
    exact (((Below.refl _ (u5.alloc (.cells #[.string nm, .int .i64 kd, .int .i64 wt] 33))).alloc (Nat.le_refl _) (.cells #[] 33)).cell (p := ⟨u5.heap.size, 0 + j, none⟩) (by simp)).trans h1
  clear HA0 HF0 hb0 hb1 hb2 hb3
  have HMB : Hid (fieldsB (fs ++ [fZ]) = true) := fieldsB_more HO.out (by omega) HFB.out
  have HPB : Hid (putB (fs ++ [fZ]) = putB fs ++ ⟨#[32, 122, 122, 122, 122, 58, 110, 117, 109]⟩) := putB_more HO.out (by omega) HFB.out
  have hSz := putB_size fs
  have hpos1 : 0 < fs.length := hpos
  have hpos2 : (0 : Int) < (fs.length : Int) := by omega
  go_wp2_with fail
  go_region_law (first
    | (refine step_append_lies _ (by rfl) _ _ 23 (by rfl) u5.heap.size 33 i0 (.agg #[.string ⟨#[]⟩, .int .i64 0, .int .i64 0]) 3 32 Tryd.underlying23 hi hz0 hz1 hz2 rfl (by decide) (.slice (some ⟨u5.heap.size, 0, none⟩) 0 0) 0 [] (by rfl) (by with_reducible exact HA.out) ⟨g1, o1, none⟩ fs.length c1 (fldCells fs) (by rfl) HCL.out (by with_reducible exact HNA.out) (flds_one _) (by omega) (by unfold maxLen; omega) (by omega) (by simp <;> omega) (u5.heap.size + 1) (by (simp; done)) ?_; intro g6 c6 w6 hown6 hgrow6 _ hlt6; simp only [Nat.zero_add, List.nil_append] at hown6 ⊢; have hb6 : Below u5.heap.size u5 w6 := hbA.grown ⟨hgrow6.os, hgrow6.tape, hgrow6.output, hgrow6.size, hgrow6.block⟩ hbA.size (fun j hj => by cases hj; first | exact Nat.le_refl _ | exact Nat.le_succ _); obtain ⟨y0, y1, y2⟩ := HXC.out _ (HR5.out.below hb6); have HO6 : Hid (w6.ownsRow u5.heap.size 33 3 (.slice (some ⟨g6, 0, none⟩) fs.length c6) fs.length (fldCells fs)) := hown6; have hs6 := hb6.size; clear hown6 hgrow6)
    | (refine step_append_lies _ (by rfl) _ _ 23 (by rfl) u5.heap.size 33 i0 (.agg #[.string ⟨#[]⟩, .int .i64 0, .int .i64 0]) 3 32 Tryd.underlying23 hi hz0 hz1 hz2 rfl (by decide) (.slice (some ⟨u5.heap.size, 0, none⟩) 0 0) 0 [] (by rfl) (by with_reducible exact HC.out) ⟨g1, o1, none⟩ fs.length c1 (fldCells fs) (by rfl) HCL.out (by with_reducible exact HNC.out) (flds_one _) (by omega) (by unfold maxLen; omega) (by omega) (by simp <;> omega) (u5.heap.size + 1 + 1) (by (simp; done)) ?_; intro g6 c6 w6 hown6 hgrow6 _ hlt6; simp only [Nat.zero_add, List.nil_append] at hown6 ⊢; have hb6 : Below u5.heap.size u5 w6 := hbC.grown ⟨hgrow6.os, hgrow6.tape, hgrow6.output, hgrow6.size, hgrow6.block⟩ hbC.size (fun j hj => by cases hj; first | exact Nat.le_refl _ | exact Nat.le_succ _); obtain ⟨y0, y1, y2⟩ := HXC.out _ (HR5.out.below hb6); have hl6 : ∀ j u, [Value.string nm, Value.int .i64 kd, Value.int .i64 wt][j]? = some u → w6.cell? ((⟨u5.heap.size + 1, 0, none⟩ : Addr).add j) = some u := fun j u h => hgrow6.cell (HLC.out j u h) (by rw [addr_add]; simp [Value.ownBlock]); have HO6 : Hid (w6.ownsRow u5.heap.size 33 3 (.slice (some ⟨g6, 0, none⟩) fs.length c6) fs.length (fldCells fs)) := hown6; have hs6 := hb6.size; clear hown6 hgrow6)
    | (refine step_append_lies _ (by rfl) _ _ 23 (by rfl) u5.heap.size 33 i0 (.agg #[.string ⟨#[]⟩, .int .i64 0, .int .i64 0]) 3 32 Tryd.underlying23 hi hz0 hz1 hz2 rfl (by decide) (.slice (some ⟨u5.heap.size + 1, 0, none⟩) 0 0) 0 [] (by rfl) (by with_reducible exact HF.out) ⟨g1, o1, none⟩ fs.length c1 (fldCells fs) (by rfl) HCL.out (by with_reducible exact HNF.out) (flds_one _) (by omega) (by unfold maxLen; omega) (by omega) (by simp <;> omega) (u5.heap.size + 1 + 1) (by (simp; done)) ?_; intro g6 c6 w6 hown6 hgrow6 _ hlt6; simp only [Nat.zero_add, List.nil_append] at hown6 ⊢; have hb6 : Below u5.heap.size u5 w6 := hbF.grown ⟨hgrow6.os, hgrow6.tape, hgrow6.output, hgrow6.size, hgrow6.block⟩ hbF.size (fun j hj => by cases hj; first | exact Nat.le_refl _ | exact Nat.le_succ _); obtain ⟨y0, y1, y2⟩ := HXC.out _ (HR5.out.below hb6); have hl6 : ∀ j u, [Value.string nm, Value.int .i64 kd, Value.int .i64 wt][j]? = some u → w6.cell? ((⟨u5.heap.size, 0, none⟩ : Addr).add j) = some u := fun j u h => hgrow6.cell (HLF.out j u h) (by rw [addr_add]; simp [Value.ownBlock]); have HO6 : Hid (w6.ownsRow u5.heap.size 33 3 (.slice (some ⟨g6, 0, none⟩) fs.length c6) fs.length (fldCells fs)) := hown6; have hs6 := hb6.size; clear hown6 hgrow6)
    | (refine step_append_lies _ (by rfl) _ _ 23 (by rfl) u5.heap.size 33 i0 (.agg #[.string ⟨#[]⟩, .int .i64 0, .int .i64 0]) 3 32 Tryd.underlying23 hi hz0 hz1 hz2 rfl (by decide) (.slice (some ⟨g6, 0, none⟩) fs.length c6) fs.length (fldCells fs) (by rfl) (HO6.out.alloc _) ⟨w6.heap.size, 0, none⟩ 1 1 [.string nm, .int .i64 kd, .int .i64 wt] (by rfl) rfl (cells_new _ _ _) (three_one _ _ _) (by omega) (by unfold maxLen; omega) (by omega) (by first | omega | (simp; omega)) (w6.heap.size + 1) (by (simp; done)) ?_; intro g7 c7 w7 hown7 hgrow7 _ hlt7; have hb7 : Below u5.heap.size u5 w7 := (hb6.alloc hb6.size (.cells #[.string nm, .int .i64 kd, .int .i64 wt] 33)).grown ⟨hgrow7.os, hgrow7.tape, hgrow7.output, hgrow7.size, hgrow7.block⟩ (hb6.alloc hb6.size (.cells #[.string nm, .int .i64 kd, .int .i64 wt] 33)).size (fun j hj => (HO6.out.lt j hj).1); have HO7 : Hid (w7.ownsRow u5.heap.size 33 3 (.slice (some ⟨g7, 0, none⟩) (fs.length + 1) c7) (fs.length + 1) (fldCells fs ++ [.string nm, .int .i64 kd, .int .i64 wt])) := hown7; clear hown7 hgrow7)
    | (refine step_append_lies _ (by rfl) _ _ 23 (by rfl) u5.heap.size 33 i0 (.agg #[.string ⟨#[]⟩, .int .i64 0, .int .i64 0]) 3 32 Tryd.underlying23 hi hz0 hz1 hz2 rfl (by decide) (.slice (some ⟨g6, 0, none⟩) fs.length c6) fs.length (fldCells fs) (by rfl) (HO6.out) ⟨u5.heap.size + 1, 0, none⟩ 1 1 [.string nm, .int .i64 kd, .int .i64 wt] (by rfl) rfl (hl6) (three_one _ _ _) (by omega) (by unfold maxLen; omega) (by omega) (by first | omega | (simp; omega)) (w6.heap.size) rfl ?_; intro g7 c7 w7 hown7 hgrow7 _ hlt7; have hb7 : Below u5.heap.size u5 w7 := (hb6).grown ⟨hgrow7.os, hgrow7.tape, hgrow7.output, hgrow7.size, hgrow7.block⟩ (hb6).size (fun j hj => (HO6.out.lt j hj).1); have HO7 : Hid (w7.ownsRow u5.heap.size 33 3 (.slice (some ⟨g7, 0, none⟩) (fs.length + 1) c7) (fs.length + 1) (fldCells fs ++ [.string nm, .int .i64 kd, .int .i64 wt])) := hown7; clear hown7 hgrow7)
    | (refine step_append_lies _ (by rfl) _ _ 23 (by rfl) u5.heap.size 33 i0 (.agg #[.string ⟨#[]⟩, .int .i64 0, .int .i64 0]) 3 32 Tryd.underlying23 hi hz0 hz1 hz2 rfl (by decide) (.slice (some ⟨g6, 0, none⟩) fs.length c6) fs.length (fldCells fs) (by rfl) (HO6.out) ⟨u5.heap.size, 0, none⟩ 1 1 [.string nm, .int .i64 kd, .int .i64 wt] (by rfl) rfl (hl6) (three_one _ _ _) (by omega) (by unfold maxLen; omega) (by omega) (by first | omega | (simp; omega)) (w6.heap.size) rfl ?_; intro g7 c7 w7 hown7 hgrow7 _ hlt7; have hb7 : Below u5.heap.size u5 w7 := (hb6).grown ⟨hgrow7.os, hgrow7.tape, hgrow7.output, hgrow7.size, hgrow7.block⟩ (hb6).size (fun j hj => (HO6.out.lt j hj).1); have HO7 : Hid (w7.ownsRow u5.heap.size 33 3 (.slice (some ⟨g7, 0, none⟩) (fs.length + 1) c7) (fs.length + 1) (fldCells fs ++ [.string nm, .int .i64 kd, .int .i64 wt])) := hown7; clear hown7 hgrow7)
    | fail)
  all_goals
    obtain ⟨hm7, hc7⟩ := row_more (z := ⟨nm, kd, wt⟩) rfl HO7.out
    have HM7 : Hid (FldRow w7 (some ⟨g5, 0, none⟩) (fs ++ [fZ])) := HM5.out.below hb7
    have HR7 : Hid (FldRow w7 (some ⟨g1, o1, none⟩) fs) := HR5.out.below hb7
    have HS7 : Hid (FldRow w7 (some ⟨g7, 0, none⟩) (fs ++ [⟨nm, kd, wt⟩])) := hm7
    have hw7 := below_trans hw5 hb7
    clear hm7 hb7 HO7 HO6 HXC x0 x1 x2 y0 y1 y2 HA HC HF hbA hbC hbF HNA HNC HNF HLC HLF HM5 HR5 hb6 hw5
    go_wp2_with fail
    refine (okI_len (some ⟨g5, 0, none⟩) c5 (fs.length + 1) (fs ++ [fZ]) _ (by simp) (by omega) hc5 (fldsSmall_snoc HSM.out (by decide)) HM7.out).mono ?_
    rintro e w8 ⟨rfl, hb8⟩
    rw [HMB.out]
    have HM8 : Hid (FldRow w8 (some ⟨g5, 0, none⟩) (fs ++ [fZ])) := HM7.out.below hb8
    have HR8 : Hid (FldRow w8 (some ⟨g1, o1, none⟩) fs) := HR7.out.below hb8
    have HS8 : Hid (FldRow w8 (some ⟨g7, 0, none⟩) (fs ++ [⟨nm, kd, wt⟩])) := HS7.out.below hb8
    have hw8 := below_trans hw7 hb8
    clear HM7 HR7 HS7 hb8 hw7
    go_wp2_with fail
    refine (okI_len (some ⟨g7, 0, none⟩) c7 (fs.length + 1) (fs ++ [⟨nm, kd, wt⟩]) _ (by simp) (by omega) hc7 (fldsSmall_snoc HSM.out HS0.out) HS8.out).mono ?_
    rintro e w9 ⟨rfl, hb9⟩
    rw [HFN.out]
    have HM9 : Hid (FldRow w9 (some ⟨g5, 0, none⟩) (fs ++ [fZ])) := HM8.out.below hb9
    have HR9 : Hid (FldRow w9 (some ⟨g1, o1, none⟩) fs) := HR8.out.below hb9
    have hw9 := below_trans hw8 hb9
    clear HM8 HR8 HS8 hb9 hw8
    go_wp2_with fail
    refine (putI_len (some ⟨g5, 0, none⟩) c5 (fs.length + 1) (fs ++ [fZ]) _ (by simp) (by omega) hc5 (fldsSmall_snoc HSM.out (by decide)) HM9.out).mono ?_
    rintro e w10 ⟨rfl, hb10⟩
    rw [HPB.out]
    have HR10 : Hid (FldRow w10 (some ⟨g1, o1, none⟩) fs) := HR9.out.below hb10
    have hw10 := below_trans hw9 hb10
    clear HM9 HR9 hb10 hw9
    go_wp2_with fail
    refine (HPI.out _ HR10.out).mono ?_
    rintro e w11 ⟨rfl, hb11⟩
    have hw11 := below_trans hw10 hb11
    clear HPI HR10 hb11 hw10 HPB
    generalize putB fs = S at *
    go_wp2
    go_ret
    exact ⟨rfl, hw11⟩
end Go.Proofs.YtelkaieknliflaaDoor
