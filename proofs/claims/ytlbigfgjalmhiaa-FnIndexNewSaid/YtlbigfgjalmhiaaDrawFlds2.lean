/- The draw of any fields. -/
import Derived.Test.YtlbigfgjalmhiaaDrawFlds
import Derived.Test.YtlbigfgjalmhiaaOne
import Derived.Test.YtlbigfgjalmhiaaFldsOk2
import Derived.Test.YtlbigfgjalmhiaaFldCells
import Derived.Laws.AppendOwn
namespace Go.Proofs.Ytlbigfgjalmhiaa
open Go.RowKit
set_option linter.unusedVariables false

abbrev sZ : ByteArray := ⟨#[122, 122, 122, 122]⟩
def FldsB (fs : List Fld) : Prop := ∀ f ∈ fs, f.name.size ≤ 9 ∧ f.name ≠ sZ
theorem FldsB.small {fs : List Fld} (h : FldsB fs) : FldsSmall fs := fun i hi => by
  rw [fat_get _ _ hi]
  have := h _ (List.getElem_mem hi)
  omega
theorem FldsB.snoc {fs : List Fld} (h : FldsB fs) {f : Fld} (hf : f.name.size ≤ 9 ∧ f.name ≠ sZ) : FldsB (fs ++ [f]) := fun x hx => by
  rcases List.mem_append.1 hx with hx | hx
  · exact h x hx
  · rw [List.mem_singleton.1 hx]; exact hf
theorem four_small {fs : List Fld} {off : Nat} (h : Four fs off) : FldsB fs ∧ 1 ≤ fs.length ∧ fs.length ≤ 4 := by
  have h4 : FldsB fields4 := by unfold FldsB fields4; decide +kernel
  rcases h with ⟨rfl, rfl⟩ | ⟨rfl, rfl⟩ | ⟨rfl, rfl⟩
  · exact ⟨h4, by decide, by decide⟩
  · exact ⟨fun f hf => h4 f (List.mem_of_mem_take hf), by decide, by decide⟩
  · exact ⟨fun f hf => h4 f (List.mem_of_mem_drop hf), by decide, by decide⟩
/-- What a draw of fields leaves: they are the call's own, the reader is on. -/
def DF (w w' : World) (R : Nat) (a : Option Addr) (len cap : Nat) (v : Value) (fs : List Fld) (p : Nat) : Prop :=
  w'.ownsRow w.heap.size 60 3 v fs.length (fldCells fs) ∧ Rd w' R a len cap p ∧ w.grownBy w' (some R)
theorem DF.picked {w w1 w2 : World} {R : Nat} {a : Option Addr} {len cap : Nat} {v : Value} {fs : List Fld} {p q : Nat} (h : DF w w1 R a len cap v fs p) (hR : Rd w2 R a len cap q) (hg : w1.grownBy w2 (some R)) (hlt : R < w.heap.size) : DF w w2 R a len cap v fs q :=
  ⟨own_kept h.1 hg hlt, hR, grown_trans h.2.2 hg⟩
theorem DF.alloc {w w1 : World} {R : Nat} {a : Option Addr} {len cap : Nat} {v : Value} {fs : List Fld} {p : Nat} (h : DF w w1 R a len cap v fs p) (o : Obj) : DF w (w1.alloc o) R a len cap v fs p :=
  ⟨h.1.alloc o, h.2.1.alloc o, grown_trans h.2.2 (grown_alloc _ _ _)⟩
theorem DF.snoc {w w1 w2 : World} {R : Nat} {a : Option Addr} {len cap : Nat} {v v' : Value} {fs : List Fld} {f : Fld} {p : Nat} {o : Obj} (h : DF w w1 R a len cap v fs p) (hlt : R < w.heap.size)
    (ho : w2.ownsRow w.heap.size 60 3 v' (fs.length + 1) (fldCells fs ++ [.string f.name, .int .i64 f.kind, .int .i64 f.weight])) (hg : (w1.alloc o).grownBy w2 v.ownBlock) : DF w w2 R a len cap v' (fs ++ [f]) p := by
  have hl : ∀ j, v.ownBlock = some j → w.heap.size ≤ j := fun j hj => (h.1.lt j hj).1
  refine ⟨?_, (h.2.1.alloc o).grown hg (fun j hj => by have := hl j hj; omega), grown_own (grown_trans h.2.2 (grown_alloc _ _ _)) hg hl⟩
  rw [fldCells_snoc, List.length_append]
  exact ho
/-- The first one's weight is another one. -/
def setW (fs : List Fld) (z : Int) : List Fld := match fs with
  | [] => []
  | f :: r => ⟨f.name, f.kind, z⟩ :: r
theorem setW_len (fs : List Fld) (z : Int) : (setW fs z).length = fs.length := by cases fs <;> rfl
theorem setW_cells (fs : List Fld) (z : Int) (h : 0 < fs.length) : fldCells (setW fs z) = (fldCells fs).set 2 (.int .i64 z) := by
  cases fs with
  | nil => exact absurd h (by simp)
  | cons f r => simp only [setW]; rw [fldCells_cons, fldCells_cons]; rfl
theorem setW_small {fs : List Fld} (h : FldsB fs) (z : Int) : FldsB (setW fs z) := by
  cases fs with
  | nil => exact h
  | cons f r =>
    intro x hx
    rcases List.mem_cons.1 hx with rfl | hx
    · exact h f (List.mem_cons_self ..)
    · exact h x (List.mem_cons_of_mem _ hx)
theorem DF.weight {w w1 : World} {R g c : Nat} {a : Option Addr} {len cap : Nat} {fs : List Fld} {p : Nat} (h : DF w w1 R a len cap (.slice (some ⟨g, 0, none⟩) fs.length c) fs p) (hlt : R < w.heap.size) (hp : 0 < fs.length) (z : Int) :
    DF w (w1.setCell ⟨g, 2, none⟩ (.int .i64 z)) R a len cap (.slice (some ⟨g, 0, none⟩) fs.length c) (setW fs z) p := by
  have hl := (h.1.lt g rfl).1
  obtain ⟨ho, hg⟩ := h.1.stored 2 (.int .i64 z)
  refine ⟨by rw [setW_len, setW_cells _ _ hp]; exact ho, Blk.other h.2.1 (by show R ≠ g; omega) _, ?_⟩
  have gr := h.2.2
  exact ⟨gr.os, gr.tape, gr.output, by simpa [World.setCell] using gr.size, fun i hi hn => (Below.heap_setCell _ _ _ _ (by show i ≠ g; omega)).trans (gr.block i hi hn)⟩

set_option maxHeartbeats 4000000 in
set_option maxRecDepth 100000 in
theorem l11AnyFields_any (R : Nat) (a : Option Addr) (len cap k : Nat) (w : World) (hR : Rd w R a len cap k) (hC : Code w R a len) (hk : k ≤ 800000) :
    Calls Try.prog 9 #[.pointer (some ⟨R, 0, none⟩)] w fun e w' => ∃ (v : Value) (fs : List Fld) (p : Nat), e = .returned v ∧ fs.length ≤ 5 ∧ FldsB fs ∧ p ≤ k + 9 ∧ DF w w' R a len cap v fs p := by
  obtain ⟨i0, hi, hz0, hz1, hz2⟩ := info_parts infoFld
  have hlt := hR.lt
  have HR : Hid (Rd w R a len cap k) := hR
  have HC : Hid (Code w R a len) := hC
  have hlit : (w.alloc (.cells #[] 60)).ownsRow w.heap.size 60 3 (.slice (some ⟨w.heap.size, 0, none⟩) 0 0) 0 [] := World.ownsRow_lit w #[] 0 (Nat.le_refl _) (by decide) rfl
  have HLIT : Hid ((w.alloc (.cells #[] 60)).ownsRow w.heap.size 60 3 (.slice (some ⟨w.heap.size, 0, none⟩) 0 0) 0 []) := hlit
  clear hR hC hlit
  go_enter Try.func9, Try.ntmps9
  go_wp2_with fail
  refine (l11Fields_any R a len cap k _ (HR.out.alloc _) (HC.out.kept (grown_alloc _ _ _) hlt) (by omega)).mono ?_
  rintro e w1 ⟨F, off, n, c, fs, rfl, hn, hnc, hfour, hF, hrow4, hR1, hg1⟩
  subst hn
  have hsm := four_small hfour
  have hn1 := hsm.2.1
  have hn4 := hsm.2.2
  have HB : Hid (FldsB fs) := hsm.1
  have hrow := fldRow_cells (four_row hfour hrow4)
  have HN : Hid (∀ j u, (fldCells fs)[j]? = some u → w1.cell? ((⟨F, off, none⟩ : Addr).add j) = some u) := hrow
  have HL1 : Hid (w1.ownsRow w.heap.size 60 3 (.slice (some ⟨w.heap.size, 0, none⟩) 0 0) 0 []) := own_kept HLIT.out hg1 hlt
  have HG1 : Hid (w.grownBy w1 (some R)) := grown_trans (grown_alloc _ _ _) hg1
  have HR1 : Hid (Rd w1 R a len cap ((k + 1 : Nat) : Int)) := hR1
  have hs1 := HG1.out.size
  have HCL : Hid ((fldCells fs).length = fs.length * 3) := fldCells_len fs
  clear hsm hrow hrow4 hR1 hg1 HLIT HR hfour
  go_wp2_with (at_builtin; refine wpList_append_own _ rfl _ _ 23 rfl w.heap.size 60 i0 (.agg #[.string ⟨#[]⟩, .int .i64 0, .int .i64 0]) 3 32 Try.underlying23 hi hz0 hz1 hz2 rfl (by decide) _ _ _ rfl HL1.out ⟨F, off, none⟩ fs.length c (fldCells fs) rfl HCL.out HN.out (flds_one _) (by unfold maxLen; omega) (by omega) (by omega) ?_)
  intro v w2 hown hgrow _
  have hrl : ∀ j, (Value.slice (some ⟨w.heap.size, 0, none⟩) 0 0).ownBlock = some j → w.heap.size ≤ j := fun j hj => (HL1.out.lt j hj).1
  have HD2 : Hid (DF w w2 R a len cap v fs (k + 1)) := ⟨by simpa using hown, HR1.out.grown hgrow (fun j hj => by have := hrl j hj; omega), grown_own HG1.out hgrow hrl⟩
  clear hown hgrow HL1 HN HR1 HG1 HCL hrl
  go_wp2_with fail
  refine (pick_any R a len cap (k + 1) _ _ HD2.out.2.1 (HC.out.kept HD2.out.2.2 hlt) (by omega) (by omega) (by omega)).mono ?_
  rintro e w3 ⟨x, rfl, hx0, hx1, hR3, hg3⟩
  have HD3 : Hid (DF w w3 R a len cap v fs (k + 1 + 1)) := HD2.out.picked hR3 hg3 hlt
  have hs3 := HD3.out.2.2.size
  clear HD2 hR3 hg3 hx0 hx1
  by_cases h0 : x = 0
  · subst h0
    have HST : Hid (Strs (w3.alloc (.cells #[.string ⟨#[116, 105, 116, 108, 101]⟩, .string ⟨#[122]⟩, .string ⟨#[]⟩] 9)) w3.heap.size 3 (fun t => t.size ≤ 9 ∧ t ≠ sZ)) := fun i hi => by
      rw [World.cell?_alloc_new]
      have : i = 0 ∨ i = 1 ∨ i = 2 := by omega
      rcases this with rfl | rfl | rfl <;> exact ⟨_, rfl, by decide +kernel⟩
    have HA : Hid (DF w (w3.alloc (.cells #[.string ⟨#[116, 105, 116, 108, 101]⟩, .string ⟨#[122]⟩, .string ⟨#[]⟩] 9)) R a len cap v fs (k + 1 + 1)) := HD3.out.alloc _
    go_wp2_with fail
    refine (of_any R w3.heap.size 3 a len cap (k + 1 + 1) (fun t => t.size ≤ 9 ∧ t ≠ sZ) _ HA.out.2.1 (HC.out.kept HA.out.2.2 hlt) (by omega) HST.out (by omega) (by omega) (by omega)).mono ?_
    rintro e w4 ⟨t, rfl, ht, hR4, hg4⟩
    have HD4 : Hid (DF w w4 R a len cap v fs (k + 1 + 1 + 1)) := HA.out.picked hR4 hg4 hlt
    clear HA HD3 hR4 hg4 HST
    go_wp2_with fail
    refine (pick_any R a len cap (k + 1 + 1 + 1) _ _ HD4.out.2.1 (HC.out.kept HD4.out.2.2 hlt) (by omega) (by omega) (by omega)).mono ?_
    rintro e w5 ⟨kd, rfl, _, _, hR5, hg5⟩
    have HD5 : Hid (DF w w5 R a len cap v fs (k + 1 + 1 + 1 + 1)) := HD4.out.picked hR5 hg5 hlt
    clear HD4 hR5 hg5
    go_wp2_with fail
    refine (pick_any R a len cap (k + 1 + 1 + 1 + 1) _ _ HD5.out.2.1 (HC.out.kept HD5.out.2.2 hlt) (by omega) (by omega) (by omega)).mono ?_
    rintro e w6 ⟨wt, rfl, _, _, hR6, hg6⟩
    have HD6 : Hid (DF w w6 R a len cap v fs (k + 1 + 1 + 1 + 1 + 1)) := HD5.out.picked hR6 hg6 hlt
    have hs6 := HD6.out.2.2.size
    clear HD5 hR6 hg6
    go_wp2_with (at_builtin; refine wpList_append_own _ rfl _ _ 23 rfl w.heap.size 60 i0 (.agg #[.string ⟨#[]⟩, .int .i64 0, .int .i64 0]) 3 32 Try.underlying23 hi hz0 hz1 hz2 rfl (by decide) _ _ _ rfl (HD6.out.1.alloc _) ⟨w6.heap.size, 0, none⟩ 1 1 [.string t, .int .i64 kd, .int .i64 wt] rfl rfl (cells_new _ _ _) (three_one _ _ _) (by unfold maxLen; omega) (by omega) (by simp; omega) ?_)
    intro v' w7 hown' hgrow _
    have HD7 : Hid (DF w w7 R a len cap v' (fs ++ [⟨t, kd, wt⟩]) (k + 1 + 1 + 1 + 1 + 1)) := HD6.out.snoc hlt hown' hgrow
    clear hown' hgrow HD6
    go_wp2
    go_ret
    exact ⟨v', fs ++ [⟨t, kd, wt⟩], k + 1 + 1 + 1 + 1 + 1, rfl, by simp; omega, HB.out.snoc ht, by omega, HD7.out⟩
  have h0' : (x == 0) = false := by simpa using h0
  by_cases h1 : x = 1
  · subst h1
    obtain ⟨g, cv, hv⟩ : ∃ g cv, v = .slice (some ⟨g, 0, none⟩) fs.length cv := by
      rcases HD3.out.1.2 with ⟨e, h⟩ | ⟨g, c, cur, e, _⟩
      · omega
      · exact ⟨g, c, e⟩
    subst hv
    have HA : Hid (DF w (w3.alloc (.cells #[.int .i64 0, .int .i64 9, .int .i64 10] 3)) R a len cap (.slice (some ⟨g, 0, none⟩) fs.length cv) fs (k + 1 + 1)) := HD3.out.alloc _
    have hS : Hid (∀ i, i < 3 → ∃ z, (w3.alloc (.cells #[.int .i64 0, .int .i64 9, .int .i64 10] 3)).cell? ⟨w3.heap.size, i, none⟩ = some (.int .i64 z)) := fun i hi => by
      rw [World.cell?_alloc_new]
      have : i = 0 ∨ i = 1 ∨ i = 2 := by omega
      rcases this with rfl | rfl | rfl <;> exact ⟨_, rfl⟩
    go_wp2_with fail
    refine (one_any R w3.heap.size 3 a len cap (k + 1 + 1) _ HA.out.2.1 (HC.out.kept HA.out.2.2 hlt) (by omega) hS.out (by omega) (by omega) (by omega)).mono ?_
    rintro e w4 ⟨z, rfl, hR4, hg4⟩
    have HD4 : Hid (DF w w4 R a len cap (.slice (some ⟨g, 0, none⟩) fs.length cv) fs (k + 1 + 1 + 1)) := HA.out.picked hR4 hg4 hlt
    clear HA hS HD3 hR4 hg4
    have z4 := HD4.out.1.cellAt 2 (by omega)
    rw [List.getElem?_eq_getElem (by rw [fldCells_len]; omega)] at z4
    generalize (fldCells fs)[2]'_ = o4 at z4
    have y4 := HD4.out.1.frozenAt 2
    have hpos : (0 : Int) < (fs.length : Int) := by omega
    have HD5 : Hid (DF w (w4.setCell ⟨g, 2, none⟩ (.int .i64 z)) R a len cap (.slice (some ⟨g, 0, none⟩) fs.length cv) (setW fs z) (k + 1 + 1 + 1)) := HD4.out.weight hlt (by omega) z
    clear HD4
    go_wp2
    go_ret
    exact ⟨_, setW fs z, k + 1 + 1 + 1, rfl, by rw [setW_len]; omega, setW_small HB.out z, by omega, HD5.out⟩
  have h1' : (x == 1) = false := by simpa using h1
  by_cases h2 : x = 2
  · subst h2
    go_wp2
    go_ret
    exact ⟨_, [], k + 1 + 1, rfl, by simp, (fun f hf => by cases hf), by omega, World.ownsRow_nil _ _ _ _, HD3.out.2⟩
  · have h2' : (x == 2) = false := by simpa using h2
    clear h0 h1 h2
    go_wp2
    go_ret
    exact ⟨v, fs, k + 1 + 1, rfl, by omega, HB.out, by omega, HD3.out⟩

end Go.Proofs.Ytlbigfgjalmhiaa
