/- The draw of fields, a document and a name. -/
import Derived.Test.YtjkimadnopeakaaGreatDoorDrawDoc4
import Derived.Test.YtjkimadnopeakaaGreatDoorDrA
namespace Go.Proofs.YtjkimadnopeakaaGreatDoor
open Go.RowKit
set_option linter.unusedVariables false

theorem celsB_small {cs : List Cel} (h : CelsB cs) : CelsSmall cs := fun i hi => by
  rw [cat_get _ _ hi]
  have := h _ (List.getElem_mem hi)
  omega
theorem three_small {x y n : ByteArray} (hn : n.size ≤ 18) (hx : x.size ≤ 18 := by decide) (hy : y.size ≤ 18 := by decide) : (#[Value.string x, .string y, .string n] : Array Value).toList.all (strB 18) = true := by
  simp [strB, hn, hx, hy]
theorem l11NameR_any (R : Nat) (a : Option Addr) (len cap k : Nat) (w : World) (hR : Rd w R a len cap k) (hC : Code w R a len) (hk : k ≤ 900000) :
    Calls Tryz.prog 70 #[.pointer (some ⟨R, 0, none⟩)] w fun e w' => ∃ t, e = .returned (.string t) ∧ t.size ≤ 18 ∧ Rd w' R a len cap ((k + 1 : Nat) : Int) ∧ w.grownBy w' (some R) := by
  have hlt := hR.lt
  have HR : Hid (Rd w R a len cap k) := hR
  clear hR
  go_enter Tryz.func70, Tryz.ntmps70
  go_wp2_with fail
  refine (of_any R w.heap.size 5 a len cap k _ _ (HR.out.alloc _) (hC.kept (grown_alloc _ _ _) hlt) (by omega) (strs_new w _ _ 18 (by decide +kernel)) (by omega) (by omega) (by omega)).mono ?_
  rintro e w1 ⟨t, rfl, ht, hR1, hg1⟩
  have HR1 : Hid (Rd w1 R a len cap ((k + 1 : Nat) : Int)) := hR1
  clear hC hR1
  go_wp2
  go_ret
  exact ⟨t, rfl, ht, HR1.out, grown_trans (grown_alloc _ _ _) hg1⟩
set_option maxHeartbeats 2000000 in
theorem drawDocNum_any (a : Option Addr) (len cap : Nat) (w : World) (hB : BytesIn w a len cap) :
    Calls Tryz.prog 32 #[.slice a len cap] w fun e w' => ∃ (vf : Value) (fs : List Fld) (key : ByteArray) (v : Value) (cs : List Cel) (n : ByteArray), e = .returned (.tuple #[vf, .agg #[.string key, v], .string n]) ∧ fs.length ≤ 5 ∧ FldsB fs ∧ w'.ownsRow w.heap.size 72 3 vf fs.length (fldCells fs) ∧ key.size ≤ 9 ∧ cs.length ≤ 5 ∧ CelsB cs ∧ w'.ownsRow w.heap.size 59 2 v cs.length (celCells cs) ∧ n.size ≤ 18 ∧ Below w.heap.size w w' := by
  have hb0 : Below w.heap.size w (w.alloc (.cells #[.string ⟨#[]⟩, .slice none 0 0] 37)) := (Below.refl _ w).alloc (Nat.le_refl _) _
  have b1 := hB.below hb0
  have q0 := Blk.new w #[.string ⟨#[]⟩, .slice none 0 0] 37
  have s0 : (w.alloc (.cells #[.string ⟨#[]⟩, .slice none 0 0] 37)).heap.size = w.heap.size + 1 := by simp
  clear hB
  go_enter Tryz.func32, Tryz.ntmps32
  go_wp2_with fail
  refine (open_any a len cap _ b1).mono ?_
  rintro e w1 ⟨len', rfl, hR1, hC1, hb1⟩
  rw [s0] at hR1 hC1 hb1 ⊢
  have q1 := q0.below hb1 (by omega)
  have hw1 := hb0.trans (hb1.mono (by omega))
  have hl1 := hR1.lt
  have HC1 : Hid (Code w1 (w.heap.size + 1) a len') := hC1
  clear b1 q0 hb0 hb1
  go_wp2_with fail
  refine (l11AnyFields_any (w.heap.size + 1) a len' cap 0 _ hR1 hC1 (by omega)).mono ?_
  rintro e w2 ⟨vf, fs, p2, rfl, hfl, hfb, hp2, hof, hR2, hg2⟩
  obtain ⟨pf, cf, rfl, hcf, _, hrf⟩ := owns_fldRow hof (fldTo_cells fs)
  have q2 := q1.grown hg2 (by simp)
  have hw2 : Below w.heap.size w w2 := hw1.grown hg2 hw1.size (fun j hj => by cases hj; omega)
  have hC2 := HC1.out.kept hg2 hl1
  have hl2 := hR2.lt
  have hfR : ∀ y, pf = some y → y.block ≠ w.heap.size + 1 := fun y e => by
    have := (hof.lt y.block (by rw [e]; rfl)).1
    omega
  clear hR1 hC1 HC1 q1 hg2 hw1
  go_wp2_with fail
  refine (l11AnyDoc_any (w.heap.size + 1) pf cf a len' cap p2 fs _ hR2 hC2 (by omega) (by omega) hrf hfR).mono ?_
  rintro e w3 ⟨key, v, cs, p, rfl, hkey, hcs, hcb, hp, hown, hR3, hg3⟩
  obtain ⟨av, cv, rfl, -, -, -, -⟩ := owns_celRow hown (celTo_cells cs)
  have q3 := q2.grown hg3 (by simp)
  have hw3 : Below w.heap.size w w3 := hw2.grown hg3 hw2.size (fun j hj => by cases hj; omega)
  have hC3 := hC2.kept hg3 hl2
  have HO3 : Hid (w3.ownsRow w.heap.size 59 2 (.slice av cs.length cv) cs.length (celCells cs)) := ownsRow_mono hown hw2.size
  have HF3 : Hid (w3.ownsRow w.heap.size 72 3 (.slice pf fs.length cf) fs.length (fldCells fs)) := ownsRow_mono (own_kept hof hg3 hl1) (by have := hw2.size; omega)
  have hl3 := hR3.lt
  clear hR2 hC2 q2 hg3 hown hrf hfR hof
  go_wp2_with fail
  refine (l11NameR_any (w.heap.size + 1) a len' cap p _ hR3 hC3 (by omega)).mono ?_
  rintro e w4 ⟨n, rfl, hn, hR4, hg4⟩
  have q4 := (q3.grown hg4 (by simp)).alloc (.cells #[.string ⟨#[112, 114, 105, 99, 101]⟩, .string ⟨#[112, 114, 105, 99, 101]⟩, .string n] 9)
  have hw4 : Below w.heap.size w w4 := hw3.grown hg4 hw3.size (fun j hj => by cases hj; omega)
  have hC4 := hC3.kept hg4 hl3
  have HO4 : Hid (w4.ownsRow w.heap.size 59 2 (.slice av cs.length cv) cs.length (celCells cs)) := HO3.out.kept hg4 (.inr (own_type HO3.out hR3.blk (by decide)))
  have HF4 : Hid (w4.ownsRow w.heap.size 72 3 (.slice pf fs.length cf) fs.length (fldCells fs)) := HF3.out.kept hg4 (.inr (own_type HF3.out hR3.blk (by decide)))
  have hl4 := hR4.lt
  have HR4 : Hid (Rd w4 (w.heap.size + 1) a len' cap ((p + 1 : Nat) : Int)) := hR4
  clear q3 hC3 hw3 hR3 hg4 hR4
  go_wp2_with fail
  refine (of_any (w.heap.size + 1) w4.heap.size 3 a len' cap (p + 1) _ _ (HR4.out.alloc _) (hC4.kept (grown_alloc _ _ _) hl4) (by omega) (strs_new w4 #[.string ⟨#[112, 114, 105, 99, 101]⟩, .string ⟨#[112, 114, 105, 99, 101]⟩, .string n] 9 18 (three_small hn)) (by omega) (by omega) (by omega)).mono ?_
  rintro e w5 ⟨nm, rfl, hnm, _, hg5⟩
  have q5 := q4.grown hg5 (by simp)
  have hw4a := hw4.alloc hw4.size (.cells #[.string ⟨#[112, 114, 105, 99, 101]⟩, .string ⟨#[112, 114, 105, 99, 101]⟩, .string n] 9)
  have hw5 : Below w.heap.size w w5 := hw4a.grown hg5 hw4a.size (fun j hj => by cases hj; omega)
  have HO5 : Hid (w5.ownsRow w.heap.size 59 2 (.slice av cs.length cv) cs.length (celCells cs)) := (HO4.out.alloc _).kept hg5 (.inr (own_type HO4.out HR4.out.blk (by decide)))
  have HF5 : Hid (w5.ownsRow w.heap.size 72 3 (.slice pf fs.length cf) fs.length (fldCells fs)) := (HF4.out.alloc _).kept hg5 (.inr (own_type HF4.out HR4.out.blk (by decide)))
  clear q4 hC4 hw4 HR4 hg5 hw4a HO4 HF4 HO3 HF3
  have z0 := q5.cell 0
  have z1 := q5.cell 1
  have f0 := q5.frozen 0
  have f1 := q5.frozen 1
  have q2 := ((q5.set 0 (.string key)).set 1 (.slice av cs.length cv)).cell 0
  have q6 := ((q5.set 0 (.string key)).set 1 (.slice av cs.length cv)).cell 1
  simp at z0 z1 q2 q6
  have Q2 : Hid (((w5.setCell ⟨w.heap.size, 0, none⟩ (.string key)).setCell ⟨w.heap.size, 1, none⟩ (.slice av cs.length cv)).cell? ⟨w.heap.size, 0, none⟩ = some (.string key)) := q2
  have Q3 : Hid (((w5.setCell ⟨w.heap.size, 0, none⟩ (.string key)).setCell ⟨w.heap.size, 1, none⟩ (.slice av cs.length cv)).cell? ⟨w.heap.size, 1, none⟩ = some (.slice av cs.length cv)) := q6
  have hv := own_type HO5.out q5 (by decide)
  have hvf := own_type HF5.out q5 (by decide)
  have HO6 : Hid (((w5.setCell ⟨w.heap.size, 0, none⟩ (.string key)).setCell ⟨w.heap.size, 1, none⟩ (.slice av cs.length cv)).ownsRow w.heap.size 59 2 (.slice av cs.length cv) cs.length (celCells cs)) := World.ownsRow.kept (World.ownsRow.kept HO5.out (grown_set _ _ 0 _) (.inr hv)) (grown_set _ _ 1 _) (.inr hv)
  have HF6 : Hid (((w5.setCell ⟨w.heap.size, 0, none⟩ (.string key)).setCell ⟨w.heap.size, 1, none⟩ (.slice av cs.length cv)).ownsRow w.heap.size 72 3 (.slice pf fs.length cf) fs.length (fldCells fs)) := World.ownsRow.kept (World.ownsRow.kept HF5.out (grown_set _ _ 0 _) (.inr hvf)) (grown_set _ _ 1 _) (.inr hvf)
  clear q2 q6 q5 hv hvf HO5 HF5
  go_wp2
  exact bodyPost_ret (v := .tuple #[.slice pf fs.length cf, .agg #[.string key, .slice av cs.length cv], .string nm]) (by simp [results, Tryz.results32, go_sem, Q2.out, Q3.out]) rfl ⟨_, fs, key, _, cs, nm, rfl, hfl, hfb, HF6.out, hkey, hcs, hcb, HO6.out, hnm, (hw5.setCell (Nat.le_refl _) _).setCell (Nat.le_refl _) _⟩
end Go.Proofs.YtjkimadnopeakaaGreatDoor
