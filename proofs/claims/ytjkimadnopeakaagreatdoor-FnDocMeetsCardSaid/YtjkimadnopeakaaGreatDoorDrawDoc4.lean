/- The contract of l11AnyDoc. -/
import Derived.Test.YtjkimadnopeakaaGreatDoorDrA
import Derived.Deep.CutBlock
import Derived.Deep.RegionHeld3
import Derived.Deep.AppendLies
import Derived.Deep.RegionLaw
namespace Go.Proofs.YtjkimadnopeakaaGreatDoor
open Go.RowKit

theorem FldRow.alloc {w : World} {X : Option Addr} {fs : List Fld} (h : FldRow w X fs) (o : Obj) : FldRow (w.alloc o) X fs := h.below ((Below.refl _ w).alloc (Nat.le_refl _) _)

abbrev lit7 : Array Value := #[.string ⟨#[48, 49]⟩, .string ⟨#[]⟩, .string ⟨#[120, 44]⟩, .string ⟨#[45, 48]⟩, .string ⟨#[114, 101, 100, 44, 44, 98, 108, 117, 101]⟩, .string ⟨#[97, 44, 98, 44, 99, 44, 100, 44, 101]⟩, .string ⟨#[119, 111, 114, 100, 115, 32, 104, 101, 114, 101]⟩]
theorem Strs.kept {w w' : World} {L m R : Nat} {p : ByteArray → Prop} (h : Strs w L m p) (hg : w.grownBy w' (some R)) (hne : L ≠ R) : Strs w' L m p := fun i hi => by
  obtain ⟨t, hc, hp⟩ := h i hi
  exact ⟨t, hg.cell hc (by simpa using hne), hp⟩
theorem DQ.celAt {w wr : World} {R g : Nat} {a : Option Addr} {len cap D Q c : Nat} {key : ByteArray} {cs : List Cel} {p : Nat} (h : DQ w wr R a len cap D Q key (.slice (some ⟨g, 0, none⟩) cs.length c) cs p) (j : Nat) (hj : j < cs.length) : ∃ o, wr.cell? ⟨g, j * 2 + 1, none⟩ = some o := by
  have h1 := h.ds.own.cellAt (j * 2 + 1) (by omega)
  rw [(celTo_cells cs j hj).2] at h1
  exact ⟨_, h1⟩
theorem CelsB.set {cs : List Cel} (h : CelsB cs) (j : Nat) (c : Cel) (hc : c.text.size ≤ 1000) (hn : c.name = (cat cs j).name) : CelsB (cs.set j c) := by
  intro x hx
  by_cases hj : j < cs.length
  · rcases List.mem_or_eq_of_mem_set hx with hx | rfl
    · exact h x hx
    · refine ⟨?_, hc⟩
      rw [hn, cat_get cs j hj]
      exact (h _ (List.getElem_mem hj)).1
  · rw [List.set_eq_of_length_le (by omega)] at hx
    exact h x hx

set_option maxHeartbeats 4000000 in
set_option maxRecDepth 100000 in
theorem l11AnyDoc_any (R : Nat) (X : Option Addr) (capf : Nat) (a : Option Addr) (len cap k : Nat) (fs : List Fld) (w : World) (hR : Rd w R a len cap k) (hC : Code w R a len) (hk : k ≤ 500000) (hfl : fs.length ≤ 1000) (hF : FldRow w X fs) (hFR : ∀ y, X = some y → y.block ≠ R) :
    Calls Tryz.prog 49 #[.pointer (some ⟨R, 0, none⟩), .slice X fs.length capf] w fun e w' => ∃ (key : ByteArray) (v : Value) (cs : List Cel) (p : Nat), e = .returned (.agg #[.string key, v]) ∧ key.size ≤ 9 ∧ cs.length ≤ 5 ∧ CelsB cs ∧ p ≤ k + 300 ∧ w'.ownsRow w.heap.size 59 2 v cs.length (celCells cs) ∧ Rd w' R a len cap p ∧ w.grownBy w' (some R) := by
  obtain ⟨i0, hi, hz0, hz1, hz2⟩ := info_parts infoCel
  have hlt := hR.lt
  have HR : Hid (Rd w R a len cap k) := hR
  have HC : Hid (Code w R a len) := hC
  have HF : Hid (FldRow w X fs) := hF
  have HFR : Hid (∀ y, X = some y → y.block ≠ R) := hFR
  clear hFR
  clear hR hC hF
  go_enter Tryz.func49, Tryz.ntmps49
  go_wp2_with fail
  refine (l11Doc_any R X capf a len cap k fs _ (HR.out.alloc _) (HC.out.kept (grown_alloc _ _ _) hlt) (by omega) hfl (HF.out.alloc _) HFR.out).mono ?_
  rintro e w1 ⟨key, v, cs, p, rfl, hkey, hcs, hcb, hp, hown, hR1, hg1⟩
  have q1 : Blk w1 w.heap.size #[.string ⟨#[]⟩, .slice none 0 0] 37 := (Blk.new w _ _).grown hg1 (by simp; omega)
  have g1 : w.grownBy w1 (some R) := grown_trans (grown_alloc _ _ _) hg1
  have o1 : w1.ownsRow w.heap.size 59 2 v cs.length (celCells cs) := ownsRow_mono hown (by simp)
  obtain ⟨av, cv, rfl, -, -, -, -⟩ := owns_celRow o1 (celTo_cells cs)
  have hs1 := q1.lt
  have HQ1 : Hid (DQ w (w1.alloc (.cells #[.string key, .slice av cs.length cv] 37)) R a len cap w1.heap.size w.heap.size key (.slice av cs.length cv) cs p) :=
    ⟨⟨Blk.new _ _ _, o1.alloc _, hR1.alloc _, grown_trans g1 (grown_alloc _ _ _), by omega⟩, q1.alloc _, by omega⟩
  have HCB : Hid (CelsB cs) := hcb
  clear hown hR1 hg1 q1 g1 o1 hcb
  go_wp2_with fail
  refine (pick_any R a len cap p _ _ HQ1.out.ds.rd (HC.out.kept HQ1.out.ds.grown hlt) (by omega) (by omega) (by omega)).mono ?_
  rintro e w2 ⟨x, rfl, hx0, hx1, hR2, hg2⟩
  have HQ2 : Hid (DQ w w2 R a len cap w1.heap.size w.heap.size key (.slice av cs.length cv) cs (p + 1)) := HQ1.out.read hg2 hR2
  clear HQ1 hR2 hg2
  have e0 := HQ2.out.ds.d.cell 0
  have e1 := HQ2.out.ds.d.cell 1
  have f0 := HQ2.out.ds.d.frozen 0
  have f1 := HQ2.out.ds.d.frozen 1
  have hl2 := HQ2.out.ds.d.lt
  simp at e0 e1
  go_upto_block 0 with fail
  go_cut [] (fun wx => ∃ (key' : ByteArray) (a' : Option Addr) (n' c' : Nat) (cs' : List Cel) (p' : Nat), key'.size ≤ 9 ∧ cs'.length ≤ 5 ∧ CelsB cs' ∧ p' ≤ k + 300 ∧ DQ w wx R a len cap w1.heap.size w.heap.size key' (.slice a' n' c') cs' p')
  case first =>
    by_cases x0 : x = 0
    · subst x0
      go_wp2_with fail
      refine (of_any R w2.heap.size 3 a len cap (p + 1) _ _ (HQ2.out.alloc _).ds.rd (HC.out.kept (HQ2.out.alloc _).ds.grown hlt) (by omega) (strs_new w2 _ _ 9 (by decide +kernel)) (by omega) (by omega) (by have := HQ2.out.ds.rd.lt; omega)).mono ?_
      rintro e w4 ⟨t, rfl, ht, hR4, hg4⟩
      have HQ4 : Hid (DQ w w4 R a len cap w1.heap.size w.heap.size key (.slice av cs.length cv) cs (p + 1 + 1)) := (HQ2.out.alloc _).read hg4 hR4
      have z0 := HQ4.out.ds.d.cell 0
      have y0 := HQ4.out.ds.d.frozen 0
      simp at z0
      clear HQ2 hR4 hg4 e0 e1 f0 f1
      go_wp2_with fail
      go_meet
      case rel => exact ⟨t, _, _, _, cs, p + 1 + 1, ht, by omega, HCB.out, by omega, HQ4.out.key t⟩
    have h0 : (x == 0) = false := by simpa using x0
    by_cases x1 : x = 1
    · subst x1
      have SA := strs_new w2 #[.string ⟨#[122, 122]⟩, .string ⟨#[98, 111, 100, 121]⟩, .string ⟨#[]⟩] 9 9 (by decide +kernel)
      have hqA : DQ w (w2.alloc (.cells #[.string ⟨#[122, 122]⟩, .string ⟨#[98, 111, 100, 121]⟩, .string ⟨#[]⟩] 9)) R a len cap w1.heap.size w.heap.size key (.slice av cs.length cv) cs (p + 1) := HQ2.out.alloc _
      have HQA : Hid (DQ w (w2.alloc (.cells #[.string ⟨#[122, 122]⟩, .string ⟨#[98, 111, 100, 121]⟩, .string ⟨#[]⟩] 9)) R a len cap w1.heap.size w.heap.size key (.slice av cs.length cv) cs (p + 1)) := hqA
      have rA := hqA.ds.rd
      have cA := HC.out.kept hqA.ds.grown hlt
      have hRl := HQ2.out.ds.rd.lt
      clear hqA
      go_wp2_with fail
      go_region_law (first
        | (go_simp; go_at_call 69; refine (of_any R w2.heap.size 3 a len cap (p + 1) _ _ (by exact rA) (by exact ⟨cA.1, cA.2⟩) (by omega) (by exact SA) (by omega) (by omega) (by omega)).mono ?_; rintro e w3 ⟨nm, rfl, hnm, hR3, hg3⟩; have HQ3 : Hid (DQ w w3 R a len cap w1.heap.size w.heap.size key (.slice av cs.length cv) cs (p + 1 + 1)) := HQA.out.read ⟨hg3.os, hg3.tape, hg3.output, hg3.size, hg3.block⟩ hR3; have k3 := HQ3.out.ds.d.cell 1; simp at k3; have c3 := HC.out.kept HQ3.out.ds.grown hlt; have l3 := HQ3.out.ds.d.lt; clear hg3)
        | (go_simp; go_at_call 95; refine (anyText_any R a len cap (p + 1 + 1) _ (by exact hR3) (by exact ⟨c3.1, c3.2⟩) (by omega)).mono ?_; rintro e w4 ⟨tx, q, rfl, htx, hq, hR4, hg4⟩; have HQ4 : Hid (DQ w w4 R a len cap w1.heap.size w.heap.size key (.slice av cs.length cv) cs q) := HQ3.out.read ⟨hg4.os, hg4.tape, hg4.output, hg4.size, hg4.block⟩ hR4; have k4 := HQ4.out.ds.d.cell 1; simp at k4; have l4 := HQ4.out.ds.d.lt; have s4 := HQ4.out.ds.grown.size; clear hg4)
        | (refine step_append_lies _ (by rfl) _ _ 35 (by rfl) w.heap.size 59 i0 (.agg #[.string ⟨#[]⟩, .string ⟨#[]⟩]) 2 32 Tryz.underlying35 hi hz0 hz1 hz2 rfl (by decide) (.slice av cs.length cv) cs.length (celCells cs) (by rfl) (HQ4.out.ds.own.alloc _) ⟨w4.heap.size, 0, none⟩ 1 1 [.string nm, .string tx] (by rfl) rfl (cells_new _ _ _) (two_one _ _) (by omega) (by unfold maxLen; omega) (by omega) (by simp; omega) (w4.heap.size + 1) (by simp) ?_; intro g c6 w6 hown' hgrow hat hlt6; have hd6 : Blk w6 w1.heap.size #[.string key, .slice av cs.length cv] 37 := (HQ4.out.alloc _).ds.d.grown hgrow (fun e => own_type HQ4.out.ds.own HQ4.out.ds.d (by decide) e.symm); have k6 := hd6.cell 1; have y6 := hd6.frozen 1; simp at k6))
      all_goals
        have HN : Hid (DQ w (w6.setCell ⟨w1.heap.size, 1, none⟩ (.slice (some ⟨g, 0, none⟩) (cs.length + 1) c6)) R a len cap w1.heap.size w.heap.size key (.slice (some ⟨g, 0, none⟩) (cs.length + 1) c6) (cs ++ [⟨nm, tx⟩]) q) := (HQ4.out.alloc _).snoc hown' hgrow
        clear hown' hgrow hd6 HQ4 HQ3 HQA SA rA cA hR3 c3 hR4
        go_wp2_with fail
        go_meet
        case rel => exact ⟨key, _, _, _, cs ++ [⟨nm, tx⟩], q, hkey, by simp; omega, HCB.out.snoc (by show nm.size ≤ 1000; omega) (by show tx.size ≤ 1000; omega), by omega, HN.out⟩
    have h1 : (x == 1) = false := by simpa using x1
    by_cases x2 : x = 2
    · subst x2
      by_cases hc0 : cs.length = 0
      · have hc1 : decide ((0 : Int) < (cs.length : Int)) = false := decide_eq_false (by omega)
        go_wp2_with fail
        go_meet
        case rel => exact ⟨key, _, _, _, cs, p + 1, hkey, by omega, HCB.out, by omega, HQ2.out⟩
      · have hc1 : (0 : Int) < (cs.length : Int) := by omega
        obtain ⟨g, rfl⟩ : ∃ g, av = some ⟨g, 0, none⟩ := by
          rcases HQ2.out.ds.own.2 with ⟨e, h⟩ | ⟨g, c, cur, e, _⟩
          · omega
          · injection e with e1 e2 e3
            exact ⟨g, e1⟩
        have SA : Strs (w2.alloc (.cells lit7 9)) w2.heap.size 7 (fun t => t.size ≤ 10) := strs_new w2 lit7 9 10 (by decide +kernel)
        have HQA : Hid (DQ w (w2.alloc (.cells lit7 9)) R a len cap w1.heap.size w.heap.size key (.slice (some ⟨g, 0, none⟩) cs.length cv) cs (p + 1)) := HQ2.out.alloc _
        have r2 := HQ2.out.ds.rd
        have nA : w2.heap.size ≠ R := by have := HQ2.out.ds.rd.lt; omega
        have c2 := HC.out.kept HQ2.out.ds.grown hlt
        have rA := HQA.out.ds.rd
        have cA := HC.out.kept HQA.out.ds.grown hlt
        have hRl := HQ2.out.ds.rd.lt
        go_wp2_with fail
        go_region_with (first
          | (go_at_call 92; refine (pick_any R a len cap (p + 1) _ _ (by exact r2) (by exact ⟨c2.1, c2.2⟩) (by omega) (by omega) (by omega)).mono ?_; rintro e w3 ⟨y, rfl, hy0, hy1, hR3, hg3⟩; obtain ⟨jj, rfl⟩ := Int.eq_ofNat_of_zero_le hy0; have HQ3 : Hid (DQ w w3 R a len cap w1.heap.size w.heap.size key (.slice (some ⟨g, 0, none⟩) cs.length cv) cs (p + 1 + 1)) := HQ2.out.read ⟨hg3.os, hg3.tape, hg3.output, hg3.size, hg3.block⟩ hR3; have k3 := HQ3.out.ds.d.cell 1; simp at k3; have l3 := HQ3.out.ds.d.lt; have rB := (HQ3.out.alloc (.cells lit7 9)).ds.rd; have cB := HC.out.kept (HQ3.out.alloc (.cells lit7 9)).ds.grown hlt; have SB : Strs (w3.alloc (.cells lit7 9)) w3.heap.size 7 (fun t => t.size ≤ 10) := strs_new w3 lit7 9 10 (by decide +kernel); have nR : w3.heap.size ≠ R := by { have := HQ3.out.ds.rd.lt; omega }; clear hg3 hR3)
          | (go_at_call 92; refine (pick_any R a len cap (p + 1) _ _ (by exact rA) (by exact ⟨cA.1, cA.2⟩) (by omega) (by omega) (by omega)).mono ?_; rintro e w3 ⟨y, rfl, hy0, hy1, hR3, hg3⟩; obtain ⟨jj, rfl⟩ := Int.eq_ofNat_of_zero_le hy0; have hg3' : (w2.alloc (.cells lit7 9)).grownBy w3 (some R) := ⟨hg3.os, hg3.tape, hg3.output, hg3.size, hg3.block⟩; have HQ3 : Hid (DQ w w3 R a len cap w1.heap.size w.heap.size key (.slice (some ⟨g, 0, none⟩) cs.length cv) cs (p + 1 + 1)) := HQA.out.read hg3' hR3; have k3 := HQ3.out.ds.d.cell 1; simp at k3; have l3 := HQ3.out.ds.d.lt; have rB := HQ3.out.ds.rd; have cB := HC.out.kept HQ3.out.ds.grown hlt; have SB : Strs w3 w2.heap.size 7 (fun t => t.size ≤ 10) := SA.kept hg3' nA; have nR : w2.heap.size ≠ R := nA; clear hg3 hR3)
          | (go_at_call 69; refine (of_any R w3.heap.size 7 a len cap (p + 1 + 1) _ _ (by exact rB) (by exact ⟨cB.1, cB.2⟩) (by omega) (by exact SB) (by omega) (by omega) nR).mono ?_; rintro e w4 ⟨t, rfl, ht, hR4, hg4⟩; have HQ4 : Hid (DQ w w4 R a len cap w1.heap.size w.heap.size key (.slice (some ⟨g, 0, none⟩) cs.length cv) cs (p + 1 + 1 + 1)) := (HQ3.out.alloc (.cells lit7 9)).read ⟨hg4.os, hg4.tape, hg4.output, hg4.size, hg4.block⟩ hR4; have k4 := HQ4.out.ds.d.cell 1; simp at k4; obtain ⟨o4, z4⟩ := HQ4.out.celAt jj (by omega); have y4 := HQ4.out.ds.own.frozenAt (jj * 2 + 1); clear hg4 hR4)
          | (go_at_call 69; refine (of_any R w2.heap.size 7 a len cap (p + 1 + 1) _ _ (by exact rB) (by exact ⟨cB.1, cB.2⟩) (by omega) (by exact SB) (by omega) (by omega) nR).mono ?_; rintro e w4 ⟨t, rfl, ht, hR4, hg4⟩; have HQ4 : Hid (DQ w w4 R a len cap w1.heap.size w.heap.size key (.slice (some ⟨g, 0, none⟩) cs.length cv) cs (p + 1 + 1 + 1)) := HQ3.out.read ⟨hg4.os, hg4.tape, hg4.output, hg4.size, hg4.block⟩ hR4; have k4 := HQ4.out.ds.d.cell 1; simp at k4; obtain ⟨o4, z4⟩ := HQ4.out.celAt jj (by omega); have y4 := HQ4.out.ds.own.frozenAt (jj * 2 + 1); clear hg4 hR4))
        all_goals
          go_wp2_with fail
          go_meet
          case rel => exact ⟨key, _, _, _, cs.set jj ⟨(cat cs jj).name, t⟩, p + 1 + 1 + 1, hkey, by rw [List.length_set]; omega, HCB.out.set jj ⟨(cat cs jj).name, t⟩ (by show t.size ≤ 1000; omega) rfl, by omega, HQ4.out.text jj (by omega) t⟩
    have h2 : (x == 2) = false := by simpa using x2
    go_wp2_with fail
    go_meet
    case rel => exact ⟨key, _, _, _, cs, p + 1, hkey, by omega, HCB.out, by omega, HQ2.out⟩
  case rest =>
    obtain ⟨key', a', n', c', cs', p', hk', hcs', hcb', hp', hdq⟩ := hcut
    clear HQ2 e0 e1 f0 f1
    have e0 := hdq.ds.d.cell 0
    have e1 := hdq.ds.d.cell 1
    have q0 := hdq.q.cell 0
    have q1 := hdq.q.cell 1
    have f0 := hdq.q.frozen 0
    have f1 := hdq.q.frozen 1
    have q2 := ((hdq.q.set 0 (.string key')).set 1 (.slice a' n' c')).cell 0
    have q3 := ((hdq.q.set 0 (.string key')).set 1 (.slice a' n' c')).cell 1
    simp at e0 e1 q0 q1 q2 q3
    have Q2 : Hid (((wc.setCell ⟨w.heap.size, 0, none⟩ (.string key')).setCell ⟨w.heap.size, 1, none⟩ (.slice a' n' c')).cell? ⟨w.heap.size, 0, none⟩ = some (.string key')) := q2
    have Q3 : Hid (((wc.setCell ⟨w.heap.size, 0, none⟩ (.string key')).setCell ⟨w.heap.size, 1, none⟩ (.slice a' n' c')).cell? ⟨w.heap.size, 1, none⟩ = some (.slice a' n' c')) := q3
    have HD : Hid (DQ w wc R a len cap w1.heap.size w.heap.size key' (.slice a' n' c') cs' p') := hdq
    clear hdq q2 q3
    go_wp2
    exact bodyPost_ret (v := .agg #[.string key', .slice a' n' c']) (by simp [results, Tryz.results49, go_sem, Q2.out, Q3.out]) rfl ⟨key', _, cs', p', rfl, hk', hcs', hcb', hp', HD.out.fin (Nat.le_refl _) _ _⟩
end Go.Proofs.YtjkimadnopeakaaGreatDoor
