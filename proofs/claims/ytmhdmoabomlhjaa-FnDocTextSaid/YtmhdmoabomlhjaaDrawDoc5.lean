/- The contract of DrawDocText. -/
import Derived.Test.YtmhdmoabomlhjaaDrawDoc4
import Derived.Test.YtmhdmoabomlhjaaWDocTextLaw
namespace Go.Proofs.Ytmhdmoabomlhjaa
open Go.RowKit

theorem Code.below {w w' : World} {R len : Nat} {a : Option Addr} (h : Code w R a len) (hb : Below w.heap.size w w') : Code w' R a len :=
  ⟨h.1, fun hp => by
    obtain ⟨b, off, z, e, hbs, hc⟩ := h.2 hp
    exact ⟨b, off, z, e, hbs, fun i hi => ⟨by rw [hb.cell (p := ⟨b, off + i, none⟩) (by have := cell_lt (hc i hi).1; omega)]; exact (hc i hi).1, (hc i hi).2⟩⟩⟩
set_option maxHeartbeats 2000000 in
theorem drawsDocText : DrawsDocText := by
  intro a len cap w hB
  have hb0 : Below w.heap.size w (w.alloc (.cells #[.string ⟨#[]⟩, .slice none 0 0] 25)) := (Below.refl _ w).alloc (Nat.le_refl _) _
  have b1 := hB.below hb0
  have q0 := Blk.new w #[.string ⟨#[]⟩, .slice none 0 0] 25
  have s0 : (w.alloc (.cells #[.string ⟨#[]⟩, .slice none 0 0] 25)).heap.size = w.heap.size + 1 := by simp
  clear hB
  go_enter Try.func10, Try.ntmps10
  go_wp2_with fail
  refine (open_any a len cap _ b1).mono ?_
  rintro e w1 ⟨len', rfl, hR1, hC1, hb1⟩
  rw [s0] at hR1 hC1 hb1 ⊢
  have q1 := q0.below hb1 (by omega)
  have hw1 := hb0.trans (hb1.mono (by omega))
  have hl1 := hR1.lt
  have HR1 : Hid (Rd w1 (w.heap.size + 1) a len' cap ((0 : Nat) : Int)) := hR1
  have HC1 : Hid (Code w1 (w.heap.size + 1) a len') := hC1
  clear hR1 hC1 b1 q0 hb0 hb1
  go_wp2_with fail
  refine (l10Fields_any _).mono ?_
  rintro e w2 ⟨rfl, hF2, hb2⟩
  have HR2 : Hid (Rd w2 (w.heap.size + 1) a len' cap ((0 : Nat) : Int)) := Blk.below HR1.out hb2 hl1
  have HC2 : Hid (Code w2 (w.heap.size + 1) a len') := HC1.out.below hb2
  have q2 := q1.below hb2 (by omega)
  have hw2 := below_trans hw1 hb2
  have hl2 := HR2.out.lt
  clear HR1 HC1 q1 hw1 hb2
  go_wp2_with fail
  refine (l11AnyDoc_any (w.heap.size + 1) w1.heap.size 4 a len' cap 0 fields4 _ HR2.out HC2.out (by omega) (by decide) hF2 (by omega)).mono ?_
  rintro e w3 ⟨key, v, cs, p, rfl, hkey, hcs, hcb, hp, hown, hR3, hg3⟩
  obtain ⟨av, cv, rfl, -, -, -, -⟩ := owns_celRow hown (celTo_cells cs)
  have q3 := q2.grown hg3 (by simp)
  have hw3 : Below w.heap.size w w3 := hw2.grown hg3 hw2.size (fun j hj => by cases hj; omega)
  have hC3 := HC2.out.kept hg3 hl2
  have HO3 : Hid (w3.ownsRow w.heap.size 31 2 (.slice av cs.length cv) cs.length (celCells cs)) := ownsRow_mono hown hw2.size
  have hl3 := hR3.lt
  clear HR2 HC2 q2 hw2 hF2 hown hg3
  go_wp2_with fail
  refine (l11Name_any (w.heap.size + 1) a len' cap p _ hR3 hC3 (by omega)).mono ?_
  rintro e w4 ⟨n, rfl, hn, hg4⟩
  have q4 := q3.grown hg4 (by simp)
  have hw4 : Below w.heap.size w w4 := hw3.grown hg4 hw3.size (fun j hj => by cases hj; omega)
  have HO4 : Hid (w4.ownsRow w.heap.size 31 2 (.slice av cs.length cv) cs.length (celCells cs)) := HO3.out.kept hg4 (.inr (own_type HO3.out hR3.blk (by decide)))
  have z0 := q4.cell 0
  have z1 := q4.cell 1
  have f0 := q4.frozen 0
  have f1 := q4.frozen 1
  have q2 := ((q4.set 0 (.string key)).set 1 (.slice av cs.length cv)).cell 0
  have q5 := ((q4.set 0 (.string key)).set 1 (.slice av cs.length cv)).cell 1
  simp at z0 z1 q2 q5
  have Q2 : Hid (((w4.setCell ⟨w.heap.size, 0, none⟩ (.string key)).setCell ⟨w.heap.size, 1, none⟩ (.slice av cs.length cv)).cell? ⟨w.heap.size, 0, none⟩ = some (.string key)) := q2
  have Q3 : Hid (((w4.setCell ⟨w.heap.size, 0, none⟩ (.string key)).setCell ⟨w.heap.size, 1, none⟩ (.slice av cs.length cv)).cell? ⟨w.heap.size, 1, none⟩ = some (.slice av cs.length cv)) := q5
  have hv := own_type HO4.out q4 (by decide)
  have HO5 : Hid (((w4.setCell ⟨w.heap.size, 0, none⟩ (.string key)).setCell ⟨w.heap.size, 1, none⟩ (.slice av cs.length cv)).ownsRow w.heap.size 31 2 (.slice av cs.length cv) cs.length (celCells cs)) := World.ownsRow.kept (World.ownsRow.kept HO4.out (grown_set _ _ 0 _) (.inr hv)) (grown_set _ _ 1 _) (.inr hv)
  clear q2 q5 q3 q4 hR3 hC3 HO3 hg4 hw3 hv
  go_wp2
  exact bodyPost_ret (v := .tuple #[.agg #[.string key, .slice av cs.length cv], .string n]) (by simp [results, Try.results10, go_sem, Q2.out, Q3.out]) rfl ⟨key, n, _, cs, rfl, hcs, hcb, HO5.out, (hw4.setCell (Nat.le_refl _) _).setCell (Nat.le_refl _) _⟩
theorem wFnDocText (a0 : Option Addr) (len0 cap0 : Nat) (w : World) (b0 : BytesIn w a0 len0 cap0) :
    Calls Try.prog 3 #[.slice a0 len0 cap0] w fun e w' => e = .returned (.bool true) ∧ Below w.heap.size w w' := wFnDocText0 drawsDocText a0 len0 cap0 w b0
end Go.Proofs.Ytmhdmoabomlhjaa
