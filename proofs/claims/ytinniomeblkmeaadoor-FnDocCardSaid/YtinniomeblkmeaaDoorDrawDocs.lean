/- The draws of a document and of a document's text. -/
import Derived.Test.YtinniomeblkmeaaDoorDrawDoc4
import Derived.Test.YtinniomeblkmeaaDoorCodeBelow
import Derived.Test.YtinniomeblkmeaaDoorL11Cut
import Derived.Test.YtinniomeblkmeaaDoorDocPut
namespace Go.Proofs.YtinniomeblkmeaaDoor
open Go.RowKit

theorem celsB_small {cs : List Cel} (h : CelsB cs) : CelsSmall cs := fun i hi => by
  rw [cat_get _ _ hi]
  have := h _ (List.getElem_mem hi)
  omega
set_option maxHeartbeats 2000000 in
theorem drawDocPut_any (a : Option Addr) (len cap : Nat) (w : World) (hB : BytesIn w a len cap) :
    Calls Tryd.prog 21 #[.slice a len cap] w fun e w' => ∃ (key : ByteArray) (v : Value) (cs : List Cel), e = .returned (.agg #[.string key, v]) ∧ key.size ≤ 9 ∧ cs.length ≤ 5 ∧ CelsB cs ∧ w'.ownsRow w.heap.size 92 2 v cs.length (celCells cs) ∧ Below w.heap.size w w' := by
  have hb0 : Below w.heap.size w (w.alloc (.cells #[.string ⟨#[]⟩, .slice none 0 0] 34)) := (Below.refl _ w).alloc (Nat.le_refl _) _
  have b1 := hB.below hb0
  have q0 := Blk.new w #[.string ⟨#[]⟩, .slice none 0 0] 34
  have s0 : (w.alloc (.cells #[.string ⟨#[]⟩, .slice none 0 0] 34)).heap.size = w.heap.size + 1 := by simp
  clear hB
  go_enter Tryd.func21, Tryd.ntmps21
  go_wp2_with fail
  refine (open_any a len cap _ b1).mono ?_
  rintro e w1 ⟨len', rfl, hR1, hC1, hb1⟩
  rw [s0] at hR1 hC1 hb1 ⊢
  have q1 := q0.below hb1 (by omega)
  have hw1 := hb0.trans (hb1.mono (by omega))
  have hl1 := hR1.lt
  have HR1 : Hid (Rd w1 (w.heap.size + 1) a len' cap ((0 : Nat) : Int)) := hR1
  have HC1 : Hid (Code w1 (w.heap.size + 1) a len') := hC1
  clear hR1 hC1 b1 q0 hb0 hb1
  go_wp2_with fail
  refine (l10Fields_any _).mono ?_
  rintro e w2 ⟨rfl, hF2, hb2⟩
  have HR2 : Hid (Rd w2 (w.heap.size + 1) a len' cap ((0 : Nat) : Int)) := Blk.below HR1.out hb2 hl1
  have HC2 : Hid (Code w2 (w.heap.size + 1) a len') := HC1.out.below hb2
  have q2 := q1.below hb2 (by omega)
  have hw2 := below_trans hw1 hb2
  have hl2 := HR2.out.lt
  clear HR1 HC1 q1 hw1 hb2
  go_wp2_with fail
  refine (l11AnyDoc_any (w.heap.size + 1) w1.heap.size 4 a len' cap 0 fields4 _ HR2.out HC2.out (by omega) (by decide) hF2 (by omega)).mono ?_
  rintro e w3 ⟨key, v, cs, p, rfl, hkey, hcs, hcb, hp, hown, hR3, hg3⟩
  obtain ⟨av, cv, rfl, -, -, -, -⟩ := owns_celRow hown (celTo_cells cs)
  have q4 := q2.grown hg3 (by simp)
  have hw4 : Below w.heap.size w w3 := hw2.grown hg3 hw2.size (fun j hj => by cases hj; omega)
  have HO4 : Hid (w3.ownsRow w.heap.size 92 2 (.slice av cs.length cv) cs.length (celCells cs)) := ownsRow_mono hown hw2.size
  have z0 := q4.cell 0
  have z1 := q4.cell 1
  have f0 := q4.frozen 0
  have f1 := q4.frozen 1
  have q5 := ((q4.set 0 (.string key)).set 1 (.slice av cs.length cv)).cell 0
  have q6 := ((q4.set 0 (.string key)).set 1 (.slice av cs.length cv)).cell 1
  simp at z0 z1 q5 q6
  have Q2 : Hid (((w3.setCell ⟨w.heap.size, 0, none⟩ (.string key)).setCell ⟨w.heap.size, 1, none⟩ (.slice av cs.length cv)).cell? ⟨w.heap.size, 0, none⟩ = some (.string key)) := q5
  have Q3 : Hid (((w3.setCell ⟨w.heap.size, 0, none⟩ (.string key)).setCell ⟨w.heap.size, 1, none⟩ (.slice av cs.length cv)).cell? ⟨w.heap.size, 1, none⟩ = some (.slice av cs.length cv)) := q6
  have hv := own_type HO4.out q4 (by decide)
  have HO5 : Hid (((w3.setCell ⟨w.heap.size, 0, none⟩ (.string key)).setCell ⟨w.heap.size, 1, none⟩ (.slice av cs.length cv)).ownsRow w.heap.size 92 2 (.slice av cs.length cv) cs.length (celCells cs)) := World.ownsRow.kept (World.ownsRow.kept HO4.out (grown_set _ _ 0 _) (.inr hv)) (grown_set _ _ 1 _) (.inr hv)
  clear q2 q5 q6 q4 hR3 HR2 HC2 hF2 hown hg3 hw2 hv
  go_wp2
  exact bodyPost_ret (v := .agg #[.string key, .slice av cs.length cv]) (by simp [results, Tryd.results21, go_sem, Q2.out, Q3.out]) rfl ⟨key, _, cs, rfl, hkey, hcs, hcb, HO5.out, (hw4.setCell (Nat.le_refl _) _).setCell (Nat.le_refl _) _⟩

theorem docPutB_size (key : ByteArray) (cs : List Cel) : (docPutB key cs).size ≤ 400 := by
  unfold docPutB
  cases h : formB key cs with
  | false => exact Nat.zero_le _
  | true =>
    have h1 := docPutTo_size h cs.length (Nat.le_refl _)
    have h2 := (form_of h).2.1
    simp only [if_true]
    omega
set_option maxHeartbeats 2000000 in
theorem drawDocGet_any (a : Option Addr) (len cap : Nat) (w : World) (h : BytesIn w a len cap) :
    Calls Tryd.prog 26 #[.slice a len cap] w fun e w' => ∃ t : ByteArray, e = .returned (.string t) ∧ t.size ≤ 1000 ∧ Below w.heap.size w w' := by
  go_enter Tryd.func26, Tryd.ntmps26
  go_wp2_with fail
  refine (open_any a len cap _ h).mono ?_
  rintro e w1 ⟨len', rfl, hR1, hC1, hb1⟩
  have hl1 := hR1.lt
  have HR1 : Hid (Rd w1 w.heap.size a len' cap ((0 : Nat) : Int)) := hR1
  have HC1 : Hid (Code w1 w.heap.size a len') := hC1
  clear hR1 hC1 h
  go_wp2_with fail
  refine (l10Fields_any _).mono ?_
  rintro e w2 ⟨rfl, hF2, hb2⟩
  have HR2 : Hid (Rd w2 w.heap.size a len' cap ((0 : Nat) : Int)) := Blk.below HR1.out hb2 hl1
  have HC2 : Hid (Code w2 w.heap.size a len') := HC1.out.below hb2
  have hw2 := below_trans hb1 hb2
  have hl2 := HR2.out.lt
  clear HR1 HC1 hb1 hb2
  go_wp2_with fail
  refine (l11Doc_any w.heap.size w1.heap.size 4 a len' cap 0 fields4 _ HR2.out HC2.out (by omega) (by decide) hF2 (by omega)).mono ?_
  rintro e w3 ⟨key, v, cs, p, rfl, hkey, hcs, hcb, hp, hown, hR3, hg3⟩
  obtain ⟨av, cv, rfl, _, _, _, hrow⟩ := owns_celRow hown (celTo_cells cs)
  have hC3 := HC2.out.kept hg3 hl2
  have hw3 : Below w.heap.size w w3 := grown_below hw2 hg3
  have hl3 := hR3.lt
  clear HR2 HC2 hF2 hown hg3 hw2
  go_wp2_with fail
  refine (docPutS_any key av cv cs _ (by omega) (by omega) (celsB_small hcb) hrow).mono ?_
  rintro e w4 ⟨rfl, hb4⟩
  have hR4 : Rd w4 w.heap.size a len' cap (p : Int) := Blk.below hR3 hb4 hl3
  have hC4 := hC3.below hb4
  have hz := docPutB_size key cs
  have hw4 := below_trans hw3 hb4
  clear hR3 hC3 hrow hb4 hw3
  go_wp2_with fail
  refine (l11Cut_any w.heap.size a len' cap p (docPutB key cs) _ hR4 hC4 (by omega) (by omega)).mono ?_
  rintro e w5 ⟨t, k5, rfl, ht, _, _, hg5⟩
  have hw5 : Below w.heap.size w w5 := grown_below hw4 hg5
  clear hR4 hC4 hg5
  go_wp2
  go_ret
  exact ⟨t, rfl, by omega, hw5⟩
end Go.Proofs.YtinniomeblkmeaaDoor
