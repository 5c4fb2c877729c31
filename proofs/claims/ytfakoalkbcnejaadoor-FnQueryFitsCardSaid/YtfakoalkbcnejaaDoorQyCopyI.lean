/- queryCopy of the program. -/
import Derived.Test.YtfakoalkbcnejaaDoorQyCopy
import Derived.Test.YtfakoalkbcnejaaDoorQyToOwn
namespace Go.Proofs.YtfakoalkbcnejaaDoor
open Go.RowKit
set_option linter.unusedVariables false

theorem range_qat (ps : List Qy) : (List.range ps.length).map (fun i => qat ps i) = ps := by
  apply List.ext_getElem
  · simp
  · intro i h1 h2
    simp [qat_get ps i h2]
/-- queryCopy at trees whose parts are at most D deep. -/
def CopyI (D : Nat) : Prop := ∀ (q : Qy) (a : Option Addr) (c : Nat) (w : World), QAt w 0 D a q.parts → QSz 1048576 D q.parts → q.field.size ≤ 1048576 → q.text.size ≤ 1048576 → Makes D 76 q q a c w
set_option maxRecDepth 100000 in
set_option maxHeartbeats 4000000 in
theorem copyI_of {D : Nat} (hF : ∀ D', D = D' + 1 → CopyI D') : CopyI D := by
  intro q a c w ha hsz hfs hts
  obtain ⟨k, f, t, lo, hi, ps⟩ := q
  simp only [Qy.field, Qy.text, Qy.parts] at ha hsz hfs hts
  unfold Makes
  simp only [Qy.kind, Qy.field, Qy.text, Qy.low, Qy.high, Qy.parts]
  have hb1 : Below w.heap.size w (w.alloc (.cells #[.int .i64 k, .string f, .string t, .int .i64 lo, .int .i64 hi, .slice a ps.length c] 29)) := (Below.refl _ w).alloc (Nat.le_refl _) _
  have hb2 := hb1.alloc hb1.size (.cells #[.int .i64 0, .string ⟨#[]⟩, .string ⟨#[]⟩, .int .i64 0, .int .i64 0, .slice none 0 0] 29)
  have BO := (Blk.new w #[.int .i64 k, .string f, .string t, .int .i64 lo, .int .i64 hi, .slice a ps.length c] 29).alloc (.cells #[.int .i64 0, .string ⟨#[]⟩, .string ⟨#[]⟩, .int .i64 0, .int .i64 0, .slice none 0 0] 29)
  have BZ := Blk.new (w.alloc (.cells #[.int .i64 k, .string f, .string t, .int .i64 lo, .int .i64 hi, .slice a ps.length c] 29)) #[.int .i64 0, .string ⟨#[]⟩, .string ⟨#[]⟩, .int .i64 0, .int .i64 0, .slice none 0 0] 29
  rw [show (w.alloc (.cells #[.int .i64 k, .string f, .string t, .int .i64 lo, .int .i64 hi, .slice a ps.length c] 29)).heap.size = w.heap.size + 1 by simp] at BZ
  have hsz0 : ((w.alloc (.cells #[.int .i64 k, .string f, .string t, .int .i64 lo, .int .i64 hi, .slice a ps.length c] 29)).alloc (.cells #[.int .i64 0, .string ⟨#[]⟩, .string ⟨#[]⟩, .int .i64 0, .int .i64 0, .slice none 0 0] 29)).heap.size = w.heap.size + 2 := by simp
  have HA : Hid (∀ wx, Below w.heap.size w wx → QAt wx 0 D a ps) := fun wx h => ha.below h
  have HF : Hid (∀ D', D = D' + 1 → CopyI D') := hF
  have HS : Hid (QSz 1048576 D ps) := hsz
  have hz := hsz.len
  clear ha hsz hF
  have HPM : Hid (∀ wx, Below w.heap.size w wx → Calls Tryd.prog 77 #[.slice a ps.length c, .func (.func 76) #[] #[]] wx fun e w' => ∃ p' c' fp, e = .returned (.slice p' ps.length c') ∧ (QOwn w' D p' c' ps fp ∧ ∀ b ∈ fp, wx.heap.size ≤ b) ∧ Below wx.heap.size wx w') := fun wx hbx => by
    cases D with
    | zero =>
      have e : ps = [] := HS.out
      subst e
      refine (partsMade_nil _ a c wx).mono ?_
      rintro e w' ⟨rfl, rfl⟩
      exact ⟨none, 0, [], rfl, ⟨⟨rfl, rfl⟩, fun b hb => by cases hb⟩, Below.refl _ _⟩
    | succ D' => exact partsMade_any _ (.inr rfl) D' D' ps (fun i => qat ps i) ps (range_qat ps) a c wx (HA.out wx hbx) hz (fun i hi p c wy hby hq => HF.out D' rfl (qat ps i) p c wy hq (HS.out.2 i hi).2.2 (HS.out.2 i hi).1 (HS.out.2 i hi).2.1)
  clear HA HF
  go_enter Tryd.func76, Tryd.ntmps76
  go_wp2_with fail
  generalize (w.alloc (.cells #[.int .i64 k, .string f, .string t, .int .i64 lo, .int .i64 hi, .slice a ps.length c] 29)).alloc (.cells #[.int .i64 0, .string ⟨#[]⟩, .string ⟨#[]⟩, .int .i64 0, .int .i64 0, .slice none 0 0] 29) = w2 at *
  refine (clone_any f _ (by omega)).mono ?_
  rintro e w3 ⟨rfl, hb3⟩
  have BO3 := BO.below hb3 (by omega)
  have BZ3 := BZ.below hb3 (by omega)
  have hw3 := hb2.trans (hb3.mono hb2.size)
  have y1 := BO3.cell 1
  have y2 := BO3.cell 2
  have g1 := BO3.frozen 1
  have hsz3 : w.heap.size + 2 ≤ w3.heap.size := by have := hb3.size; omega
  have BO4 := BO3.set 1 (.string f)
  have BZ4 := BZ3.other (p := ⟨w.heap.size, 1, none⟩) (by simp) (.string f)
  have hw4 := hw3.setCell (p := ⟨w.heap.size, 1, none⟩) (Nat.le_refl _) (.string f)
  simp at y1 y2
  clear BO BZ BO3 BZ3 hb3 hw3 hb1 hb2 hsz0
  go_wp2_with fail
  refine (clone_any t _ (by omega)).mono ?_
  rintro e w5 ⟨rfl, hb5⟩
  have BO4b : Blk (w3.setCell ⟨w.heap.size, 1, none⟩ (.string f)) w.heap.size #[.int .i64 k, .string f, .string t, .int .i64 lo, .int .i64 hi, .slice a ps.length c] 29 := BO4
  have BO5 := BO4b.below hb5 BO4b.lt
  have BZ5 := BZ4.below hb5 BZ4.lt
  have hw5 := hw4.trans (hb5.mono hw4.size)
  have hsz5 : w.heap.size + 2 ≤ w5.heap.size := by have := hb5.size; simp at this; omega
  have y2 := BO5.cell 2
  have y5 := BO5.cell 5
  have g2 := BO5.frozen 2
  have BO6 : Blk (w5.setCell ⟨w.heap.size, 2, none⟩ (.string t)) w.heap.size #[.int .i64 k, .string f, .string t, .int .i64 lo, .int .i64 hi, .slice a ps.length c] 29 := BO5.set 2 (.string t)
  have BZ6 := BZ5.other (p := ⟨w.heap.size, 2, none⟩) (by simp) (.string t)
  have hw6 := hw5.setCell (p := ⟨w.heap.size, 2, none⟩) (Nat.le_refl _) (.string t)
  simp at y2 y5
  clear BO4 BO4b BZ4 BO5 BZ5 hb5 hw4 hw5 y1 g1
  go_wp2_with fail
  refine (HPM.out _ hw6).mono ?_
  rintro e w7 ⟨p', c', fp, rfl, ⟨hq7, hf7⟩, hb7⟩
  have BO7 := BO6.below hb7 BO6.lt
  have BZ7 := BZ6.below hb7 BZ6.lt
  have hw7 := hw6.trans (hb7.mono hw6.size)
  have HQ : Hid (QOwn w7 D p' c' ps fp ∧ ∀ b ∈ fp, w.heap.size + 2 ≤ b) := ⟨hq7, fun b hb => by have := hf7 b hb; simp at this; omega⟩
  clear BO6 BZ6 hb7 hw6 hq7 hf7 y2 y5 g2 HPM hsz3
  have y0 := BO7.cell 0
  have y1 := BO7.cell 1
  have y2 := BO7.cell 2
  have y3 := BO7.cell 3
  have y4 := BO7.cell 4
  have y5 := BO7.cell 5
  have z0 := BZ7.cell 0
  have z1 := BZ7.cell 1
  have z2 := BZ7.cell 2
  have z3 := BZ7.cell 3
  have z4 := BZ7.cell 4
  have z5 := BZ7.cell 5
  have f0 := BZ7.frozen 0
  have f1 := BZ7.frozen 1
  have f2 := BZ7.frozen 2
  have f3 := BZ7.frozen 3
  have f4 := BZ7.frozen 4
  have f5 := BZ7.frozen 5
  have g5 := BO7.frozen 5
  simp at z0 z1 z2 z3 z4 z5 y0 y1 y2 y3 y4 y5
  clear BO7 BZ7
  go_wp2
  refine bodyPost_ret (v := .agg #[.int .i64 k, .string f, .string t, .int .i64 lo, .int .i64 hi, .slice p' ps.length c']) (by simp [results, Tryd.results76, go_sem, z0, z1, z2, z3, z4, z5]) rfl ⟨p', c', fp, rfl, ?_, ?_⟩
  · refine own_base (B := w.heap.size + 2) (by omega) ?_
    exact own_set (own_set (own_set (own_set (own_set (own_set (own_set HQ.out (by simp) _) (by simp) _) (by simp) _) (by simp) _) (by simp) _) (by simp) _) (by simp) _
  · exact (((((((hw7.setCell (by simp) _).setCell (by simp) _).setCell (by simp) _).setCell (by simp) _).setCell (by simp) _).setCell (by simp) _).setCell (by simp) _)
theorem copyI_any : ∀ D, CopyI D
  | 0 => copyI_of (fun D' h => by omega)
  | D + 1 => copyI_of (fun D' h => by obtain rfl : D = D' := by omega
                                      exact copyI_any D)
end Go.Proofs.YtfakoalkbcnejaaDoor
