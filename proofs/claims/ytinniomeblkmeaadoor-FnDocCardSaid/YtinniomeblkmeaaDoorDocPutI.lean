/- The program's DocPut. -/
import Derived.Test.YtinniomeblkmeaaDoorDocPut
import Derived.Test.YtinniomeblkmeaaDoorDocForm2
namespace Go.Proofs.YtinniomeblkmeaaDoor
open Go.RowKit
theorem isB_alloc1 {T e : TypeId} {B b : Nat} {p : Value} {bs : List Value} {w : World} (h : Lib.BuilderAt T e B b p bs w) (o : Obj) : Lib.BuilderAt T e B b p bs (w.alloc o) := by
  have hlt := h.lt
  obtain ⟨hB, v, hb, hown, hne⟩ := h
  exact ⟨hB, v, (Lib.alloc_old w o b hlt).trans hb, hown.kept (World.grownBy_alloc w o none) (by cases hv : v.ownBlock <;> simp), hne⟩
theorem isB_alloc {T e : TypeId} {B b : Nat} {bs : List Value} {w : World} (h : Lib.IsBuilder T e B b bs w) (o : Obj) : Lib.IsBuilder T e B b bs (w.alloc o) :=
  h.elim (fun x => .inl (isB_alloc1 x o)) (fun x => .inr (isB_alloc1 x o))
theorem isB_set {T e : TypeId} {B b : Nat} {bs : List Value} {w : World} (h : Lib.IsBuilder T e B b bs w) : Lib.IsBuilder T e B b bs w.drew := h

set_option maxHeartbeats 1000000 in
theorem docPutI_any (key : ByteArray) (a : Option Addr) (cap : Nat) (cs : List Cel) (w : World) (hk : key.size ≤ 1048576) (hz : cs.length ≤ 1048576) (hsm : CelsSmall cs) (hr : CelRow w a cs) :
    Calls Tryd.prog 22 #[.agg #[.string key, .slice a cs.length cap]] w fun e w' => e = .returned (.string (docPutB key cs)) ∧ Below w.heap.size w w' := by
  have hb0 : Below w.heap.size w (w.alloc (.cells #[.string key, .slice a cs.length cap] 34)) := (Below.refl _ w).alloc (Nat.le_refl _) _
  have r0 := hr.below hb0
  clear hr
  cases hf : formB key cs with
  | false =>
    have HB : Hid (docPutB key cs = ⟨#[]⟩) := by unfold Hid docPutB; rw [hf]; rfl
    go_enter Tryd.func22, Tryd.ntmps22
    go_wp2_with fail
    refine (form_any key a cap cs _ hk hz hsm r0).mono ?_
    rintro e w1 ⟨rfl, hb1⟩
    rw [hf]
    have hb2 : Below w.heap.size w w1 := hb0.trans (hb1.mono (by simp))
    clear r0 hsm
    go_wp2
    go_ret
    exact ⟨ret_string HB.out.symm, hb2⟩
  | true =>
    have HB : Hid (docPutB key cs = docPutTo key cs cs.length) := by unfold Hid docPutB; rw [hf]; rfl
    go_enter Tryd.func22, Tryd.ntmps22
    go_wp2_with fail
    refine (form_any key a cap cs _ hk hz hsm r0).mono ?_
    rintro e w1 ⟨rfl, hb1⟩
    rw [hf]
    have hb2 : Below w.heap.size w w1 := hb0.trans (hb1.mono (by simp))
    have r1 := r0.below hb1
    have B1 : Blk w1 w.heap.size #[.string key, .slice a cs.length cap] 34 := (Blk.new w _ _).below hb1 (by simp)
    have b0 : w1.cell? ⟨w.heap.size, 0, none⟩ = some (.string key) := B1.cell 0
    have b1 : w1.cell? ⟨w.heap.size, 1, none⟩ = some (.slice a cs.length cap) := B1.cell 1
    have hlt := B1.lt
    clear r0 hsm hb1
    have I1 := Lib.fresh_isBuilder 86 5 w1
    have hb3 : Below w1.heap.size w1 (w1.alloc (.cells #[.pointer none, .slice none 0 0] 86)) := (Below.refl _ w1).alloc (Nat.le_refl _) _
    have hk8 := (form_of hf).1
    go_wp2_with fail
    refine (Tryd.Builder_WriteString w1.heap.size w1.heap.size [] key _ I1 (by simp; omega) (by simp)).mono ?_
    rintro e w2 ⟨rfl, I2, hb4⟩
    have hb5 : Below w1.heap.size w1 w2 := hb3.trans hb4
    have I2' : Lib.IsBuilder 86 5 w1.heap.size w1.heap.size (Lib.byteCells (docPutTo key cs 0).data.toList) w2 := .inr I2
    have B2 := B1.below hb5 hlt
    have b0' : w2.cell? ⟨w.heap.size, 0, none⟩ = some (.string key) := B2.cell 0
    have b1' : w2.cell? ⟨w.heap.size, 1, none⟩ = some (.slice a cs.length cap) := B2.cell 1
    have HI : Hid (Lib.IsBuilder 86 5 w1.heap.size w1.heap.size (Lib.byteCells (docPutTo key cs 0).data.toList) w2) := I2'
    have HR : Hid (CelRow w1 a cs) := r1
    have HF : Hid (formB key cs = true) := hf
    have hl4 := (form_of hf).2.1
    clear I1 I2 I2' hb3 hb4 b0 b1 B1 B2 r1 hf hb0
    go_wp2
    go_loopw [15] (fun i wr => ∃ k : Nat, k ≤ cs.length ∧ i = .int .i64 k ∧ Lib.IsBuilder 86 5 w1.heap.size w1.heap.size (Lib.byteCells (docPutTo key cs k).data.toList) wr ∧ Below w1.heap.size w1 wr) (fun i _ => cs.length - (intOf i).toNat)
    case atStart => exact ⟨0, Nat.zero_le _, rfl, HI.out, hb5⟩
    case round =>
      clear HI hb5 b0' b1'
      obtain ⟨k, hkk, rfl, hI, hbel⟩ := hrel
      have hsz := hbel.size
      by_cases hltk : k < cs.length
      · obtain ⟨g, off, rfl, hg, hc⟩ := (HR.out.below hbel) (by omega)
        obtain ⟨c0, c1⟩ := hc k hltk
        obtain ⟨hs0, hs1⟩ := (form_of HF.out).2.2 k hltk
        have hps := docPutTo_size HF.out k (by omega)
        have HS : Hid (docPutTo key cs (k + 1) = docPutTo key cs k ++ cellS (cat cs k)) := rfl
        generalize docPutTo key cs k = ps at *
        generalize cat cs k = cl at *
        obtain ⟨nm, tx⟩ := cl
        simp only at c0 c1 hs0 hs1 HS
        have HB1 : Hid (Lib.IsBuilder 86 5 w1.heap.size w1.heap.size (Lib.byteCells ps.data.toList) (wr.alloc (.cells #[.string nm, .string tx] 92))) := isB_alloc hI _
        have hb6 := hbel.alloc hsz (.cells #[.string nm, .string tx] 92)
        clear hc hI
        have hcz : (cellS ⟨nm, tx⟩).size ≤ 70 := by
          have e1 : (⟨#[10]⟩ : ByteArray).size = 1 := rfl
          have e2 : (⟨#[61]⟩ : ByteArray).size = 1 := rfl
          simp only [cellS, ByteArray.size_append]
          omega
        have hpl : ps.data.toList.length ≤ 8 + 70 * k := by rw [← Lib.size_eq]; exact hps
        go_wp2_with fail
        refine (Tryd.Builder_WriteString w1.heap.size w1.heap.size _ (cellS ⟨nm, tx⟩) _ HB1.out (by rw [Lib.byteCells_length]; omega) hb6.size).mono ?_
        rintro e w4 ⟨rfl, I4, hb7⟩
        have I5 : Lib.IsBuilder 86 5 w1.heap.size w1.heap.size (Lib.byteCells (docPutTo key cs (k + 1)).data.toList) w4 := by
          rw [HS.out, ByteArray.data_append, Array.toList_append, Lib.byteCells_append, ← Lib.strCells_eq (cellS _)]
          exact .inr I4
        have hb8 := hb6.trans hb7
        clear HB1 I4 hb6 hb7 HS
        go_wp2
        go_roundw
        case rel => exact ⟨k + 1, by omega, by go_num, I5, hb8⟩
        case measure => simp [intOf]; omega
      · have hkl : k = cs.length := by omega
        subst hkl
        have HI : Hid (Lib.IsBuilder 86 5 w1.heap.size w1.heap.size (Lib.byteCells (docPutTo key cs cs.length).data.toList) wr) := hI
        clear hI
        go_wp2_with fail
        refine (Tryd.Builder_String_any w1.heap.size w1.heap.size _ _ HI.out hsz).mono ?_
        rintro e w3 ⟨rfl, hb7⟩
        go_wp2
        go_ret
        exact ⟨ret_string HB.out.symm, hb2.trans ((hbel.trans hb7).mono (by omega))⟩
end Go.Proofs.YtinniomeblkmeaaDoor
