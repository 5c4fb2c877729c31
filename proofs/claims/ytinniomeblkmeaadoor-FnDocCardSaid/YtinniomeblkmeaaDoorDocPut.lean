/- DocPut of the program and of the model. -/
import Derived.Test.YtinniomeblkmeaaDoorDocForm3
import Derived.Test.YtinniomeblkmeaaDoorShelf
namespace Go.Proofs.YtinniomeblkmeaaDoor
open Go.RowKit

def cellS (c : Cel) : ByteArray := ⟨#[10]⟩ ++ c.name ++ ⟨#[61]⟩ ++ c.text
/-- What is written of a document with its first k cells. -/
def docPutTo (key : ByteArray) (cs : List Cel) : Nat → ByteArray
  | 0 => key
  | k + 1 => docPutTo key cs k ++ cellS (cat cs k)
def docPutB (key : ByteArray) (cs : List Cel) : ByteArray := if formB key cs then docPutTo key cs cs.length else ⟨#[]⟩
theorem docPut_model (o nm tx : ByteArray) : o ++ ⟨#[10]⟩ ++ nm ++ ⟨#[61]⟩ ++ tx = o ++ cellS ⟨nm, tx⟩ := by
  apply ByteArray.ext
  simp [cellS]
theorem form_of {key : ByteArray} {cs : List Cel} (h : formB key cs = true) : key.size ≤ 8 ∧ cs.length ≤ 4 ∧ ∀ k, k < cs.length → (cat cs k).name.size ≤ 8 ∧ (cat cs k).text.size ≤ 60 := by
  simp only [formB, Bool.and_eq_true, decide_eq_true_eq, allTo_iff] at h
  have nm8 : ∀ s, nameI s = true → s.size ≤ 8 := fun s h => by
    simp only [nameI, Bool.and_eq_true, decide_eq_true_eq] at h
    omega
  refine ⟨nm8 _ h.1.1, h.1.2, fun k hk => ?_⟩
  have h2 := h.2 k hk
  simp only [celOk, Bool.and_eq_true] at h2
  refine ⟨nm8 _ h2.1.2, ?_⟩
  have h3 := h2.2
  simp only [textB, Bool.and_eq_true, decide_eq_true_eq] at h3
  omega
theorem docPutTo_size {key : ByteArray} {cs : List Cel} (h : formB key cs = true) : ∀ k, k ≤ cs.length → (docPutTo key cs k).size ≤ 8 + 70 * k
  | 0, _ => by have := (form_of h).1; simp only [docPutTo]; omega
  | k + 1, hk => by
    have h1 := docPutTo_size h k (by omega)
    obtain ⟨h2, h3⟩ := (form_of h).2.2 k (by omega)
    simp only [docPutTo, cellS, ByteArray.size_append]
    have e1 : (⟨#[10]⟩ : ByteArray).size = 1 := rfl
    have e2 : (⟨#[61]⟩ : ByteArray).size = 1 := rfl
    omega

set_option maxHeartbeats 1000000 in
theorem l2DocPut_any (key : ByteArray) (a : Option Addr) (cap : Nat) (cs : List Cel) (w : World) (hf : formB key cs = true) (hr : CelRow w a cs) :
    Calls Tryd.prog 73 #[.agg #[.string key, .slice a cs.length cap]] w fun e w' => e = .returned (.string (docPutTo key cs cs.length)) ∧ Below w.heap.size w w' := by
  have hb0 : Below w.heap.size w (w.alloc (.cells #[.string key, .slice a cs.length cap] 34)) := (Below.refl _ w).alloc (Nat.le_refl _) _
  have HB0 : Hid (Blk (w.alloc (.cells #[.string key, .slice a cs.length cap] 34)) w.heap.size #[.string key, .slice a cs.length cap] 34) := Blk.new w _ _
  have hl := (form_of hf).2.1
  go_enter Tryd.func73, Tryd.ntmps73
  go_wp2
  go_loopw [3, 4] (fun o i wr => ∃ k : Nat, k ≤ cs.length ∧ i = .int .i64 k ∧ o = .string (docPutTo key cs k) ∧ Blk wr w.heap.size #[.string key, .slice a cs.length cap] 34 ∧ Below w.heap.size w wr) (fun _ i _ => cs.length - (intOf i).toNat)
  case atStart => exact ⟨0, Nat.zero_le _, rfl, rfl, HB0.out, hb0⟩
  case round =>
    clear HB0 hb0
    obtain ⟨k, hkk, rfl, rfl, hblk, hbel⟩ := hrel
    have hbl := hblk.lt
    by_cases hlt : k < cs.length
    · have hkl : (k : Int) < (cs.length : Int) := by omega
      obtain ⟨g, off, rfl, hg, hc⟩ := (hr.below hbel) (by omega)
      obtain ⟨c0, c1⟩ := hc k hlt
      obtain ⟨hs0, hs1⟩ := (form_of hf).2.2 k hlt
      have hps := docPutTo_size hf k (by omega)
      have e1 : wr.cell? ⟨w.heap.size, 1, none⟩ = some (.slice (some ⟨g, off, none⟩) cs.length cap) := hblk.cell 1
      have HBK : Hid (Blk wr w.heap.size #[.string key, .slice (some ⟨g, off, none⟩) cs.length cap] 34) := hblk
      have HS : Hid (docPutTo key cs (k + 1) = docPutTo key cs k ++ cellS (cat cs k)) := rfl
      generalize docPutTo key cs k = ps at *
      generalize cat cs k = cl at *
      obtain ⟨nm, tx⟩ := cl
      simp only at c0 c1 hs0 hs1 HS
      have HS2 : Hid (docPutTo key cs (k + 1) = ps ++ ⟨#[10]⟩ ++ nm ++ ⟨#[61]⟩ ++ tx) := by unfold Hid; rw [HS.out, docPut_model]
      clear hr hc hf hblk HS
      go_wp2
      go_quiet (fail)
      go_wp2
      go_roundw
      case rel => exact ⟨k + 1, by omega, by go_num, by rw [HS2.out], HBK.out, below_drewN hbel _⟩
      case measure => simp [intOf]; omega
    · have hkl : k = cs.length := by omega
      subst hkl
      have e1 : wr.cell? ⟨w.heap.size, 1, none⟩ = some (.slice a cs.length cap) := hblk.cell 1
      clear hr hf hblk
      go_wp2
      go_ret
      exact ⟨rfl, hbel⟩

theorem docPutS_any (key : ByteArray) (a : Option Addr) (cap : Nat) (cs : List Cel) (w : World) (hk : key.size ≤ 1048576) (hz : cs.length ≤ 1048576) (hsm : CelsSmall cs) (hr : CelRow w a cs) :
    Calls Tryd.prog 24 #[.agg #[.string key, .slice a cs.length cap]] w fun e w' => e = .returned (.string (docPutB key cs)) ∧ Below w.heap.size w w' := by
  have hb0 : Below w.heap.size w (w.alloc (.cells #[.string key, .slice a cs.length cap] 34)) := (Below.refl _ w).alloc (Nat.le_refl _) _
  have r0 := hr.below hb0
  clear hr
  cases hf : formB key cs with
  | false =>
    have HB : Hid (docPutB key cs = ⟨#[]⟩) := by unfold Hid docPutB; rw [hf]; rfl
    go_enter Tryd.func24, Tryd.ntmps24
    go_wp2_with fail
    refine (l2Form_any key a cap cs _ hk hz hsm r0).mono ?_
    rintro e w1 ⟨rfl, hb1⟩
    rw [hf]
    have hb2 : Below w.heap.size w w1 := hb0.trans (hb1.mono (by simp))
    clear r0 hsm
    go_wp2
    go_ret
    exact ⟨ret_string HB.out.symm, hb2⟩
  | true =>
    have HB : Hid (docPutB key cs = docPutTo key cs cs.length) := by unfold Hid docPutB; rw [hf]; rfl
    go_enter Tryd.func24, Tryd.ntmps24
    go_wp2_with fail
    refine (l2Form_any key a cap cs _ hk hz hsm r0).mono ?_
    rintro e w1 ⟨rfl, hb1⟩
    rw [hf]
    have hb2 : Below w.heap.size w w1 := hb0.trans (hb1.mono (by simp))
    have r1 := r0.below hb1
    have B1 : Blk w1 w.heap.size #[.string key, .slice a cs.length cap] 34 := (Blk.new w _ _).below hb1 (by simp)
    have b0 : w1.cell? ⟨w.heap.size, 0, none⟩ = some (.string key) := B1.cell 0
    have b1 : w1.cell? ⟨w.heap.size, 1, none⟩ = some (.slice a cs.length cap) := B1.cell 1
    have hlt := B1.lt
    clear r0 hsm B1 hb1
    go_wp2_with fail
    refine (l2DocPut_any key a cap cs _ hf r1).mono ?_
    rintro e w2 ⟨rfl, hb3⟩
    clear r1 b0 b1
    go_wp2
    go_ret
    exact ⟨ret_string HB.out.symm, below_trans hb2 hb3⟩

end Go.Proofs.YtinniomeblkmeaaDoor
