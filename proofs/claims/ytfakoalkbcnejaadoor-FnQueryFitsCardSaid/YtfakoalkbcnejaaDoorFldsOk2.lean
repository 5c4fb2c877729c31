/- FieldsOk of the program and of the model. -/
import Derived.Test.YtfakoalkbcnejaaDoorFldsOk
namespace Go.Proofs.YtfakoalkbcnejaaDoor
open Go.RowKit

theorem allTo_congr {f g : Nat → Bool} {k : Nat} (h : ∀ j, j < k → f j = g j) : allTo f k = allTo g k := by
  induction k with
  | zero => rfl
  | succ k ih => simp only [allTo]; rw [ih (fun j hj => h j (by omega)), h k (by omega)]
theorem fat_take (fs : List Fld) (k j : Nat) (h : j < k) (hk : k ≤ fs.length) : fat (fs.take k) j = fat fs j := by
  rw [fat_get _ _ (by simp; omega), fat_get _ _ (by omega)]
  simp
theorem noneTo_take (fs : List Fld) (n : ByteArray) (k : Nat) (hk : k ≤ fs.length) : noneTo (fs.take k) n k = noneTo fs n k := allTo_congr fun j hj => by rw [fat_take fs k j hj hk]
theorem FldRow.take {w : World} {a : Option Addr} {fs : List Fld} (h : FldRow w a fs) (k : Nat) (hk : k ≤ fs.length) : FldRow w a (fs.take k) := fun hp => by
  have hl : (fs.take k).length = k := by simp; omega
  rw [hl] at hp
  obtain ⟨g, off, e, hg, hc⟩ := h (by omega)
  refine ⟨g, off, e, hg, fun i hi => ?_⟩
  rw [hl] at hi
  rw [fat_take fs k i hi hk]
  exact hc i (by omega)
theorem fieldOf_to (a : Option Addr) (cap : Nat) (fs : List Fld) (n : ByteArray) (k : Nat) (w : World) (hk : k ≤ fs.length) (hz : fs.length ≤ 1048576) (hr : FldRow w a fs) :
    Calls Tryd.prog 57 #[.slice a k cap, .string n] w fun e w' => ∃ (f : Fld), e = .returned (.tuple #[.agg #[.string f.name, .int .i64 f.kind, .int .i64 f.weight], .bool (!noneTo fs n k)]) ∧ Below w.heap.size w w' := by
  have hl : (fs.take k).length = k := by simp; omega
  have h := fieldOf_any a cap (fs.take k) n w (by rw [hl]; omega) (hr.take k hk)
  rw [hl] at h
  refine h.mono ?_
  rintro e w' ⟨f, b, rfl, hf, hb⟩
  refine ⟨f, ?_, hb⟩
  have e2 : b = !noneTo fs n k := by
    rcases hf with ⟨rfl, j, hj, _, h2, _⟩ | ⟨rfl, _, h2⟩
    · rw [hl] at hj
      rw [fat_take fs k j hj hk] at h2
      rw [noneTo_not hj h2]
      rfl
    · rw [hl, noneTo_take fs n k hk] at h2
      rw [h2]
      rfl
  rw [e2]

def fldOk (fs : List Fld) (i : Nat) : Bool := noneTo fs (fat fs i).name i && nameI (fat fs i).name && wOk (fat fs i).kind (fat fs i).weight
def fieldsB (fs : List Fld) : Bool := decide (1 ≤ fs.length) && decide (fs.length ≤ 4) && allTo (fldOk fs) fs.length
theorem fieldsB_no (fs : List Fld) (k : Nat) (h : k < fs.length) (hf : fldOk fs k = false) : fieldsB fs = false := by
  unfold fieldsB
  rw [allTo_false _ _ k h hf]
  simp
def FldsSmall (fs : List Fld) : Prop := ∀ i, i < fs.length → (fat fs i).name.size ≤ 1048576

set_option maxHeartbeats 2000000 in
theorem fieldsI_any (a : Option Addr) (cap : Nat) (fs : List Fld) (w : World) (hz : fs.length ≤ 1048576) (hcap : fs.length ≤ cap) (hsm : FldsSmall fs) (hr : FldRow w a fs) :
    Calls Tryd.prog 29 #[.slice a fs.length cap] w fun e w' => e = .returned (.bool (fieldsB fs)) ∧ Below w.heap.size w w' := by
  by_cases h0 : fs.length = 0
  · have HB : Hid (fieldsB fs = false) := by unfold Hid fieldsB; simp [h0]
    have d0 : ((fs.length : Int) == 0) = true := by simp [h0]
    clear hr hsm h0
    go_enter Tryd.func29, Tryd.ntmps29
    go_wp2
    go_ret
    exact ⟨ret_bool HB.out.symm, Below.refl _ _⟩
  have d0 : ((fs.length : Int) == 0) = false := by rw [beq_eq_false_iff_ne]; omega
  by_cases h4 : 4 < (fs.length : Int)
  · have HB : Hid (fieldsB fs = false) := by unfold Hid fieldsB; rw [show decide (fs.length ≤ 4) = false from by simp; omega]; simp
    clear hr hsm h0
    go_enter Tryd.func29, Tryd.ntmps29
    go_wp2
    go_ret
    exact ⟨ret_bool HB.out.symm, Below.refl _ _⟩
  have d4 : decide (4 < (fs.length : Int)) = false := by simpa using h4
  go_enter Tryd.func29, Tryd.ntmps29
  go_wp2
  go_loopw [17] (fun i wr => ∃ k : Nat, k ≤ fs.length ∧ i = .int .i64 k ∧ allTo (fldOk fs) k = true ∧ Below w.heap.size w wr) (fun i _ => fs.length - (intOf i).toNat)
  case atStart => exact ⟨0, Nat.zero_le _, rfl, rfl, Below.refl _ _⟩
  case round =>
    obtain ⟨k, hk, rfl, ha, hbel⟩ := hrel
    have HA : Hid (allTo (fldOk fs) k = true) := ha
    clear ha
    have hsz := hbel.size
    by_cases hlt : k < fs.length
    · have hki : (k : Int) ≤ (cap : Int) := by omega
      have hkl : (k : Int) < (fs.length : Int) := by omega
      have r1 := hr.below hbel
      obtain ⟨g, off, rfl, hg, hc⟩ := r1 (by omega)
      obtain ⟨c0, c1, c2⟩ := hc k hlt
      have hs := hsm k hlt
      have HNO : Hid (fldOk fs k = false → fieldsB fs = false) := fieldsB_no fs k hlt
      have HFO : Hid (fldOk fs k = (noneTo fs (fat fs k).name k && nameI (fat fs k).name && wOk (fat fs k).kind (fat fs k).weight)) := rfl
      generalize fat fs k = fd at *
      obtain ⟨nm, kd, wt⟩ := fd
      simp only at c0 c1 c2 hs HFO
      have r2 := r1.below ((Below.refl _ wr).alloc (Nat.le_refl _) (.cells #[.string nm, .int .i64 kd, .int .i64 wt] 61))
      clear hr hc hsm r1 h0 h4
      have r3 := r2.below ((Below.refl _ _).alloc (Nat.le_refl _) (.cells #[.string ⟨#[]⟩, .int .i64 0, .int .i64 0] 61))
      have hbW : Below w.heap.size w (wr.alloc (.cells #[.string nm, .int .i64 kd, .int .i64 wt] 61)) := hbel.alloc hsz _
      have B1 : Blk (wr.alloc (.cells #[.string nm, .int .i64 kd, .int .i64 wt] 61)) wr.heap.size #[.string nm, .int .i64 kd, .int .i64 wt] 61 := Blk.new _ _ _
      go_wp2
      go_cut [6] (fun tw wx => tw = .bool (!noneTo fs nm k) ∧ Blk wx wr.heap.size #[.string nm, .int .i64 kd, .int .i64 wt] 61 ∧ Below w.heap.size w wx)
      case first =>
        go_region_with (go_at_call 57; refine (fieldOf_to (some ⟨g, off, none⟩) cap fs nm k _ (by omega) (by omega) (by first | exact r2 | exact r3)).mono ?_; rintro e w2 ⟨f2, rfl, hb2⟩; obtain ⟨hcl, hfz⟩ := bcell hb2; have hz2 : wr.heap.size + 1 ≤ w2.heap.size := by have := hb2.size; simp at this; omega)
        all_goals
          go_wp2_with fail
          go_meet
          case rel =>
            refine ⟨rfl, ?_, ?_⟩
            · first
              | exact (B1.over hb2 (by simp) rfl).alloc _
              | exact ((((B1.alloc _).over hb2 (by simp; omega) rfl).other (Nat.ne_of_lt (Nat.lt_succ_self _)) _).other (Nat.ne_of_lt (Nat.lt_succ_self _)) _).other (Nat.ne_of_lt (Nat.lt_succ_self _)) _
            · first
              | exact ((below_drew hbW).trans (hb2.mono (by simp; omega))).alloc (by omega) _
              | exact ((((below_drew (hbW.alloc (by simp; omega) _)).trans (hb2.mono (by simp; omega))).setCell (Nat.le_succ_of_le hsz) _).setCell (Nat.le_succ_of_le hsz) _).setCell (Nat.le_succ_of_le hsz) _
      case rest =>
        obtain ⟨rfl, hblk, hbx⟩ := hcut
        have e0 : wc.cell? ⟨wr.heap.size, 0, none⟩ = some (.string nm) := hblk.cell 0
        have e1 : wc.cell? ⟨wr.heap.size, 1, none⟩ = some (.int .i64 kd) := hblk.cell 1
        have e2 : wc.cell? ⟨wr.heap.size, 2, none⟩ = some (.int .i64 wt) := hblk.cell 2
        have hlx := hblk.lt
        clear r2 r3 hbW B1 hblk c0 c1 c2 hbel
        cases h1 : noneTo fs nm k with
        | false =>
          have hb : Hid (fieldsB fs = false) := HNO.out (by rw [HFO.out, h1]; rfl)
          go_wp2
          go_ret
          exact ⟨ret_bool hb.out.symm, hbx⟩
        | true =>
          go_wp2_with fail
          refine (nameI_any nm _ (by unfold maxLen; omega)).mono ?_
          rintro e w3 ⟨rfl, rfl⟩
          cases h2 : nameI nm with
          | false =>
            have hb : Hid (fieldsB fs = false) := HNO.out (by rw [HFO.out, h1, h2]; rfl)
            go_wp2
            go_ret
            exact ⟨ret_bool hb.out.symm, hbx⟩
          | true =>
            go_wp2_with fail
            refine (weightOk_any nm kd wt _).mono ?_
            rintro e w4 ⟨rfl, hb4⟩
            have hbx4 : Below w.heap.size w w4 := hbx.trans (hb4.mono hbx.size)
            clear e0 e1 e2
            cases h3 : wOk kd wt with
            | false =>
              have hb : Hid (fieldsB fs = false) := HNO.out (by rw [HFO.out, h1, h2, h3]; rfl)
              go_wp2
              go_ret
              exact ⟨ret_bool hb.out.symm, hbx4⟩
            | true =>
              have HS : Hid (allTo (fldOk fs) (k + 1) = true) := allTo_snoc _ k HA.out (by rw [HFO.out, h1, h2, h3]; rfl)
              go_wp2
              go_roundw
              case rel => exact ⟨k + 1, by omega, by go_num, HS.out, hbx4⟩
              case measure => simp [intOf]; omega
    · have hkl : k = fs.length := by omega
      subst hkl
      have HB : Hid (fieldsB fs = true) := by unfold Hid fieldsB; rw [HA.out]; simp; omega
      clear hr hsm
      go_wp2
      go_ret
      exact ⟨ret_bool HB.out.symm, hbel⟩
end Go.Proofs.YtfakoalkbcnejaaDoor
