/- FieldsOk of the program and of the model: the parts. -/
import Derived.Test.YtfakoalkbcnejaaDoorFlds
import Derived.Test.YtfakoalkbcnejaaDoorNameOk
import Derived.Test.YtfakoalkbcnejaaDoorBlk
namespace Go.Proofs.YtfakoalkbcnejaaDoor
open Go.RowKit

/-- A field's weight goes with its kind. -/
def wOk (k x : Int) : Bool := if k == 1 then decide (1 ≤ x) && decide (x ≤ 9) else if k == 2 then x == 0 else if k == 3 then x == 0 else false
theorem weightOk_any (n : ByteArray) (k x : Int) (w : World) :
    Calls Tryd.prog 59 #[.agg #[.string n, .int .i64 k, .int .i64 x]] w fun e w' => e = .returned (.bool (wOk k x)) ∧ Below w.heap.size w w' := by
  go_enter Tryd.func59, Tryd.ntmps59
  go_wp2
  all_goals
    go_ret
    refine ⟨ret_bool ?_, (Below.refl _ w).alloc (Nat.le_refl _) _⟩
    simp_all [wOk]
  all_goals omega

/-- None of the first k has the name. -/
def noneTo (fs : List Fld) (n : ByteArray) (k : Nat) : Bool := allTo (fun j => !((fat fs j).name.toList == n.toList)) k
theorem noneTo_snoc {fs : List Fld} {n : ByteArray} {k : Nat} (h : noneTo fs n k = true) (h2 : ((fat fs k).name.toList == n.toList) = false) : noneTo fs n (k + 1) = true := allTo_snoc _ k h (by simp [h2])
theorem noneTo_not {fs : List Fld} {n : ByteArray} {k j : Nat} (h : k < j) (h2 : ((fat fs k).name.toList == n.toList) = true) : noneTo fs n j = false := allTo_false _ _ k h (by simp [h2])
/-- The place of the first of a name, or -1. -/
def FPos (fs : List Fld) (n : ByteArray) (p : Int) : Prop := (∃ k : Nat, k < fs.length ∧ p = k ∧ ((fat fs k).name.toList == n.toList) = true ∧ noneTo fs n k = true) ∨ (p = -1 ∧ noneTo fs n fs.length = true)
/-- The first of a name, or nothing. -/
def FoundF (fs : List Fld) (n : ByteArray) (f : Fld) (b : Bool) : Prop := (b = true ∧ ∃ k : Nat, k < fs.length ∧ f = fat fs k ∧ ((fat fs k).name.toList == n.toList) = true ∧ noneTo fs n k = true) ∨ (b = false ∧ f = default ∧ noneTo fs n fs.length = true)

set_option maxHeartbeats 400000 in
theorem l2Field_any (a : Option Addr) (cap : Nat) (fs : List Fld) (n : ByteArray) (w : World) (hz : fs.length ≤ 1048576) (hr : FldRow w a fs) :
    Calls Tryd.prog 68 #[.slice a fs.length cap, .string n] w fun e w' => ∃ p : Int, e = .returned (.int .i64 p) ∧ FPos fs n p ∧ w' = w := by
  go_enter Tryd.func68, Tryd.ntmps68
  go_wp2
  go_loop [5] (fun i => ∃ k : Nat, k ≤ fs.length ∧ i = .int .i64 k ∧ noneTo fs n k = true) (fun i => fs.length - (intOf i).toNat)
  case atStart => exact ⟨0, Nat.zero_le _, rfl, rfl⟩
  case round =>
    obtain ⟨k, hk, rfl, hn⟩ := hrel
    have HN : Hid (noneTo fs n k = true) := hn
    clear hn
    by_cases hlt : k < fs.length
    · obtain ⟨g, off, rfl, hg, hc⟩ := hr (by omega)
      obtain ⟨c0, c1, c2⟩ := hc k hlt
      cases he : ((fat fs k).name.toList == n.toList) with
      | true =>
        have HF : Hid (FPos fs n k) := .inl ⟨k, hlt, rfl, he, HN.out⟩
        generalize (fat fs k).name = nm at *
        clear hr hc c1 c2
        go_wp2
        go_ret
        exact ⟨k, rfl, HF.out, rfl⟩
      | false =>
        have HS : Hid (noneTo fs n (k + 1) = true) := noneTo_snoc HN.out he
        generalize (fat fs k).name = nm at *
        clear hr hc c1 c2
        go_wp2
        go_round
        case rel => exact ⟨k + 1, by omega, by go_num, HS.out⟩
        case measure => simp [intOf]; omega
    · have hkl : k = fs.length := by omega
      subst hkl
      clear hr
      go_wp2
      go_ret
      exact ⟨-1, rfl, .inr ⟨rfl, HN.out⟩, rfl⟩

set_option maxHeartbeats 1000000 in
theorem fieldOf_any (a : Option Addr) (cap : Nat) (fs : List Fld) (n : ByteArray) (w : World) (hz : fs.length ≤ 1048576) (hr : FldRow w a fs) :
    Calls Tryd.prog 57 #[.slice a fs.length cap, .string n] w fun e w' => ∃ (f : Fld) (b : Bool), e = .returned (.tuple #[.agg #[.string f.name, .int .i64 f.kind, .int .i64 f.weight], .bool b]) ∧ FoundF fs n f b ∧ Below w.heap.size w w' := by
  have hb0 : Below w.heap.size w (w.alloc (.cells #[.string ⟨#[]⟩, .int .i64 0, .int .i64 0] 61)) := (Below.refl _ w).alloc (Nat.le_refl _) _
  have r0 := hr.below hb0
  have HB0 : Hid (Below w.heap.size w (w.alloc (.cells #[.string ⟨#[]⟩, .int .i64 0, .int .i64 0] 61))) := hb0
  clear hr hb0
  go_enter Tryd.func57, Tryd.ntmps57
  go_wp2
  go_loopw [10] (fun i wr => ∃ k : Nat, k ≤ fs.length ∧ i = .int .i64 k ∧ noneTo fs n k = true ∧ Below (w.alloc (.cells #[.string ⟨#[]⟩, .int .i64 0, .int .i64 0] 61)).heap.size (w.alloc (.cells #[.string ⟨#[]⟩, .int .i64 0, .int .i64 0] 61)) wr) (fun i _ => fs.length - (intOf i).toNat)
  case atStart => exact ⟨0, Nat.zero_le _, rfl, rfl, Below.refl _ _⟩
  case round =>
    obtain ⟨k, hk, rfl, hn, hbel⟩ := hrel
    have HN : Hid (noneTo fs n k = true) := hn
    clear hn
    have hblk : Blk wr w.heap.size #[.string ⟨#[]⟩, .int .i64 0, .int .i64 0] 61 := (Blk.new w _ _).below hbel (by simp)
    have d0 : wr.cell? ⟨w.heap.size, 0, none⟩ = some (.string ⟨#[]⟩) := hblk.cell 0
    have d1 : wr.cell? ⟨w.heap.size, 1, none⟩ = some (.int .i64 0) := hblk.cell 1
    have d2 : wr.cell? ⟨w.heap.size, 2, none⟩ = some (.int .i64 0) := hblk.cell 2
    have f0 := hblk.frozen 0
    have f1 := hblk.frozen 1
    have f2 := hblk.frozen 2
    clear hblk
    have hsz := hbel.size
    rw [World.size_alloc] at hsz
    have hsl : w.heap.size < wr.heap.size := by omega
    have hbw : Below w.heap.size w wr := HB0.out.trans (hbel.mono (by simp))
    by_cases hlt : k < fs.length
    · obtain ⟨g, off, rfl, hg, hc⟩ := (r0.below hbel) (by omega)
      obtain ⟨c0, c1, c2⟩ := hc k hlt
      cases he : ((fat fs k).name.toList == n.toList) with
      | true =>
        have HF : Hid (FoundF fs n (fat fs k) true) := .inl ⟨rfl, k, hlt, rfl, he, HN.out⟩
        generalize fat fs k = fd at *
        obtain ⟨nm, kd, wt⟩ := fd
        simp only at c0 c1 c2 he
        clear r0 hc HB0 HN
        go_wp2
        refine bodyPost_ret (v := .tuple #[.agg #[.string nm, .int .i64 kd, .int .i64 wt], .bool true]) (by simp [results, Tryd.results57, go_sem, d0, d1, d2, hsl]) rfl ⟨⟨nm, kd, wt⟩, true, rfl, HF.out, ?_⟩
        exact (((hbw.setCell (Nat.le_refl _) _).setCell (Nat.le_refl _) _).setCell (Nat.le_refl _) _).alloc (by simp; omega) _
      | false =>
        have HS : Hid (noneTo fs n (k + 1) = true) := noneTo_snoc HN.out he
        generalize fat fs k = fd at *
        obtain ⟨nm, kd, wt⟩ := fd
        simp only at c0 c1 c2 he
        clear r0 hc HB0 HN
        go_wp2
        go_roundw
        case rel => exact ⟨k + 1, by omega, by go_num, HS.out, hbel.alloc (by simp; omega) _⟩
        case measure => simp [intOf]; omega
    · have hkl : k = fs.length := by omega
      subst hkl
      clear r0 HB0
      go_wp2
      refine bodyPost_ret (v := .tuple #[.agg #[.string ⟨#[]⟩, .int .i64 0, .int .i64 0], .bool false]) (by simp [results, Tryd.results57, go_sem, d0, d1, d2]) rfl ⟨⟨⟨#[]⟩, 0, 0⟩, false, rfl, .inr ⟨rfl, rfl, HN.out⟩, ?_⟩
      exact ((hbw.setCell (Nat.le_refl _) _).setCell (Nat.le_refl _) _).setCell (Nat.le_refl _) _
end Go.Proofs.YtfakoalkbcnejaaDoor
