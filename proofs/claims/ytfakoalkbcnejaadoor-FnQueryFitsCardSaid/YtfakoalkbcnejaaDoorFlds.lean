/- Slices of fields: how they are read, copied, held against each other. -/
import Derived.Test.YtfakoalkbcnejaaDoorBase
namespace Go.Proofs.YtfakoalkbcnejaaDoor
open Go.RowKit

structure Fld where
  name : ByteArray
  kind : Int
  weight : Int
instance : Inhabited Fld := ⟨⟨⟨#[]⟩, 0, 0⟩⟩
def fat (fs : List Fld) (i : Nat) : Fld := fs.getD i default
theorem fat_get (fs : List Fld) (k : Nat) (h : k < fs.length) : fat fs k = fs[k] := by unfold fat; rw [List.getD_eq_getElem?_getD, List.getElem?_eq_getElem h]; rfl
def Fld.val (f : Fld) : Value := .agg #[.string f.name, .int .i64 f.kind, .int .i64 f.weight]
def Fld.cells (f : Fld) : List Value := [.string f.name, .int .i64 f.kind, .int .i64 f.weight]
def fldCells (fs : List Fld) : List Value := fs.flatMap Fld.cells
/-- A slice of fields, as it is read. -/
def FldRow (w : World) (a : Option Addr) (fs : List Fld) : Prop := 0 < fs.length → ∃ g off, a = some ⟨g, off, none⟩ ∧ g < w.heap.size ∧ ∀ i, i < fs.length →
  w.cell? ⟨g, off + i * 3, none⟩ = some (.string (fat fs i).name) ∧ w.cell? ⟨g, off + i * 3 + 1, none⟩ = some (.int .i64 (fat fs i).kind) ∧ w.cell? ⟨g, off + i * 3 + 2, none⟩ = some (.int .i64 (fat fs i).weight)
theorem FldRow.below {w w' : World} {a : Option Addr} {fs : List Fld} (h : FldRow w a fs) (hb : Below w.heap.size w w') : FldRow w' a fs := fun hp => by
  obtain ⟨g, off, e, hg, hc⟩ := h hp
  refine ⟨g, off, e, by have := hb.size; omega, fun i hi => ?_⟩
  obtain ⟨c0, c1, c2⟩ := hc i hi
  exact ⟨(hb.cell (p := ⟨g, off + i * 3, none⟩) hg).trans c0, (hb.cell (p := ⟨g, off + i * 3 + 1, none⟩) hg).trans c1, (hb.cell (p := ⟨g, off + i * 3 + 2, none⟩) hg).trans c2⟩

theorem toField_any (n : ByteArray) (k x : Int) (w : World) :
    Calls Tryd.prog 41 #[.agg #[.string n, .int .i64 k, .int .i64 x]] w fun e w' => e = .returned (.agg #[.string n, .int .i64 k, .int .i64 x]) ∧ Below w.heap.size w w' := by
  go_enter Tryd.func41, Tryd.ntmps41
  go_wp2
  exact bodyPost_ret (v := .agg #[.string n, .int .i64 k, .int .i64 x]) (by simp [results, Tryd.results41, go_sem]) rfl ⟨rfl, (((Below.refl _ w).alloc (Nat.le_refl _) _).alloc (by simp) _).alloc (by simp; omega) _⟩

theorem infoFld : (Tryd.prog.info? 61).map (fun i => (i.zero, i.size, i.bytes)) = some (some (.agg #[.string ⟨#[]⟩, .int .i64 0, .int .i64 0]), 3, 32) := by kernel_rfl

/-- The first k of a row's elements are these fields. -/
def FldTo (xs : List Value) (fs : List Fld) (k : Nat) : Prop := ∀ i, i < k → xs[i * 3]? = some (.string (fat fs i).name) ∧ xs[i * 3 + 1]? = some (.int .i64 (fat fs i).kind) ∧ xs[i * 3 + 2]? = some (.int .i64 (fat fs i).weight)
theorem FldTo.set {xs : List Value} {fs : List Fld} {k : Nat} (h : FldTo xs fs k) (hk : k * 3 + 2 < xs.length) :
    FldTo (((xs.set (k * 3) (.string (fat fs k).name)).set (k * 3 + 1) (.int .i64 (fat fs k).kind)).set (k * 3 + 2) (.int .i64 (fat fs k).weight)) fs (k + 1) := by
  intro i hi
  by_cases e : i = k
  · subst e
    refine ⟨?_, ?_, ?_⟩
    · rw [List.getElem?_set_ne (by omega), List.getElem?_set_ne (by omega), List.getElem?_set_self (by omega)]
    · rw [List.getElem?_set_ne (by omega), List.getElem?_set_self (by simp; omega)]
    · rw [List.getElem?_set_self (by simp; omega)]
  · obtain ⟨h0, h1, h2⟩ := h i (by omega)
    refine ⟨?_, ?_, ?_⟩
    · rw [List.getElem?_set_ne (by omega), List.getElem?_set_ne (by omega), List.getElem?_set_ne (by omega)]; exact h0
    · rw [List.getElem?_set_ne (by omega), List.getElem?_set_ne (by omega), List.getElem?_set_ne (by omega)]; exact h1
    · rw [List.getElem?_set_ne (by omega), List.getElem?_set_ne (by omega), List.getElem?_set_ne (by omega)]; exact h2
theorem owns_fldRow {w : World} {base : Nat} {e : TypeId} {v : Value} {fs : List Fld} {xs : List Value} (h : w.ownsRow base e 3 v fs.length xs) (ht : FldTo xs fs fs.length) :
    ∃ a cap, v = .slice a fs.length cap ∧ fs.length ≤ cap ∧ (a = none → cap = 0) ∧ FldRow w a fs := by
  have hx := h.1
  rcases h.2 with ⟨rfl, h0⟩ | ⟨g, cap, cur, rfl, hb, hg, hc, _⟩
  · exact ⟨none, 0, by rw [h0], by omega, fun _ => rfl, fun hp => by omega⟩
  · refine ⟨_, cap, rfl, hc, (fun h => by cases h), fun hp => ⟨g, 0, rfl, lt_of_block hg, fun i hi => ?_⟩⟩
    obtain ⟨h0, h1, h2⟩ := ht i hi
    refine ⟨?_, ?_, ?_⟩
    · rw [Nat.zero_add, h.cellAt _ (by omega)]; exact h0
    · rw [Nat.zero_add, h.cellAt _ (by omega)]; exact h1
    · rw [Nat.zero_add, h.cellAt _ (by omega)]; exact h2

set_option maxHeartbeats 1000000 in
theorem toFieldS_any (a : Option Addr) (cap : Nat) (fs : List Fld) (w : World) (hz : fs.length ≤ 1048576) (hr : FldRow w a fs) :
    Calls Tryd.prog 16 #[.slice a fs.length cap] w fun e w' => ∃ v xs, e = .returned v ∧ w'.ownsRow w.heap.size 61 3 v fs.length xs ∧ FldTo xs fs fs.length ∧ Below w.heap.size w w' := by
  obtain ⟨i0, hi, hz0, hz1, hz2⟩ := info_parts infoFld
  go_enter Tryd.func16, Tryd.ntmps16
  go_wp2_with (refine wpList_make_full _ rfl _ _ 36 rfl w.heap.size 61 i0 (.agg #[.string ⟨#[]⟩, .int .i64 0, .int .i64 0]) 3 Tryd.underlying36 hi hz0 hz1 .i64 .i64 _ _ fs.length rfl rfl rfl rfl (by rw [hz2]; omega) (by unfold maxLen; omega) (Nat.le_refl _) ?_; intro w1 hown1 hgrow1)
  have hb1 : Below w.heap.size w w1 := (Below.refl _ w).grown hgrow1 (Nat.le_refl _) (fun j hj => by cases hj)
  generalize (madeCells (Value.agg #[.string ⟨#[]⟩, .int .i64 0, .int .i64 0]).cells (fs.length * 3)).toList = x0 at hown1
  have HO : Hid (w1.ownsRow w.heap.size 61 3 (.slice (some ⟨w.heap.size, 0, none⟩) fs.length fs.length) fs.length x0) := hown1
  clear hown1 hgrow1
  go_wp2
  go_loopw [4] (fun i wr => ∃ (k : Nat) (xs : List Value), k ≤ fs.length ∧ i = .int .i64 k ∧ wr.ownsRow w.heap.size 61 3 (.slice (some ⟨w.heap.size, 0, none⟩) fs.length fs.length) fs.length xs ∧ FldTo xs fs k ∧ Below w.heap.size w wr) (fun i _ => fs.length - (intOf i).toNat)
  case atStart => exact ⟨0, x0, Nat.zero_le _, rfl, HO.out, fun i hi => by omega, hb1⟩
  case round =>
    clear HO
    obtain ⟨k, xs, hk, rfl, hown, hto, hbel⟩ := hrel
    by_cases hlt : k < fs.length
    · obtain ⟨g, off, rfl, hg, hc⟩ := (hr.below hbel) (by omega)
      obtain ⟨c0, c1, c2⟩ := hc k hlt
      have hxl := hown.1
      have HN : Hid (FldTo (((xs.set (k * 3) (.string (fat fs k).name)).set (k * 3 + 1) (.int .i64 (fat fs k).kind)).set (k * 3 + 2) (.int .i64 (fat fs k).weight)) fs (k + 1)) := hto.set (by omega)
      generalize (fat fs k).name = nm at *
      generalize (fat fs k).kind = kd at *
      generalize (fat fs k).weight = wt at *
      have HOW : Hid (wr.ownsRow w.heap.size 61 3 (.slice (some ⟨w.heap.size, 0, none⟩) fs.length fs.length) fs.length xs) := hown
      clear hr hc hto hown
      go_wp2_with fail
      refine (toField_any nm kd wt _).mono ?_
      rintro e w2 ⟨rfl, hb2⟩
      have ho2 := HOW.out.kept (grown_none hb2) (Classical.em _)
      obtain ⟨ho3, hg3⟩ := ho2.stored (k * 3) (.string nm)
      obtain ⟨ho4, hg4⟩ := ho3.stored (k * 3 + 1) (.int .i64 kd)
      obtain ⟨ho5, hg5⟩ := ho4.stored (k * 3 + 2) (.int .i64 wt)
      have d0 := ho2.cellAt (k * 3) (by omega)
      have d1 := ho2.cellAt (k * 3 + 1) (by omega)
      have d2 := ho2.cellAt (k * 3 + 2) (by omega)
      rw [List.getElem?_eq_getElem (by omega)] at d0 d1 d2
      have f0 := ho2.frozenAt (k * 3)
      have f1 := ho2.frozenAt (k * 3 + 1)
      have f2 := ho2.frozenAt (k * 3 + 2)
      generalize xs[k * 3] = o0 at d0
      generalize xs[k * 3 + 1] = o1 at d1
      generalize xs[k * 3 + 2] = o2 at d2
      have hb5 : Below w.heap.size w ((((w2.setCell ⟨w.heap.size, k * 3, none⟩ (.string nm)).setCell ⟨w.heap.size, k * 3 + 1, none⟩ (.int .i64 kd)).setCell ⟨w.heap.size, k * 3 + 2, none⟩ (.int .i64 wt))) :=
        (((hbel.trans (hb2.mono hbel.size)).setCell (Nat.le_refl _) _).setCell (Nat.le_refl _) _).setCell (Nat.le_refl _) _
      clear ho2 ho3 ho4 hg3 hg4 hg5 HOW
      have HO5 : Hid ((((w2.setCell ⟨w.heap.size, k * 3, none⟩ (.string nm)).setCell ⟨w.heap.size, k * 3 + 1, none⟩ (.int .i64 kd)).setCell ⟨w.heap.size, k * 3 + 2, none⟩ (.int .i64 wt)).ownsRow w.heap.size 61 3 (.slice (some ⟨w.heap.size, 0, none⟩) fs.length fs.length) fs.length (((xs.set (k * 3) (.string nm)).set (k * 3 + 1) (.int .i64 kd)).set (k * 3 + 2) (.int .i64 wt))) := ho5
      have HB5 : Hid (Below w.heap.size w ((((w2.setCell ⟨w.heap.size, k * 3, none⟩ (.string nm)).setCell ⟨w.heap.size, k * 3 + 1, none⟩ (.int .i64 kd)).setCell ⟨w.heap.size, k * 3 + 2, none⟩ (.int .i64 wt)))) := hb5
      clear ho5 hb5
      go_wp2
      go_roundw
      case rel => exact ⟨k + 1, _, by omega, by go_num, HO5.out, HN.out, HB5.out⟩
      case measure => simp [intOf]; omega
    · have hkl : k = fs.length := by omega
      subst hkl
      clear hr
      go_wp2
      go_ret
      exact ⟨_, xs, rfl, hown, hto, hbel⟩
end Go.Proofs.YtfakoalkbcnejaaDoor
