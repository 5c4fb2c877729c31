/- Slices of fields: how they are read, copied, held against each other. -/
import Derived.Test.YtlbigfgjalmhiaaBase
namespace Go.Proofs.Ytlbigfgjalmhiaa
open Go.RowKit

structure Fld where
  name : ByteArray
  kind : Int
  weight : Int
instance : Inhabited Fld := ⟨⟨⟨#[]⟩, 0, 0⟩⟩
def fat (fs : List Fld) (i : Nat) : Fld := fs.getD i default
theorem fat_get (fs : List Fld) (k : Nat) (h : k < fs.length) : fat fs k = fs[k] := by unfold fat; rw [List.getD_eq_getElem?_getD, List.getElem?_eq_getElem h]; rfl
def Fld.val (f : Fld) : Value := .agg #[.string f.name, .int .i64 f.kind, .int .i64 f.weight]
def Fld.cells (f : Fld) : List Value := [.string f.name, .int .i64 f.kind, .int .i64 f.weight]
def fldCells (fs : List Fld) : List Value := fs.flatMap Fld.cells
/-- A slice of fields, as it is read. -/
def FldRow (w : World) (a : Option Addr) (fs : List Fld) : Prop := 0 < fs.length → ∃ g off, a = some ⟨g, off, none⟩ ∧ g < w.heap.size ∧ ∀ i, i < fs.length →
  w.cell? ⟨g, off + i * 3, none⟩ = some (.string (fat fs i).name) ∧ w.cell? ⟨g, off + i * 3 + 1, none⟩ = some (.int .i64 (fat fs i).kind) ∧ w.cell? ⟨g, off + i * 3 + 2, none⟩ = some (.int .i64 (fat fs i).weight)
theorem FldRow.below {w w' : World} {a : Option Addr} {fs : List Fld} (h : FldRow w a fs) (hb : Below w.heap.size w w') : FldRow w' a fs := fun hp => by
  obtain ⟨g, off, e, hg, hc⟩ := h hp
  refine ⟨g, off, e, by have := hb.size; omega, fun i hi => ?_⟩
  obtain ⟨c0, c1, c2⟩ := hc i hi
  exact ⟨(hb.cell (p := ⟨g, off + i * 3, none⟩) hg).trans c0, (hb.cell (p := ⟨g, off + i * 3 + 1, none⟩) hg).trans c1, (hb.cell (p := ⟨g, off + i * 3 + 2, none⟩) hg).trans c2⟩

theorem infoFld : (Try.prog.info? 60).map (fun i => (i.zero, i.size, i.bytes)) = some (some (.agg #[.string ⟨#[]⟩, .int .i64 0, .int .i64 0]), 3, 32) := by kernel_rfl

/-- The first k of a row's elements are these fields. -/
def FldTo (xs : List Value) (fs : List Fld) (k : Nat) : Prop := ∀ i, i < k → xs[i * 3]? = some (.string (fat fs i).name) ∧ xs[i * 3 + 1]? = some (.int .i64 (fat fs i).kind) ∧ xs[i * 3 + 2]? = some (.int .i64 (fat fs i).weight)
theorem FldTo.set {xs : List Value} {fs : List Fld} {k : Nat} (h : FldTo xs fs k) (hk : k * 3 + 2 < xs.length) :
    FldTo (((xs.set (k * 3) (.string (fat fs k).name)).set (k * 3 + 1) (.int .i64 (fat fs k).kind)).set (k * 3 + 2) (.int .i64 (fat fs k).weight)) fs (k + 1) := by
  intro i hi
  by_cases e : i = k
  · subst e
    refine ⟨?_, ?_, ?_⟩
    · rw [List.getElem?_set_ne (by omega), List.getElem?_set_ne (by omega), List.getElem?_set_self (by omega)]
    · rw [List.getElem?_set_ne (by omega), List.getElem?_set_self (by simp; omega)]
    · rw [List.getElem?_set_self (by simp; omega)]
  · obtain ⟨h0, h1, h2⟩ := h i (by omega)
    refine ⟨?_, ?_, ?_⟩
    · rw [List.getElem?_set_ne (by omega), List.getElem?_set_ne (by omega), List.getElem?_set_ne (by omega)]; exact h0
    · rw [List.getElem?_set_ne (by omega), List.getElem?_set_ne (by omega), List.getElem?_set_ne (by omega)]; exact h1
    · rw [List.getElem?_set_ne (by omega), List.getElem?_set_ne (by omega), List.getElem?_set_ne (by omega)]; exact h2
theorem owns_fldRow {w : World} {base : Nat} {e : TypeId} {v : Value} {fs : List Fld} {xs : List Value} (h : w.ownsRow base e 3 v fs.length xs) (ht : FldTo xs fs fs.length) :
    ∃ a cap, v = .slice a fs.length cap ∧ fs.length ≤ cap ∧ (a = none → cap = 0) ∧ FldRow w a fs := by
  have hx := h.1
  rcases h.2 with ⟨rfl, h0⟩ | ⟨g, cap, cur, rfl, hb, hg, hc, _⟩
  · exact ⟨none, 0, by rw [h0], by omega, fun _ => rfl, fun hp => by omega⟩
  · refine ⟨_, cap, rfl, hc, (fun h => by cases h), fun hp => ⟨g, 0, rfl, lt_of_block hg, fun i hi => ?_⟩⟩
    obtain ⟨h0, h1, h2⟩ := ht i hi
    refine ⟨?_, ?_, ?_⟩
    · rw [Nat.zero_add, h.cellAt _ (by omega)]; exact h0
    · rw [Nat.zero_add, h.cellAt _ (by omega)]; exact h1
    · rw [Nat.zero_add, h.cellAt _ (by omega)]; exact h2

end Go.Proofs.Ytlbigfgjalmhiaa
