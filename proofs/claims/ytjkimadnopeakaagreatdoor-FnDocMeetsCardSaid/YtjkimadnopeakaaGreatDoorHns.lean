/- Slices of hints: how they are read, copied, measured, held against each other. -/
import Derived.Test.YtjkimadnopeakaaGreatDoorMg0FnExactMeets
import Derived.Deep.RegionWith
namespace Go.Proofs.YtjkimadnopeakaaGreatDoor
open Go.RowKit

structure Hn where
  text : ByteArray
  weight : Int
instance : Inhabited Hn := ⟨⟨⟨#[]⟩, 0⟩⟩
def hnat (cs : List Hn) (i : Nat) : Hn := cs.getD i default
theorem hnat_get (cs : List Hn) (k : Nat) (h : k < cs.length) : hnat cs k = cs[k] := by unfold hnat; rw [List.getD_eq_getElem?_getD, List.getElem?_eq_getElem h]; rfl
/-- A slice of cells, as it is read. -/
def HnRow (w : World) (a : Option Addr) (cs : List Hn) : Prop := 0 < cs.length → ∃ g off, a = some ⟨g, off, none⟩ ∧ g < w.heap.size ∧ ∀ i, i < cs.length →
  w.cell? ⟨g, off + i * 2, none⟩ = some (.string (hnat cs i).text) ∧ w.cell? ⟨g, off + i * 2 + 1, none⟩ = some (.int .i64 (hnat cs i).weight)
theorem HnRow.below {w w' : World} {a : Option Addr} {cs : List Hn} (h : HnRow w a cs) (hb : Below w.heap.size w w') : HnRow w' a cs := fun hp => by
  obtain ⟨g, off, e, hg, hc⟩ := h hp
  refine ⟨g, off, e, by have := hb.size; omega, fun i hi => ?_⟩
  obtain ⟨c0, c1⟩ := hc i hi
  exact ⟨(hb.cell (p := ⟨g, off + i * 2, none⟩) hg).trans c0, (hb.cell (p := ⟨g, off + i * 2 + 1, none⟩) hg).trans c1⟩
theorem HnRow.set {w : World} {a : Option Addr} {cs : List Hn} (h : HnRow w a cs) {p : Addr} (hne : ∀ x, a = some x → x.block ≠ p.block) (v : Value) : HnRow (w.setCell p v) a cs := fun hp => by
  obtain ⟨g, off, e, hg, hc⟩ := h hp
  have hn : g ≠ p.block := hne _ e
  refine ⟨g, off, e, by simpa [World.setCell] using hg, fun i hi => ?_⟩
  obtain ⟨c0, c1⟩ := hc i hi
  exact ⟨(World.cell?_of_block (Below.heap_setCell _ _ _ _ hn)).trans c0, (World.cell?_of_block (Below.heap_setCell _ _ _ _ hn)).trans c1⟩
def HnsSmall (cs : List Hn) : Prop := ∀ i, i < cs.length → (hnat cs i).text.size ≤ 1048576

/-- The first k of a row's elements are these cells. -/
def HnTo (xs : List Value) (cs : List Hn) (k : Nat) : Prop := ∀ i, i < k → xs[i * 2]? = some (.string (hnat cs i).text) ∧ xs[i * 2 + 1]? = some (.int .i64 (hnat cs i).weight)
theorem HnTo.set {xs : List Value} {cs : List Hn} {k : Nat} (h : HnTo xs cs k) (hk : k * 2 + 1 < xs.length) :
    HnTo ((xs.set (k * 2) (.string (hnat cs k).text)).set (k * 2 + 1) (.int .i64 (hnat cs k).weight)) cs (k + 1) := by
  intro i hi
  by_cases e : i = k
  · subst e
    refine ⟨?_, ?_⟩
    · rw [List.getElem?_set_ne (by omega), List.getElem?_set_self (by omega)]
    · rw [List.getElem?_set_self (by simp; omega)]
  · obtain ⟨h0, h1⟩ := h i (by omega)
    refine ⟨?_, ?_⟩
    · rw [List.getElem?_set_ne (by omega), List.getElem?_set_ne (by omega)]; exact h0
    · rw [List.getElem?_set_ne (by omega), List.getElem?_set_ne (by omega)]; exact h1
theorem owns_hnRow {w : World} {base : Nat} {e : TypeId} {v : Value} {cs : List Hn} {xs : List Value} (h : w.ownsRow base e 2 v cs.length xs) (ht : HnTo xs cs cs.length) :
    ∃ a cap, v = .slice a cs.length cap ∧ cs.length ≤ cap ∧ (a = none → cap = 0) ∧ (∀ x, a = some x → base ≤ x.block) ∧ HnRow w a cs := by
  have hx := h.1
  rcases h.2 with ⟨rfl, h0⟩ | ⟨g, cap, cur, rfl, hb, hg, hc, _⟩
  · exact ⟨none, 0, by rw [h0], by omega, fun _ => rfl, (fun _ e => by cases e), fun hp => by omega⟩
  · refine ⟨_, cap, rfl, hc, (fun h => by cases h), (fun x e => by cases e; exact hb), fun hp => ⟨g, 0, rfl, lt_of_block hg, fun i hi => ?_⟩⟩
    obtain ⟨h0, h1⟩ := ht i hi
    refine ⟨?_, ?_⟩
    · rw [Nat.zero_add, h.cellAt _ (by omega)]; exact h0
    · rw [Nat.zero_add, h.cellAt _ (by omega)]; exact h1

end Go.Proofs.YtjkimadnopeakaaGreatDoor
