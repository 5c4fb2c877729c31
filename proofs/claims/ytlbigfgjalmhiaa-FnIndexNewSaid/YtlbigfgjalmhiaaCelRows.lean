/- Rows of cells that a call owns: small facts. -/
import Derived.Test.YtlbigfgjalmhiaaCels
import Derived.Test.YtlbigfgjalmhiaaBlk
namespace Go.Proofs.Ytlbigfgjalmhiaa
open Go.RowKit

/-- What lies in memory of cells. -/
def celCells (cs : List Cel) : List Value := cs.flatMap fun c => [.string c.name, .string c.text]
theorem celCells_snoc (cs : List Cel) (c : Cel) : celCells (cs ++ [c]) = celCells cs ++ [.string c.name, .string c.text] := by simp [celCells]
theorem celCells_cons (c : Cel) (cs : List Cel) : celCells (c :: cs) = .string c.name :: .string c.text :: celCells cs := by simp [celCells]
theorem celTo_cells : ∀ cs : List Cel, CelTo (celCells cs) cs cs.length
  | [], i, hi => absurd hi (by simp)
  | c :: cs, 0, _ => ⟨rfl, rfl⟩
  | c :: cs, i + 1, hi => by
    have h := celTo_cells cs i (by simpa using hi)
    have e1 : (i + 1) * 2 = i * 2 + 1 + 1 := by omega
    have e2 : (i + 1) * 2 + 1 = i * 2 + 1 + 1 + 1 := by omega
    rw [celCells_cons, e1]
    exact h
/-- Cells of small texts. -/
def CelsB (cs : List Cel) : Prop := ∀ c ∈ cs, c.name.size ≤ 1000 ∧ c.text.size ≤ 1000
theorem CelsB.snoc {cs : List Cel} (h : CelsB cs) {c : Cel} (h1 : c.name.size ≤ 1000) (h2 : c.text.size ≤ 1000) : CelsB (cs ++ [c]) := by
  intro x hx
  rcases List.mem_append.1 hx with hx | hx
  · exact h x hx
  · have : x = c := by simpa using hx
    subst this
    exact ⟨h1, h2⟩
theorem CelsB.small {cs : List Cel} (h : CelsB cs) : CelsSmall cs := by
  intro i hi
  have := h (cs[i]) (List.getElem_mem hi)
  rw [cat_get cs i hi]
  omega
theorem two_one (a b : ByteArray) : ∀ u ∈ [Value.string a, Value.string b], u.oneCell' = true := by
  intro u hu
  simp at hu
  rcases hu with rfl | rfl <;> rfl
theorem own_type {w : World} {B s n b : Nat} {e T : TypeId} {v : Value} {xs : List Value} {cs : Array Value} (hown : w.ownsRow B e s v n xs) (hb : Blk w b cs T) (hTe : T ≠ e) : v.ownBlock ≠ some b := by
  rcases hown.2 with ⟨rfl, _⟩ | ⟨g, cap, cur, rfl, _, hg, _⟩
  · simp [Value.ownBlock]
  · intro h
    simp only [Value.ownBlock, Option.some.injEq] at h
    subst h
    unfold Blk at hb
    rw [hg] at hb
    simp only [Option.some.injEq, Obj.cells.injEq] at hb
    exact hTe hb.2.1.symm
theorem Blk.grown {w w' : World} {B : Nat} {C : Array Value} {t : TypeId} {r : Option Nat} (h : Blk w B C t) (hg : w.grownBy w' r) (hn : some B ≠ r) : Blk w' B C t := (hg.block B h.lt hn).trans h
end Go.Proofs.Ytlbigfgjalmhiaa
