/- A map by texts that the call has made: what stands at each text. -/
import Derived.Test.YtbifagdcnpnpjaaGreatCommon
import Derived.Maps.Views
import Derived.Maps.OwnSet
namespace Go.Proofs.YtbifagdcnpnpjaaGreat
open Go Go.RowKit Go.Maps Go.WideMaps
set_option linter.unusedVariables false

/-- An element is told as it is. -/
def rawR (v : Value) : Option (DataW Value × List MemPlace) := some (.held v, [])
/-- Block b is a map of at most N entries, in which F s stands at each text s. -/
def MapS (w : World) (b N : Nat) (F : ByteArray → Value) (z : Value) : Prop := ∃ D, w.ownsMap Tryz.prog 9 rawR b N D ∧ ∀ s : ByteArray, D.atKey (.string s.data.toList) (.held z) = .held (F s)
theorem MapS.made (w : World) (z : Value) : MapS (w.alloc (.map #[] 0)) w.heap.size 0 (fun _ => z) z := ⟨.map [], World.ownsMap_made w _ _ _, fun s => rfl⟩
theorem MapS.lt {w : World} {b N : Nat} {F : ByteArray → Value} {z : Value} (h : MapS w b N F z) : b < w.heap.size := by
  obtain ⟨D, h, _⟩ := h
  exact h.lt
theorem MapS.same {w w' : World} {b N : Nat} {F : ByteArray → Value} {z : Value} (h : MapS w b N F z) (hb : w'.heap[b]? = w.heap[b]?) : MapS w' b N F z := by
  obtain ⟨D, ⟨es, clock, h1, h2, h3, h4⟩, h5⟩ := h
  exact ⟨D, ⟨es, clock, hb.trans h1, h2, h3, h4⟩, h5⟩
theorem MapS.mono {w : World} {b N M : Nat} {F : ByteArray → Value} {z : Value} (h : MapS w b N F z) (hm : N ≤ M) : MapS w b M F z := by
  obtain ⟨D, h1, h2⟩ := h
  exact ⟨D, h1.mono hm, h2⟩
theorem str_key {s : ByteArray} (hs : s.size ≤ maxLen) : keyOf Tryz.prog 9 (.string s) = some (.string s.data.toList) := keyOf_string_mk Tryz.underlying9 hs
theorem MapS.look {w : World} {b N : Nat} {F : ByteArray → Value} {z : Value} (h : MapS w b N F z) (t e : TypeId) (ht : Tryz.prog.underlying t = some (.map 9 e)) (hz : (zeroValue e).run Tryz.prog w = .ok z w) {s : ByteArray} (hs : s.size ≤ maxLen) :
    (Instr.lookup t (.map (some b)) (.string s) false).run Tryz.prog w = .ok (F s) w := by
  obtain ⟨D, h1, h2⟩ := h
  obtain ⟨v, ps, h3, h4⟩ := h1.lookup (string_keyed Tryz.underlying9) ht hz (zd := .held z) (zp := []) rfl (str_key hs)
  rw [h2 s] at h4
  unfold rawR at h4
  cases h4
  exact h3
theorem lit_ne {s t : ByteArray} (h : s ≠ t) : (Lit.string s.data.toList) ≠ .string t.data.toList := fun e => h (by
  injection e with e
  cases s; cases t
  simpa using e)
theorem MapS.put {w : World} {b N : Nat} {F : ByteArray → Value} {z : Value} (h : MapS w b N F z) (t e : TypeId) (ht : Tryz.prog.underlying t = some (.map 9 e)) (hN : N < maxLen) {s : ByteArray} (hs : s.size ≤ maxLen) (v : Value) :
    ∃ w', (Instr.mapUpdate t (.map (some b)) (.string s) v).run Tryz.prog w = .ok () w' ∧ MapS w' b (N + 1) (fun u => if u = s then v else F u) z ∧ w.grownBy w' (some b) := by
  obtain ⟨D, h1, h2⟩ := h
  obtain ⟨w', h3, h4, h5⟩ := h1.update (string_keyed Tryz.underlying9) ht hN (d := .held v) (ps := []) (str_key hs) rfl
  refine ⟨w', h3, ⟨_, h4, fun u => ?_⟩, h5⟩
  have hD : IsMap D := by
    obtain ⟨es, clock, _, _, _, rfl⟩ := h1
    exact ⟨_, rfl⟩
  show _ = DataW.held (if u = s then v else F u)
  by_cases e : u = s
  · subst e
    rw [if_pos rfl]
    exact atKey_put_same (k := .string u.data.toList) hD (by unfold WideAt.IsKeyLit; trivial) _ _
  · rw [if_neg e, atKey_put_other (lit_ne e)]
    exact h2 u
end Go.Proofs.YtbifagdcnpnpjaaGreat
