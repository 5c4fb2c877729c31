/- How a slice of hints that came in is read. -/
import Derived.Test.YtgmfaganaeibkaaDoorHns
import Derived.Deep.Slices
import Derived.Deep.Strs
namespace Go.Proofs.YtgmfaganaeibkaaDoor
open Go.RowKit

theorem list2h {α : Type} {l : List α} (h : l.length = 2) : ∃ a b, l = [a, b] := by
  match l, h with
  | [a, b], _ => exact ⟨a, b, rfl⟩

theorem open_hns {H : Type} {enc : TypeId × Value → H} {W : World} {fuel : Nat} {a : Option Addr} {len cap : Nat} {x : DataW H × List MemPlace}
    (h : DataW.trod enc Tryd.prog W 0 (fun _ => true) true fuel 34 [.slice a len cap] = some x) :
    ∃ fs : List Hn, fs.length = len ∧ len ≤ maxLen ∧ HnRow W a fs ∧ ∀ i, i < fs.length → (hnat fs i).text.size ≤ maxLen := by
  have c3 : Tryd.prog.cellsOf 64 = 2 := by kernel_rfl
  have cs1 : Tryd.prog.cellsOf 9 = 1 := by kernel_rfl
  have ci1 : Tryd.prog.cellsOf 3 = 1 := by kernel_rfl
  rcases Go.Deep.open_slice Tryd.underlying34 h with ⟨hcs, _⟩ | ⟨a', len', cap', m, n, D, Pl, hcs, hb, hl, hm, hmm, _, hx⟩
  · cases hcs
    exact ⟨[], rfl, by decide, fun hp => by simp at hp, fun i hi => by simp at hi⟩
  · cases hcs
    simp only [if_true] at hmm
    have each : ∀ i, i < len → ∃ f : Hn, W.cell? ((a'.add (i * 2)).add 0) = some (.string f.text) ∧ W.cell? ((a'.add (i * 2)).add 1) = some (.int .i64 f.weight) ∧ f.text.size ≤ maxLen := by
      intro i hi
      obtain ⟨cs', h1, h2⟩ := hx i (by omega)
      rw [c3] at h1
      obtain ⟨_, hlen, hcell⟩ := World.cells?_some h1
      obtain ⟨y0, y1, n', _, _, t0, t1⟩ := Go.ChangeShapes.trod_struct2 Tryd.underlying64 h2
      obtain ⟨v0, v1, rfl⟩ := list2h hlen
      simp only [cs1, ci1, List.drop_zero, List.drop_succ_cons, List.take_succ_cons, List.take_zero] at t0 t1
      obtain ⟨s, e0, _, hs⟩ := DataW.trod_string Tryd.underlying9 t0
      obtain ⟨k, e1, _, _⟩ := DataW.trod_int Tryd.underlying3 t1
      cases e0
      cases e1
      exact ⟨⟨s, k⟩, hcell 0 (by omega), hcell 1 (by omega), hs⟩
    obtain ⟨f, hf⟩ := Go.Deep.choose_lt each
    have hhat : ∀ i, i < len → hnat ((List.range len).map f) i = f i := fun i hi => by rw [hnat_get _ _ (by simpa using hi)]; simp
    refine ⟨(List.range len).map f, by simp, by omega, fun hp => ?_, fun i hi => ?_⟩
    · have hp' : 0 < len := by simpa using hp
      obtain ⟨b, off, spot⟩ := a'
      have h0 := (hf 0 hp').1
      have hspot : spot = none := by simpa [Addr.add] using World.cell?_spot h0
      subst hspot
      refine ⟨b, off, rfl, ?_, fun i hi => ?_⟩
      · rw [addr_add, addr_add] at h0
        exact cell_lt h0
      · have hi' : i < len := by simpa using hi
        obtain ⟨q0, q1, _⟩ := hf i hi'
        rw [addr_add, addr_add] at q0 q1
        rw [hhat i hi']
        exact ⟨q0, q1⟩
    · have hi' : i < len := by simpa using hi
      rw [hhat i hi']
      exact (hf i hi').2.2
end Go.Proofs.YtgmfaganaeibkaaDoor
