/- How a document that came in is read. -/
import Derived.Test.YtbifagdcnpnpjaaGreatMg5FnExactIndexOk
import Derived.Test.YtbifagdcnpnpjaaGreatOpenFlds
namespace Go.Proofs.YtbifagdcnpnpjaaGreat
open Go.RowKit

theorem open_cels {H : Type} {enc : TypeId × Value → H} {W : World} {fuel : Nat} {cs0 : List Value} {x : DataW H × List MemPlace}
    (h : DataW.trod enc Tryz.prog W 0 (fun _ => true) true fuel 48 cs0 = some x) :
    ∃ (a : Option Addr) (cap : Nat) (cs : List Cel), cs0 = [.slice a cs.length cap] ∧ cs.length ≤ maxLen ∧ CelRow W a cs ∧ ∀ i, i < cs.length → (cat cs i).name.size ≤ maxLen ∧ (cat cs i).text.size ≤ maxLen := by
  have c2 : Tryz.prog.cellsOf 140 = 2 := by kernel_rfl
  have cs1 : Tryz.prog.cellsOf 9 = 1 := by kernel_rfl
  rcases Go.Deep.open_slice Tryz.underlying48 h with ⟨rfl, _⟩ | ⟨a', len, cap, m, n, D, Pl, rfl, hb, hl, hm, hmm, _, hx⟩
  · exact ⟨none, 0, [], rfl, by decide, fun hp => by simp at hp, fun i hi => by simp at hi⟩
  · simp only [if_true] at hmm
    have each : ∀ i, i < len → ∃ f : Cel, W.cell? ((a'.add (i * 2)).add 0) = some (.string f.name) ∧ W.cell? ((a'.add (i * 2)).add 1) = some (.string f.text) ∧ f.name.size ≤ maxLen ∧ f.text.size ≤ maxLen := by
      intro i hi
      obtain ⟨cs', h1, h2⟩ := hx i (by omega)
      rw [c2] at h1
      obtain ⟨_, hlen, hcell⟩ := World.cells?_some h1
      obtain ⟨y0, y1, n', _, _, t0, t1⟩ := Go.ChangeShapes.trod_struct2 Tryz.underlying140 h2
      obtain ⟨v0, v1, rfl⟩ := list2 hlen
      simp only [cs1, List.drop_zero, List.drop_succ_cons, List.take_succ_cons, List.take_zero] at t0 t1
      obtain ⟨s, e0, _, hs⟩ := DataW.trod_string Tryz.underlying9 t0
      obtain ⟨t, e1, _, ht⟩ := DataW.trod_string Tryz.underlying9 t1
      cases e0
      cases e1
      exact ⟨⟨s, t⟩, hcell 0 (by omega), hcell 1 (by omega), hs, ht⟩
    obtain ⟨f, hf⟩ := Go.Deep.choose_lt each
    have hcat : ∀ i, i < len → cat ((List.range len).map f) i = f i := fun i hi => by rw [cat_get _ _ (by simpa using hi)]; simp
    refine ⟨some a', cap, (List.range len).map f, by simp, by simp; omega, fun hp => ?_, fun i hi => ?_⟩
    · have hp' : 0 < len := by simpa using hp
      obtain ⟨b, off, spot⟩ := a'
      have h0 := (hf 0 hp').1
      have hspot : spot = none := by simpa [Addr.add] using World.cell?_spot h0
      subst hspot
      refine ⟨b, off, rfl, ?_, fun i hi => ?_⟩
      · rw [addr_add, addr_add] at h0
        exact cell_lt h0
      · have hi' : i < len := by simpa using hi
        obtain ⟨q0, q1, _⟩ := hf i hi'
        rw [addr_add, addr_add] at q0 q1
        rw [hcat i hi']
        exact ⟨q0, q1⟩
    · have hi' : i < len := by simpa using hi
      rw [hcat i hi']
      exact (hf i hi').2.2

theorem open_doc {H : Type} {enc : TypeId × Value → H} {W : World} {v : Value} {d : DataW H} {ps : List MemPlace}
    (h : DataW.Trod enc Tryz.prog W 0 (fun _ => true) true 50 v d ps) :
    ∃ (key : ByteArray) (a : Option Addr) (cap : Nat) (cs : List Cel), v.cells.toList = [.string key, .slice a cs.length cap] ∧ key.size ≤ maxLen ∧ cs.length ≤ maxLen ∧ CelRow W a cs ∧ ∀ i, i < cs.length → (cat cs i).name.size ≤ maxLen ∧ (cat cs i).text.size ≤ maxLen := by
  have c2 : Tryz.prog.cellsOf 50 = 2 := by kernel_rfl
  have cs1 : Tryz.prog.cellsOf 9 = 1 := by kernel_rfl
  have cc1 : Tryz.prog.cellsOf 48 = 1 := by kernel_rfl
  obtain ⟨fuel, hf⟩ := h
  obtain ⟨y0, y1, n', _, hlen, t0, t1⟩ := Go.ChangeShapes.trod_struct2 Tryz.underlying50 hf
  rw [c2] at hlen
  obtain ⟨v0, v1, he⟩ := list2 hlen
  rw [he] at t0 t1
  simp only [cs1, cc1, List.drop_zero, List.drop_succ_cons, List.take_succ_cons, List.take_zero] at t0 t1
  obtain ⟨s, e0, _, hs⟩ := DataW.trod_string Tryz.underlying9 t0
  obtain ⟨a, cap, cs, e1, h1, h2, h3⟩ := open_cels t1
  cases e0
  cases e1
  exact ⟨s, a, cap, cs, he, hs, h1, h2, h3⟩
end Go.Proofs.YtbifagdcnpnpjaaGreat
