/- How a slice of fields that came in is read. -/
import Derived.Test.YtbifagdcnpnpjaaGreatMg5FnExactIndexOk
import Derived.Deep.Slices
import Derived.Deep.Strs
namespace Go.Proofs.YtbifagdcnpnpjaaGreat
open Go.RowKit

theorem list3 {α : Type} {l : List α} (h : l.length = 3) : ∃ a b c, l = [a, b, c] := by
  match l, h with
  | [a, b, c], _ => exact ⟨a, b, c, rfl⟩
theorem list2 {α : Type} {l : List α} (h : l.length = 2) : ∃ a b, l = [a, b] := by
  match l, h with
  | [a, b], _ => exact ⟨a, b, rfl⟩

theorem open_flds {H : Type} {enc : TypeId × Value → H} {W : World} {fuel : Nat} {a : Option Addr} {len cap : Nat} {x : DataW H × List MemPlace}
    (h : DataW.trod enc Tryz.prog W 0 (fun _ => true) true fuel 22 [.slice a len cap] = some x) :
    ∃ fs : List Fld, fs.length = len ∧ len ≤ maxLen ∧ FldRow W a fs ∧ ∀ i, i < fs.length → (fat fs i).name.size ≤ maxLen := by
  have c3 : Tryz.prog.cellsOf 111 = 3 := by kernel_rfl
  have cs1 : Tryz.prog.cellsOf 9 = 1 := by kernel_rfl
  have ci1 : Tryz.prog.cellsOf 3 = 1 := by kernel_rfl
  rcases Go.Deep.open_slice Tryz.underlying22 h with ⟨hcs, _⟩ | ⟨a', len', cap', m, n, D, Pl, hcs, hb, hl, hm, hmm, _, hx⟩
  · cases hcs
    exact ⟨[], rfl, by decide, fun hp => by simp at hp, fun i hi => by simp at hi⟩
  · cases hcs
    simp only [if_true] at hmm
    have each : ∀ i, i < len → ∃ f : Fld, W.cell? ((a'.add (i * 3)).add 0) = some (.string f.name) ∧ W.cell? ((a'.add (i * 3)).add 1) = some (.int .i64 f.kind) ∧ W.cell? ((a'.add (i * 3)).add 2) = some (.int .i64 f.weight) ∧ f.name.size ≤ maxLen := by
      intro i hi
      obtain ⟨cs', h1, h2⟩ := hx i (by omega)
      rw [c3] at h1
      obtain ⟨_, hlen, hcell⟩ := World.cells?_some h1
      obtain ⟨y0, y1, y2, n', _, _, t0, t1, t2⟩ := Go.Deep.trod_struct3 Tryz.underlying111 h2
      obtain ⟨v0, v1, v2, rfl⟩ := list3 hlen
      simp only [cs1, ci1, List.drop_zero, List.drop_succ_cons, List.take_succ_cons, List.take_zero] at t0 t1 t2
      obtain ⟨s, e0, _, hs⟩ := DataW.trod_string Tryz.underlying9 t0
      obtain ⟨k, e1, _, _⟩ := DataW.trod_int Tryz.underlying3 t1
      obtain ⟨z, e2, _, _⟩ := DataW.trod_int Tryz.underlying3 t2
      cases e0
      cases e1
      cases e2
      exact ⟨⟨s, k, z⟩, hcell 0 (by omega), hcell 1 (by omega), hcell 2 (by omega), hs⟩
    obtain ⟨f, hf⟩ := Go.Deep.choose_lt each
    have hfat : ∀ i, i < len → fat ((List.range len).map f) i = f i := fun i hi => by rw [fat_get _ _ (by simpa using hi)]; simp
    refine ⟨(List.range len).map f, by simp, by omega, fun hp => ?_, fun i hi => ?_⟩
    · have hp' : 0 < len := by simpa using hp
      obtain ⟨b, off, spot⟩ := a'
      have h0 := (hf 0 hp').1
      have hspot : spot = none := by simpa [Addr.add] using World.cell?_spot h0
      subst hspot
      refine ⟨b, off, rfl, ?_, fun i hi => ?_⟩
      · rw [addr_add, addr_add] at h0
        exact cell_lt h0
      · have hi' : i < len := by simpa using hi
        obtain ⟨q0, q1, q2, _⟩ := hf i hi'
        rw [addr_add, addr_add] at q0 q1 q2
        rw [hfat i hi']
        exact ⟨q0, q1, q2⟩
    · have hi' : i < len := by simpa using hi
      rw [hfat i hi']
      exact (hf i hi').2.2.2
end Go.Proofs.YtbifagdcnpnpjaaGreat
