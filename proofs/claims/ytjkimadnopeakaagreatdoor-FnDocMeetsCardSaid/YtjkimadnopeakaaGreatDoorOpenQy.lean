/- How a question that came in is read. -/
import Derived.Test.YtjkimadnopeakaaGreatDoorQys
import Derived.WalkKit
import Derived.ProofKit
import Derived.OpenShut
import Derived.Deep.Slices
namespace Go.Proofs.YtjkimadnopeakaaGreatDoor
open Go.RowKit
set_option linter.unusedVariables false

theorem QAt.mono {w : World} {B : Nat} : ∀ {d : Nat} {a : Option Addr} {ps : List Qy}, QAt w B d a ps → QAt w B (d + 1) a ps
  | 0, _, ps, h => fun hp => by
    have e : ps = [] := h
    rw [e] at hp
    exact absurd hp (by simp)
  | d + 1, a, ps, h => fun hp => by
    obtain ⟨g, off, e, h1, h2, hc⟩ := h hp
    refine ⟨g, off, e, h1, h2, fun i hi => ?_⟩
    obtain ⟨p, c, hq, hr⟩ := hc i hi
    exact ⟨p, c, hq, QAt.mono hr⟩
theorem QSz.mono {n : Nat} : ∀ {d : Nat} {ps : List Qy}, QSz n d ps → QSz n (d + 1) ps
  | 0, ps, h => by
    have e : ps = [] := h
    subst e
    exact ⟨by simp, fun i hi => absurd hi (by simp)⟩
  | d + 1, ps, h => ⟨h.1, fun i hi => ⟨(h.2 i hi).1, (h.2 i hi).2.1, QSz.mono (h.2 i hi).2.2⟩⟩
theorem list6 {l : List Value} (h : l.length = 6) : ∃ a b c d e f, l = [a, b, c, d, e, f] := by
  match l, h with
  | [a, b, c, d, e, f], _ => exact ⟨a, b, c, d, e, f, rfl⟩
theorem trod_struct6 {P : Program} {H : Type} {enc : TypeId × Value → H} {w : World} {base : Nat} {spare : Nat → Bool} {held : Bool} {t : TypeId} {f0 f1 f2 f3 f4 f5 : Field} {fuel : Nat} {cs : List Value} {x : DataW H × List MemPlace} (ht : P.underlying t = some (.struct #[f0, f1, f2, f3, f4, f5])) (h : DataW.trod enc P w base spare held fuel t cs = some x) :
    ∃ y0 y1 y2 y3 y4 y5 n, fuel = n + 1 ∧ cs.length = P.cellsOf t ∧ DataW.trod enc P w base spare held n f0.type ((cs.drop f0.offset).take (P.cellsOf f0.type)) = some y0 ∧ DataW.trod enc P w base spare held n f1.type ((cs.drop f1.offset).take (P.cellsOf f1.type)) = some y1 ∧
      DataW.trod enc P w base spare held n f2.type ((cs.drop f2.offset).take (P.cellsOf f2.type)) = some y2 ∧ DataW.trod enc P w base spare held n f3.type ((cs.drop f3.offset).take (P.cellsOf f3.type)) = some y3 ∧
      DataW.trod enc P w base spare held n f4.type ((cs.drop f4.offset).take (P.cellsOf f4.type)) = some y4 ∧ DataW.trod enc P w base spare held n f5.type ((cs.drop f5.offset).take (P.cellsOf f5.type)) = some y5 := by
  obtain ⟨xs, n, hn, _, hl, hlen, hf⟩ := DataW.trod_struct ht h
  match xs, hlen with
  | [y0, y1, y2, y3, y4, y5], _ => exact ⟨y0, y1, y2, y3, y4, y5, n, hn, hl, by simpa using hf 0 f0 rfl, by simpa using hf 1 f1 rfl, by simpa using hf 2 f2 rfl, by simpa using hf 3 f3 rfl, by simpa using hf 4 f4 rfl, by simpa using hf 5 f5 rfl⟩
/-- A question's cells, read. -/
theorem open_q1 {H : Type} {enc : TypeId × Value → H} {W : World} {fuel : Nat} {cs0 : List Value} {x : DataW H × List MemPlace}
    (h : DataW.trod enc Tryz.prog W 0 (fun _ => true) true fuel 28 cs0 = some x) :
    ∃ (k lo hi : Int) (f t : ByteArray) (v5 : Value) (n : Nat) (y : DataW H × List MemPlace), fuel = n + 1 ∧ cs0 = [.int .i64 k, .string f, .string t, .int .i64 lo, .int .i64 hi, v5] ∧ f.size ≤ maxLen ∧ t.size ≤ maxLen ∧ DataW.trod enc Tryz.prog W 0 (fun _ => true) true n 26 [v5] = some y := by
  have c6 : Tryz.prog.cellsOf 28 = 6 := by kernel_rfl
  have cs1 : Tryz.prog.cellsOf 9 = 1 := by kernel_rfl
  have ci1 : Tryz.prog.cellsOf 3 = 1 := by kernel_rfl
  have cc1 : Tryz.prog.cellsOf 26 = 1 := by kernel_rfl
  obtain ⟨y0, y1, y2, y3, y4, y5, n, hn, hlen, t0, t1, t2, t3, t4, t5⟩ := trod_struct6 Tryz.underlying28 h
  rw [c6] at hlen
  obtain ⟨v0, v1, v2, v3, v4, v5, rfl⟩ := list6 hlen
  simp only [cs1, ci1, cc1, List.drop_zero, List.drop_succ_cons, List.take_succ_cons, List.take_zero] at t0 t1 t2 t3 t4 t5
  obtain ⟨k, z0, _⟩ := DataW.trod_int Tryz.underlying3 t0
  obtain ⟨f, z1, _, hfs⟩ := DataW.trod_string Tryz.underlying9 t1
  obtain ⟨t, z2, _, hts⟩ := DataW.trod_string Tryz.underlying9 t2
  obtain ⟨lo, z3, _⟩ := DataW.trod_int Tryz.underlying3 t3
  obtain ⟨hi, z4, _⟩ := DataW.trod_int Tryz.underlying3 t4
  cases z0
  cases z1
  cases z2
  cases z3
  cases z4
  exact ⟨k, lo, hi, f, t, v5, n, y5, hn, rfl, hfs, hts, t5⟩
theorem open_qs {H : Type} {enc : TypeId × Value → H} {W : World} : ∀ (fuel : Nat) (cs0 : List Value) (x : DataW H × List MemPlace),
    DataW.trod enc Tryz.prog W 0 (fun _ => true) true fuel 26 cs0 = some x →
    ∃ (a : Option Addr) (cap : Nat) (ps : List Qy), cs0 = [.slice a ps.length cap] ∧ QAt W 0 fuel a ps ∧ QSz maxLen fuel ps := by
  have c6 : Tryz.prog.cellsOf 28 = 6 := by kernel_rfl
  intro fuel
  induction fuel using Nat.strongRecOn with
  | ind fuel ih =>
    intro cs0 x h
    rcases DataW.trod_slice Tryz.underlying26 h with ⟨rfl, _⟩ | ⟨a', len, cap, elems, rest, n, hn, rfl, _, _, hl, hm, hlen, hel, _, _⟩
    · cases fuel with
      | zero => simp [DataW.trod] at h
      | succ n => exact ⟨none, 0, [], rfl, fun hp => absurd hp (by simp), by simp, fun i hi => absurd hi (by simp)⟩
    · subst hn
      have each : ∀ i, i < len → ∃ qp : Qy × (Option Addr × Nat), (∀ j u, (qVal qp.1 qp.2.1 qp.2.2)[j]? = some u → W.cell? ((a'.add (i * 6)).add j) = some u) ∧ QAt W 0 n qp.2.1 qp.1.parts ∧ qp.1.field.size ≤ maxLen ∧ qp.1.text.size ≤ maxLen ∧ QSz maxLen n qp.1.parts := by
        intro i hi
        have h1 := hel i hi
        rw [List.getElem?_eq_getElem (by omega), c6] at h1
        obtain ⟨cs', hcs, h2⟩ := Option.bind_eq_some_iff.1 h1
        obtain ⟨_, hclen, hcell⟩ := World.cells?_some hcs
        obtain ⟨k, lo, hi', f, t, v5, n', y, hn', hcs', hfs, hts, h3⟩ := open_q1 h2
        obtain ⟨p, c, ps, he, hq, hs⟩ := ih n' (by omega) _ _ h3
        injection he with he _
        subst he
        subst hn'
        refine ⟨⟨.mk k f t lo hi' ps, p, c⟩, fun j u hj => ?_, hq.mono, hfs, hts, hs.mono⟩
        have hju : cs'[j]? = some u := by rw [hcs']; exact hj
        have hjl : j < 6 := by
          have := (List.getElem?_eq_some_iff.1 hju).1
          omega
        have := hcell j (by omega)
        rw [this]
        exact hju
      obtain ⟨f, hf⟩ := Go.Deep.choose_lt each
      have hqat : ∀ i, i < len → qat ((List.range len).map fun i => (f i).1) i = (f i).1 := fun i hi => by rw [qat_get _ _ (by simpa using hi)]; simp
      refine ⟨some a', cap, (List.range len).map fun i => (f i).1, by simp, fun hp => ?_, by simp; omega, fun i hi => ?_⟩
      · have hp' : 0 < len := by simpa using hp
        obtain ⟨b, off, spot⟩ := a'
        have h0 := (hf 0 hp').1 0 _ rfl
        have hspot : spot = none := by simpa [Addr.add] using World.cell?_spot h0
        subst hspot
        refine ⟨b, off, rfl, Nat.zero_le _, ?_, fun i hi => ?_⟩
        · rw [addr_add, addr_add] at h0
          exact cell_lt h0
        · have hi' : i < len := by simpa using hi
          obtain ⟨hc, hq, _⟩ := hf i hi'
          rw [hqat i hi']
          refine ⟨(f i).2.1, (f i).2.2, ?_, hq⟩
          have e : ∀ j u, (qVal (f i).1 (f i).2.1 (f i).2.2)[j]? = some u → W.cell? ⟨b, off + i * 6 + j, none⟩ = some u := fun j u hj => by
            have := hc j u hj
            rwa [addr_add, addr_add] at this
          exact ⟨e 0 _ rfl, e 1 _ rfl, e 2 _ rfl, e 3 _ rfl, e 4 _ rfl, e 5 _ rfl⟩
      · have hi' : i < len := by simpa using hi
        rw [hqat i hi']
        exact (hf i hi').2.2
/-- A question that came in. -/
theorem open_query {H : Type} {enc : TypeId × Value → H} {W : World} {v : Value} {d : DataW H} {ps : List MemPlace}
    (h : DataW.Trod enc Tryz.prog W 0 (fun _ => true) true 28 v d ps) :
    ∃ (k lo hi : Int) (f t : ByteArray) (a : Option Addr) (cap : Nat) (qs : List Qy) (n : Nat), v.cells.toList = [.int .i64 k, .string f, .string t, .int .i64 lo, .int .i64 hi, .slice a qs.length cap] ∧ f.size ≤ maxLen ∧ t.size ≤ maxLen ∧ QAt W 0 n a qs ∧ QSz maxLen n qs := by
  obtain ⟨fuel, hf⟩ := h
  obtain ⟨k, lo, hi, f, t, v5, n, y, _, hc, hfs, hts, h3⟩ := open_q1 hf
  obtain ⟨a, cap, qs, he, hq, hs⟩ := open_qs n _ _ h3
  injection he with he _
  subst he
  exact ⟨k, lo, hi, f, t, a, cap, qs, n, hc, hfs, hts, hq, hs⟩
end Go.Proofs.YtjkimadnopeakaaGreatDoor
