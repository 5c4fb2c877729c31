/- How an index that came in is read. -/
import Derived.Test.YtbifagdcnpnpjaaGreatOpenDoc
import Derived.Test.YtbifagdcnpnpjaaGreatIdxSz
import Derived.Test.YtbifagdcnpnpjaaGreatMg5FnExactIndexOk
import Derived.ChangeSlices
namespace Go.Proofs.YtbifagdcnpnpjaaGreat
open Go.RowKit
set_option linter.unusedVariables false

/-- A slice of anything. -/
theorem open_rows {α : Type} (dflt : α) {H : Type} {enc : TypeId × Value → H} {W : World} {fuel : Nat} {cs0 : List Value} {x : DataW H × List MemPlace} {t e : TypeId} (s : Nat) (ht : Tryz.prog.underlying t = some (.slice e)) (ce : Tryz.prog.cellsOf e = s) (Q : Addr → α → Prop)
    (each : ∀ (a : Addr) (n : Nat) (cs' : List Value) (y : DataW H × List MemPlace), W.cells? 0 a s = some cs' → DataW.trod enc Tryz.prog W 0 (fun _ => true) true n e cs' = some y → ∃ z : α, Q a z)
    (h : DataW.trod enc Tryz.prog W 0 (fun _ => true) true fuel t cs0 = some x) :
    ∃ (a : Option Addr) (cap : Nat) (ls : List α), cs0 = [.slice a ls.length cap] ∧ ls.length ≤ cap ∧ cap ≤ maxLen ∧ ∀ i z, ls[i]? = some z → ∃ a', a = some a' ∧ Q (a'.add (i * s)) z := by
  rcases Go.Deep.open_slice ht h with ⟨rfl, _⟩ | ⟨a', len, cap, m, n, D, Pl, rfl, hb, hl, hm, hmm, _, hx⟩
  · exact ⟨none, 0, [], rfl, Nat.le_refl _, by decide, fun i z hi => by simp at hi⟩
  · simp only [if_true] at hmm
    have each' : ∀ i, i < len → ∃ z : α, Q (a'.add (i * s)) z := fun i hi => by
      obtain ⟨cs', h1, h2⟩ := hx i (by omega)
      rw [ce] at h1
      exact each _ _ _ _ h1 h2
    haveI : Inhabited α := ⟨dflt⟩
    obtain ⟨f, hf⟩ := Go.Deep.choose_lt each'
    refine ⟨some a', cap, (List.range len).map f, by simp, by simp; omega, hm, fun i z hi => ⟨a', rfl, ?_⟩⟩
    rw [List.getElem?_map] at hi
    have hil : i < len := by
      by_cases h0 : i < len
      · exact h0
      · rw [List.getElem?_eq_none (by simp; omega)] at hi; cases hi
    rw [List.getElem?_range hil] at hi
    cases hi
    exact hf i hil
theorem addr_norm {W : World} {a : Addr} {v : Value} (h : W.cell? (a.add 0) = some v) : ∃ b off, a = ⟨b, off, none⟩ ∧ b < W.heap.size := by
  obtain ⟨b, off, spot⟩ := a
  have hspot : spot = none := by simpa [Addr.add] using World.cell?_spot h
  subst hspot
  rw [addr_add] at h
  exact ⟨b, off, rfl, cell_lt h⟩
theorem open_intsI {H : Type} {enc : TypeId × Value → H} {W : World} {fuel : Nat} {cs0 : List Value} {x : DataW H × List MemPlace}
    (h : DataW.trod enc Tryz.prog W 0 (fun _ => true) true fuel 105 cs0 = some x) : ∃ (a : Option Addr) (cap : Nat) (zs : List Int), cs0 = [.slice a zs.length cap] ∧ zs.length ≤ cap ∧ zs.length ≤ maxLen ∧ IntRow W a zs := by
  rcases Go.ChangeShapes.open_ints Tryz.underlying105 Tryz.underlying3 (by kernel_rfl) h with ⟨rfl, _⟩ | ⟨a, len, cap, zs, rfl, _, h1, h2, h3, _, h4, h5⟩
  · exact ⟨none, 0, [], rfl, Nat.le_refl _, by decide, fun hp => by simp at hp⟩
  · obtain ⟨ys, rfl, h6, h7⟩ := ints_in (w := W) (a := some a) (len := len) (cap := cap) (zs := zs) (.inr ⟨a, rfl, h1, h2, by simpa using h3, h4, h5⟩)
    exact ⟨some a, cap, ys, rfl, h1, h6, h7⟩
theorem open_psts {H : Type} {enc : TypeId × Value → H} {W : World} {fuel : Nat} {cs0 : List Value} {x : DataW H × List MemPlace}
    (h : DataW.trod enc Tryz.prog W 0 (fun _ => true) true fuel 116 cs0 = some x) : ∃ (a : Option Addr) (cap : Nat) (ps : List Pst), cs0 = [.slice a ps.length cap] ∧ ps.length ≤ cap ∧ ps.length ≤ maxLen ∧ PstRow W a ps ∧ ∀ p ∈ ps, PstBig p := by
  have c2 : Tryz.prog.cellsOf 169 = 2 := by kernel_rfl
  have ci1 : Tryz.prog.cellsOf 3 = 1 := by kernel_rfl
  have cs1 : Tryz.prog.cellsOf 105 = 1 := by kernel_rfl
  obtain ⟨a, cap, ps, e, h1, h2, h3⟩ := open_rows (α := Pst) ⟨0, []⟩ 2 Tryz.underlying116 c2 (fun a p => ∃ q c, W.cell? (a.add 0) = some (.int .i64 p.doc) ∧ W.cell? (a.add 1) = some (.slice q p.ats.length c) ∧ p.ats.length ≤ c ∧ IntRow W q p.ats ∧ p.ats.length ≤ maxLen) (fun a n cs' y hc ht => by
    obtain ⟨_, hlen, hcell⟩ := World.cells?_some hc
    obtain ⟨y0, y1, n', _, _, t0, t1⟩ := Go.ChangeShapes.trod_struct2 Tryz.underlying169 ht
    obtain ⟨v0, v1, rfl⟩ := list2 hlen
    simp only [ci1, cs1, List.drop_zero, List.drop_succ_cons, List.take_succ_cons, List.take_zero] at t0 t1
    obtain ⟨d, e0, _, _⟩ := DataW.trod_int Tryz.underlying3 t0
    obtain ⟨q, c, zs, e1, k1, k2, k3⟩ := open_intsI t1
    cases e0
    cases e1
    exact ⟨⟨d, zs⟩, q, c, hcell 0 (by omega), hcell 1 (by omega), k1, k3, k2⟩) h
  refine ⟨a, cap, ps, e, h1, by omega, fun hp => ?_, fun p hp => ?_⟩
  · obtain ⟨a', rfl, _, _, h0, _⟩ := h3 0 ps[0] (List.getElem?_eq_getElem hp)
    rw [Nat.zero_mul] at h0
    obtain ⟨b, off, rfl, hb⟩ : ∃ b off, a' = ⟨b, off, none⟩ ∧ b < W.heap.size := by
      obtain ⟨b, off, spot⟩ := a'
      obtain ⟨b', off', e, hb⟩ := addr_norm h0
      cases e
      exact ⟨_, _, rfl, hb⟩
    refine ⟨b, off, rfl, hb, fun i p hi => ?_⟩
    obtain ⟨_, e, q, c, k0, k1, k2, k3, _⟩ := h3 i p hi
    cases e
    rw [addr_add, addr_add] at k0 k1
    exact ⟨q, c, k0, k1, k2, k3⟩
  · obtain ⟨i, hi, rfl⟩ := List.getElem_of_mem hp
    obtain ⟨_, _, _, _, _, _, _, _, h5⟩ := h3 i ps[i] (List.getElem?_eq_getElem hi)
    exact h5
theorem open_ents {H : Type} {enc : TypeId × Value → H} {W : World} {fuel : Nat} {cs0 : List Value} {x : DataW H × List MemPlace}
    (h : DataW.trod enc Tryz.prog W 0 (fun _ => true) true fuel 24 cs0 = some x) : ∃ (a : Option Addr) (cap : Nat) (es : List Ent), cs0 = [.slice a es.length cap] ∧ es.length ≤ cap ∧ es.length ≤ maxLen ∧ EntRow W a es ∧ ∀ e ∈ es, EntBig e := by
  have c3 : Tryz.prog.cellsOf 118 = 3 := by kernel_rfl
  have ci1 : Tryz.prog.cellsOf 9 = 1 := by kernel_rfl
  have cs1 : Tryz.prog.cellsOf 116 = 1 := by kernel_rfl
  obtain ⟨a, cap, es, e, h1, h2, h3⟩ := open_rows (α := Ent) ⟨⟨#[]⟩, ⟨#[]⟩, []⟩ 3 Tryz.underlying24 c3 (fun a p => ∃ q c, W.cell? (a.add 0) = some (.string p.field) ∧ W.cell? (a.add 1) = some (.string p.term) ∧ W.cell? (a.add 2) = some (.slice q p.posts.length c) ∧ p.posts.length ≤ c ∧ PstRow W q p.posts ∧ EntBig p) (fun a n cs' y hc ht => by
    obtain ⟨_, hlen, hcell⟩ := World.cells?_some hc
    obtain ⟨y0, y1, y2, n', _, _, t0, t1, t2⟩ := Go.Deep.trod_struct3 Tryz.underlying118 ht
    obtain ⟨v0, v1, v2, rfl⟩ := list3 hlen
    simp only [ci1, cs1, List.drop_zero, List.drop_succ_cons, List.take_succ_cons, List.take_zero] at t0 t1 t2
    obtain ⟨f, e0, _, hf⟩ := DataW.trod_string Tryz.underlying9 t0
    obtain ⟨g, e1, _, hg⟩ := DataW.trod_string Tryz.underlying9 t1
    obtain ⟨q, c, ps, e2, k1, k2, k3, k4⟩ := open_psts t2
    cases e0
    cases e1
    cases e2
    exact ⟨⟨f, g, ps⟩, q, c, hcell 0 (by omega), hcell 1 (by omega), hcell 2 (by omega), k1, k3, hf, hg, k2, k4⟩) h
  refine ⟨a, cap, es, e, h1, by omega, fun hp => ?_, fun p hp => ?_⟩
  · obtain ⟨a', rfl, _, _, h0, _⟩ := h3 0 es[0] (List.getElem?_eq_getElem hp)
    rw [Nat.zero_mul] at h0
    obtain ⟨b, off, rfl, hb⟩ : ∃ b off, a' = ⟨b, off, none⟩ ∧ b < W.heap.size := by
      obtain ⟨b, off, spot⟩ := a'
      obtain ⟨b', off', e, hb⟩ := addr_norm h0
      cases e
      exact ⟨_, _, rfl, hb⟩
    refine ⟨b, off, rfl, hb, fun i p hi => ?_⟩
    obtain ⟨_, e, q, c, k0, k1, k2, k3, k4, _⟩ := h3 i p hi
    cases e
    rw [addr_add, addr_add] at k0 k1 k2
    exact ⟨q, c, k0, k1, k2, k3, k4⟩
  · obtain ⟨i, hi, rfl⟩ := List.getElem_of_mem hp
    obtain ⟨_, _, _, _, _, _, _, _, _, h5⟩ := h3 i es[i] (List.getElem?_eq_getElem hi)
    exact h5
/-- The capacity of a slice that came in. -/
theorem open_cap {H : Type} {enc : TypeId × Value → H} {W : World} {fuel : Nat} {x : DataW H × List MemPlace} {t e : TypeId} {a : Option Addr} {n c : Nat} (ht : Tryz.prog.underlying t = some (.slice e)) (h : DataW.trod enc Tryz.prog W 0 (fun _ => true) true fuel t [.slice a n c] = some x) : n ≤ c := by
  rcases Go.Deep.open_slice ht h with ⟨e, _⟩ | ⟨a', len, cap, m, n, D, Pl, e, hb, hl, _⟩
  · cases e; exact Nat.le_refl _
  · cases e; exact hl
theorem open_celsC {H : Type} {enc : TypeId × Value → H} {W : World} {fuel : Nat} {cs0 : List Value} {x : DataW H × List MemPlace}
    (h : DataW.trod enc Tryz.prog W 0 (fun _ => true) true fuel 48 cs0 = some x) :
    ∃ (a : Option Addr) (cap : Nat) (cs : List Cel), cs0 = [.slice a cs.length cap] ∧ cs.length ≤ cap ∧ cs.length ≤ maxLen ∧ CelRow W a cs ∧ ∀ i, i < cs.length → (cat cs i).name.size ≤ maxLen ∧ (cat cs i).text.size ≤ maxLen := by
  obtain ⟨a, cap, cs, rfl, h1, h2, h3⟩ := open_cels h
  exact ⟨a, cap, cs, rfl, open_cap Tryz.underlying48 h, h1, h2, h3⟩
theorem open_rws {H : Type} {enc : TypeId × Value → H} {W : World} {fuel : Nat} {cs0 : List Value} {x : DataW H × List MemPlace}
    (h : DataW.trod enc Tryz.prog W 0 (fun _ => true) true fuel 23 cs0 = some x) : ∃ (a : Option Addr) (cap : Nat) (rs : List Rw), cs0 = [.slice a rs.length cap] ∧ rs.length ≤ cap ∧ rs.length ≤ maxLen ∧ RwRow W a rs ∧ ∀ r ∈ rs, RwBig r := by
  have c3 : Tryz.prog.cellsOf 114 = 3 := by kernel_rfl
  have ci1 : Tryz.prog.cellsOf 3 = 1 := by kernel_rfl
  have cd2 : Tryz.prog.cellsOf 50 = 2 := by kernel_rfl
  have cs1 : Tryz.prog.cellsOf 9 = 1 := by kernel_rfl
  have cc1 : Tryz.prog.cellsOf 48 = 1 := by kernel_rfl
  obtain ⟨a, cap, rs, e, h1, h2, h3⟩ := open_rows (α := Rw) ⟨0, ⟨#[]⟩, []⟩ 3 Tryz.underlying23 c3 (fun a p => ∃ q c, W.cell? (a.add 0) = some (.int .i64 p.id) ∧ W.cell? (a.add 1) = some (.string p.key) ∧ W.cell? (a.add 2) = some (.slice q p.cells.length c) ∧ p.cells.length ≤ c ∧ CelRow W q p.cells ∧ RwBig p) (fun a n cs' y hc ht => by
    obtain ⟨_, hlen, hcell⟩ := World.cells?_some hc
    obtain ⟨y0, y1, n', _, _, t0, t1⟩ := Go.ChangeShapes.trod_struct2 Tryz.underlying114 ht
    obtain ⟨v0, v1, v2, rfl⟩ := list3 hlen
    simp only [ci1, cd2, List.drop_zero, List.drop_succ_cons, List.take_succ_cons, List.take_zero] at t0 t1
    obtain ⟨d, e0, _, _⟩ := DataW.trod_int Tryz.underlying3 t0
    obtain ⟨z0, z1, n'', _, _, s0, s1⟩ := Go.ChangeShapes.trod_struct2 Tryz.underlying50 t1
    simp only [cs1, cc1, List.drop_zero, List.drop_succ_cons, List.take_succ_cons, List.take_zero] at s0 s1
    obtain ⟨k, e1, _, hk⟩ := DataW.trod_string Tryz.underlying9 s0
    obtain ⟨q, c, cs, e2, m0, m1, m2, m3⟩ := open_celsC s1
    cases e0
    cases e1
    cases e2
    exact ⟨⟨d, k, cs⟩, q, c, hcell 0 (by omega), hcell 1 (by omega), hcell 2 (by omega), m0, m2, hk, m1, m3⟩) h
  refine ⟨a, cap, rs, e, h1, by omega, fun hp => ?_, fun p hp => ?_⟩
  · obtain ⟨a', rfl, _, _, h0, _⟩ := h3 0 rs[0] (List.getElem?_eq_getElem hp)
    rw [Nat.zero_mul] at h0
    obtain ⟨b, off, rfl, hb⟩ : ∃ b off, a' = ⟨b, off, none⟩ ∧ b < W.heap.size := by
      obtain ⟨b, off, spot⟩ := a'
      obtain ⟨b', off', e, hb⟩ := addr_norm h0
      cases e
      exact ⟨_, _, rfl, hb⟩
    refine ⟨b, off, rfl, hb, fun i p hi => ?_⟩
    obtain ⟨_, e, q, c, k0, k1, k2, k3, k4, _⟩ := h3 i p hi
    cases e
    rw [addr_add, addr_add] at k0 k1 k2
    exact ⟨q, c, k0, k1, k2, k3, k4⟩
  · obtain ⟨i, hi, rfl⟩ := List.getElem_of_mem hp
    obtain ⟨_, _, _, _, _, _, _, _, _, h5⟩ := h3 i rs[i] (List.getElem?_eq_getElem hi)
    exact h5
theorem list4 {l : List Value} (h : l.length = 4) : ∃ a b c d, l = [a, b, c, d] := by
  match l, h with
  | [a, b, c, d], _ => exact ⟨a, b, c, d, rfl⟩
theorem trod_struct4 {P : Program} {H : Type} {enc : TypeId × Value → H} {w : World} {base : Nat} {spare : Nat → Bool} {held : Bool} {t : TypeId} {f0 f1 f2 f3 : Field} {fuel : Nat} {cs : List Value} {x : DataW H × List MemPlace} (ht : P.underlying t = some (.struct #[f0, f1, f2, f3])) (h : DataW.trod enc P w base spare held fuel t cs = some x) :
    ∃ y0 y1 y2 y3 n, cs.length = P.cellsOf t ∧ DataW.trod enc P w base spare held n f0.type ((cs.drop f0.offset).take (P.cellsOf f0.type)) = some y0 ∧ DataW.trod enc P w base spare held n f1.type ((cs.drop f1.offset).take (P.cellsOf f1.type)) = some y1 ∧
      DataW.trod enc P w base spare held n f2.type ((cs.drop f2.offset).take (P.cellsOf f2.type)) = some y2 ∧ DataW.trod enc P w base spare held n f3.type ((cs.drop f3.offset).take (P.cellsOf f3.type)) = some y3 := by
  obtain ⟨xs, n, _, _, hl, hlen, hf⟩ := DataW.trod_struct ht h
  match xs, hlen with
  | [y0, y1, y2, y3], _ => exact ⟨y0, y1, y2, y3, n, hl, by simpa using hf 0 f0 rfl, by simpa using hf 1 f1 rfl, by simpa using hf 2 f2 rfl, by simpa using hf 3 f3 rfl⟩
theorem open_fldsC {H : Type} {enc : TypeId × Value → H} {W : World} {fuel : Nat} {cs0 : List Value} {x : DataW H × List MemPlace}
    (h : DataW.trod enc Tryz.prog W 0 (fun _ => true) true fuel 22 cs0 = some x) : ∃ (a : Option Addr) (cap : Nat) (fs : List Fld), cs0 = [.slice a fs.length cap] ∧ fs.length ≤ cap ∧ fs.length ≤ maxLen ∧ FldRow W a fs ∧ ∀ i, i < fs.length → (fat fs i).name.size ≤ maxLen := by
  have hs : ∃ a n c, cs0 = [.slice a n c] := by
    rcases Go.Deep.open_slice Tryz.underlying22 h with ⟨e, _⟩ | ⟨a', len, cap, m, n, D, Pl, e, _⟩
    · exact ⟨none, 0, 0, e⟩
    · exact ⟨_, _, _, e⟩
  obtain ⟨a, n, c, rfl⟩ := hs
  obtain ⟨fs, rfl, h1, h2, h3⟩ := open_flds h
  exact ⟨a, c, fs, rfl, open_cap Tryz.underlying22 h, h1, h2, h3⟩
theorem open_index {H : Type} {enc : TypeId × Value → H} {W : World} {v : Value} {d : DataW H} {ps : List MemPlace}
    (h : DataW.Trod enc Tryz.prog W 0 (fun _ => true) true 26 v d ps) :
    ∃ (pf : Option Addr) (cf : Nat) (pr : Option Addr) (cr : Nat) (pe : Option Addr) (ce : Nat) (x : Idx), v.cells.toList = [.slice pf x.fields.length cf, .slice pr x.rows.length cr, .slice pe x.ents.length ce, .int .i64 x.next] ∧ IdxBig x ∧ IdxAt W pf cf pr cr pe ce x := by
  have c4 : Tryz.prog.cellsOf 26 = 4 := by kernel_rfl
  have s0 : Tryz.prog.cellsOf 22 = 1 := by kernel_rfl
  have s1 : Tryz.prog.cellsOf 23 = 1 := by kernel_rfl
  have s2 : Tryz.prog.cellsOf 24 = 1 := by kernel_rfl
  have s3 : Tryz.prog.cellsOf 3 = 1 := by kernel_rfl
  obtain ⟨fuel, hf⟩ := h
  obtain ⟨y0, y1, y2, y3, n', hlen, t0, t1, t2, t3⟩ := trod_struct4 Tryz.underlying26 hf
  rw [c4] at hlen
  obtain ⟨v0, v1, v2, v3, he⟩ := list4 hlen
  rw [he] at t0 t1 t2 t3
  simp only [s0, s1, s2, s3, List.drop_zero, List.drop_succ_cons, List.take_succ_cons, List.take_zero] at t0 t1 t2 t3
  obtain ⟨pf, cf, fs, e0, a1, a2, a3, a4⟩ := open_fldsC t0
  obtain ⟨pr, cr, rs, e1, b1, b2, b3, b4⟩ := open_rws t1
  obtain ⟨pe, ce, es, e2, d1, d2, d3, d4⟩ := open_ents t2
  obtain ⟨nx, e3, _, _⟩ := DataW.trod_int Tryz.underlying3 t3
  cases e0
  cases e1
  cases e2
  cases e3
  exact ⟨pf, cf, pr, cr, pe, ce, ⟨fs, rs, es, nx⟩, he, ⟨a2, a4, b2, b4, d2, d4⟩, ⟨a1, b1, d1, a3, b3, d3⟩⟩
end Go.Proofs.YtbifagdcnpnpjaaGreat
