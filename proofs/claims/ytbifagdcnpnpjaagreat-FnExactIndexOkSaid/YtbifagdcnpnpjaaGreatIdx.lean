/- An index as it lies in memory: its documents, its words. -/
import Derived.Test.YtbifagdcnpnpjaaGreatFoot
import Derived.Test.YtbifagdcnpnpjaaGreatMg5FnExactIndexOk
namespace Go.Proofs.YtbifagdcnpnpjaaGreat
open Go.RowKit
set_option linter.unusedVariables false

structure Pst where
  doc : Int
  ats : List Int
structure Ent where
  field : ByteArray
  term : ByteArray
  posts : List Pst
structure Rw where
  id : Int
  key : ByteArray
  cells : List Cel
structure Idx where
  fields : List Fld
  rows : List Rw
  ents : List Ent
  next : Int
/-- Posts, as they are read. -/
def PstRow (w : World) (a : Option Addr) (ps : List Pst) : Prop := 0 < ps.length → ∃ g off, a = some ⟨g, off, none⟩ ∧ g < w.heap.size ∧ ∀ i p, ps[i]? = some p → ∃ q c,
  w.cell? ⟨g, off + i * 2, none⟩ = some (.int .i64 p.doc) ∧ w.cell? ⟨g, off + i * 2 + 1, none⟩ = some (.slice q p.ats.length c) ∧ p.ats.length ≤ c ∧ IntRow w q p.ats
theorem PstRow.below {w w' : World} {a : Option Addr} {ps : List Pst} (h : PstRow w a ps) (hb : Below w.heap.size w w') : PstRow w' a ps := fun hp => by
  obtain ⟨g, off, e, hg, hc⟩ := h hp
  refine ⟨g, off, e, by have := hb.size; omega, fun i p hi => ?_⟩
  obtain ⟨q, c, c0, c1, hl, hr⟩ := hc i p hi
  exact ⟨q, c, (hb.cell (p := ⟨g, off + i * 2, none⟩) hg).trans c0, (hb.cell (p := ⟨g, off + i * 2 + 1, none⟩) hg).trans c1, hl, hr.below hb⟩
/-- Entries, as they are read. -/
def EntRow (w : World) (a : Option Addr) (es : List Ent) : Prop := 0 < es.length → ∃ g off, a = some ⟨g, off, none⟩ ∧ g < w.heap.size ∧ ∀ i e, es[i]? = some e → ∃ q c,
  w.cell? ⟨g, off + i * 3, none⟩ = some (.string e.field) ∧ w.cell? ⟨g, off + i * 3 + 1, none⟩ = some (.string e.term) ∧ w.cell? ⟨g, off + i * 3 + 2, none⟩ = some (.slice q e.posts.length c) ∧ e.posts.length ≤ c ∧ PstRow w q e.posts
theorem EntRow.below {w w' : World} {a : Option Addr} {es : List Ent} (h : EntRow w a es) (hb : Below w.heap.size w w') : EntRow w' a es := fun hp => by
  obtain ⟨g, off, e, hg, hc⟩ := h hp
  refine ⟨g, off, e, by have := hb.size; omega, fun i p hi => ?_⟩
  obtain ⟨q, c, c0, c1, c2, hl, hr⟩ := hc i p hi
  exact ⟨q, c, (hb.cell (p := ⟨g, off + i * 3, none⟩) hg).trans c0, (hb.cell (p := ⟨g, off + i * 3 + 1, none⟩) hg).trans c1, (hb.cell (p := ⟨g, off + i * 3 + 2, none⟩) hg).trans c2, hl, hr.below hb⟩
/-- Documents by number, as they are read. -/
def RwRow (w : World) (a : Option Addr) (rs : List Rw) : Prop := 0 < rs.length → ∃ g off, a = some ⟨g, off, none⟩ ∧ g < w.heap.size ∧ ∀ i r, rs[i]? = some r → ∃ q c,
  w.cell? ⟨g, off + i * 3, none⟩ = some (.int .i64 r.id) ∧ w.cell? ⟨g, off + i * 3 + 1, none⟩ = some (.string r.key) ∧ w.cell? ⟨g, off + i * 3 + 2, none⟩ = some (.slice q r.cells.length c) ∧ r.cells.length ≤ c ∧ CelRow w q r.cells
theorem RwRow.below {w w' : World} {a : Option Addr} {rs : List Rw} (h : RwRow w a rs) (hb : Below w.heap.size w w') : RwRow w' a rs := fun hp => by
  obtain ⟨g, off, e, hg, hc⟩ := h hp
  refine ⟨g, off, e, by have := hb.size; omega, fun i p hi => ?_⟩
  obtain ⟨q, c, c0, c1, c2, hl, hr⟩ := hc i p hi
  exact ⟨q, c, (hb.cell (p := ⟨g, off + i * 3, none⟩) hg).trans c0, (hb.cell (p := ⟨g, off + i * 3 + 1, none⟩) hg).trans c1, (hb.cell (p := ⟨g, off + i * 3 + 2, none⟩) hg).trans c2, hl, hr.below hb⟩
/-- Small enough. -/
def PstsSm (ps : List Pst) : Prop := ps.length ≤ 1048576 ∧ ∀ p ∈ ps, p.ats.length ≤ 1048576
def EntsSm (es : List Ent) : Prop := es.length ≤ 1048576 ∧ ∀ e ∈ es, e.field.size ≤ 1048576 ∧ e.term.size ≤ 1048576 ∧ PstsSm e.posts
def RwsSm (rs : List Rw) : Prop := rs.length ≤ 1048576 ∧ ∀ r ∈ rs, r.key.size ≤ 1048576 ∧ r.cells.length ≤ 1048576 ∧ CelsSmall r.cells
structure IdxSm (x : Idx) : Prop where
  fl : x.fields.length ≤ 1048576
  fs : FldsSmall x.fields
  rs : RwsSm x.rows
  es : EntsSm x.ents
/-- The four parts of an index. -/
def idxC (pf : Option Addr) (cf : Nat) (pr : Option Addr) (cr : Nat) (pe : Option Addr) (ce : Nat) (x : Idx) : Array Value :=
  #[.slice pf x.fields.length cf, .slice pr x.rows.length cr, .slice pe x.ents.length ce, .int .i64 x.next]
structure IdxAt (w : World) (pf : Option Addr) (cf : Nat) (pr : Option Addr) (cr : Nat) (pe : Option Addr) (ce : Nat) (x : Idx) : Prop where
  hf : x.fields.length ≤ cf
  hr : x.rows.length ≤ cr
  he : x.ents.length ≤ ce
  f : FldRow w pf x.fields
  r : RwRow w pr x.rows
  e : EntRow w pe x.ents
theorem IdxAt.below {w w' : World} {pf : Option Addr} {cf : Nat} {pr : Option Addr} {cr : Nat} {pe : Option Addr} {ce : Nat} {x : Idx} (h : IdxAt w pf cf pr cr pe ce x) (hb : Below w.heap.size w w') : IdxAt w' pf cf pr cr pe ce x :=
  ⟨h.hf, h.hr, h.he, h.f.below hb, h.r.below hb, h.e.below hb⟩

/-- Elements with blocks of their own. -/
def pstEl : El Pst where
  size := 2
  ty := 107
  own w c p fp := ∃ v, c = [.int .i64 p.doc, v] ∧ RowOwn 3 1 w v p.ats.length (p.ats.map (Value.int .i64)) fp
  kept := fun ⟨v, e, h⟩ hb => ⟨v, e, h.kept hb⟩
  lt := fun ⟨v, e, h⟩ => h.lt
  nodup := fun ⟨v, e, h⟩ => h.nodup
  len := fun ⟨v, e, h⟩ => by rw [e]; rfl
def entEl : El Ent where
  size := 3
  ty := 99
  own w c e fp := ∃ v, c = [.string e.field, .string e.term, v] ∧ SlOwn pstEl w v e.posts fp
  kept := fun ⟨v, e, h⟩ hb => ⟨v, e, h.kept hb⟩
  lt := fun ⟨v, e, h⟩ => h.lt
  nodup := fun ⟨v, e, h⟩ => h.nodup
  len := fun ⟨v, e, h⟩ => by rw [e]; rfl
def rwEl : El Rw where
  size := 3
  ty := 69
  own w c r fp := ∃ v, c = [.int .i64 r.id, .string r.key, v] ∧ RowOwn 121 2 w v r.cells.length (celCells r.cells) fp
  kept := fun ⟨v, e, h⟩ hb => ⟨v, e, h.kept hb⟩
  lt := fun ⟨v, e, h⟩ => h.lt
  nodup := fun ⟨v, e, h⟩ => h.nodup
  len := fun ⟨v, e, h⟩ => by rw [e]; rfl
theorem grp_cell {w : World} {B g cap n s i j : Nat} {e : TypeId} {xs : List Value} {u : Value} (h : w.ownsRow B e s (.slice (some ⟨g, 0, none⟩) n cap) n xs) (hi : i < n) (hj : j < s) (hx : (grp xs s i)[j]? = some u) : w.cell? ⟨g, 0 + i * s + j, none⟩ = some u := by
  have h1 : (i + 1) * s ≤ n * s := Nat.mul_le_mul_right _ hi
  rw [Nat.add_mul, Nat.one_mul] at h1
  rw [Nat.zero_add, h.cellAt _ (by have := h.1; omega), ← grp_get hj]
  exact hx
theorem owns_ints {w : World} {B : Nat} {v : Value} {zs : List Int} (h : w.ownsRow B 3 1 v zs.length (zs.map (Value.int .i64))) : ∃ q c, v = .slice q zs.length c ∧ zs.length ≤ c ∧ (q = none → c = 0) ∧ IntRow w q zs := by
  obtain ⟨p, c, rfl, hc, _, hn, _⟩ := row_val h
  obtain ⟨a, cap, e, hr⟩ := owns_intRow h
  cases e
  exact ⟨p, c, rfl, hc, hn, hr⟩
theorem GRow.psts {w : World} {B : Nat} {v : Value} {xs : List Value} {ps : List Pst} {fps : Nat → List Nat} (h : GRow pstEl w B v xs ps fps) : ∃ p c, v = .slice p ps.length c ∧ ps.length ≤ c ∧ (p = none → c = 0) ∧ PstRow w p ps := by
  obtain ⟨p, c, rfl, hc, _, hn, hp⟩ := row_val h.row
  refine ⟨p, c, rfl, hc, hn, fun h0 => ?_⟩
  cases p with
  | none => have := hn rfl; omega
  | some x =>
    obtain ⟨g, rfl, hB, hg, _⟩ := hp x rfl
    refine ⟨g, 0, rfl, hg, fun i p hi => ?_⟩
    have hil : i < ps.length := (List.getElem?_eq_some_iff.1 hi).1
    obtain ⟨⟨v, ec, hr⟩, _⟩ := h.el i p hi
    obtain ⟨q, cq, rfl, hcq, _, hrq⟩ := owns_ints hr.1
    have ec2 : grp xs 2 i = _ := ec
    exact ⟨q, cq, grp_cell h.row hil (j := 0) (by decide) (by rw [ec2]; rfl), grp_cell h.row hil (j := 1) (by decide) (by rw [ec2]; rfl), hcq, hrq⟩
theorem SlOwn.psts {w : World} {v : Value} {ps : List Pst} {fp : List Nat} (h : SlOwn pstEl w v ps fp) : ∃ p c, v = .slice p ps.length c ∧ ps.length ≤ c ∧ (p = none → c = 0) ∧ PstRow w p ps := by
  obtain ⟨xs, fps, h1, _⟩ := h
  exact h1.psts
theorem GRow.ents {w : World} {B : Nat} {v : Value} {xs : List Value} {es : List Ent} {fps : Nat → List Nat} (h : GRow entEl w B v xs es fps) : ∃ p c, v = .slice p es.length c ∧ es.length ≤ c ∧ (p = none → c = 0) ∧ EntRow w p es := by
  obtain ⟨p, c, rfl, hc, _, hn, hp⟩ := row_val h.row
  refine ⟨p, c, rfl, hc, hn, fun h0 => ?_⟩
  cases p with
  | none => have := hn rfl; omega
  | some x =>
    obtain ⟨g, rfl, hB, hg, _⟩ := hp x rfl
    refine ⟨g, 0, rfl, hg, fun i p hi => ?_⟩
    have hil : i < es.length := (List.getElem?_eq_some_iff.1 hi).1
    obtain ⟨⟨v, ec, hr⟩, _⟩ := h.el i p hi
    obtain ⟨q, cq, rfl, hcq, _, hrq⟩ := hr.psts
    have ec2 : grp xs 3 i = _ := ec
    exact ⟨q, cq, grp_cell h.row hil (j := 0) (by decide) (by rw [ec2]; rfl), grp_cell h.row hil (j := 1) (by decide) (by rw [ec2]; rfl), grp_cell h.row hil (j := 2) (by decide) (by rw [ec2]; rfl), hcq, hrq⟩
theorem GRow.rws {w : World} {B : Nat} {v : Value} {xs : List Value} {rs : List Rw} {fps : Nat → List Nat} (h : GRow rwEl w B v xs rs fps) : ∃ p c, v = .slice p rs.length c ∧ rs.length ≤ c ∧ (p = none → c = 0) ∧ RwRow w p rs := by
  obtain ⟨p, c, rfl, hc, _, hn, hp⟩ := row_val h.row
  refine ⟨p, c, rfl, hc, hn, fun h0 => ?_⟩
  cases p with
  | none => have := hn rfl; omega
  | some x =>
    obtain ⟨g, rfl, hB, hg, _⟩ := hp x rfl
    refine ⟨g, 0, rfl, hg, fun i p hi => ?_⟩
    have hil : i < rs.length := (List.getElem?_eq_some_iff.1 hi).1
    obtain ⟨⟨v, ec, hr⟩, _⟩ := h.el i p hi
    obtain ⟨q, cq, rfl, hcq, _, _, hrq⟩ := owns_celRow hr.1 (celTo_cells p.cells)
    have ec2 : grp xs 3 i = _ := ec
    exact ⟨q, cq, grp_cell h.row hil (j := 0) (by decide) (by rw [ec2]; rfl), grp_cell h.row hil (j := 1) (by decide) (by rw [ec2]; rfl), grp_cell h.row hil (j := 2) (by decide) (by rw [ec2]; rfl), hcq, hrq⟩
/-- An index of one's own. -/
structure IdxOwn (w : World) (B : Nat) (vf vr ve : Value) (x : Idx) (xr xe : List Value) (fr fe : Nat → List Nat) : Prop where
  f : w.ownsRow B 123 3 vf x.fields.length (fldCells x.fields)
  r : GRow rwEl w B vr xr x.rows fr
  e : GRow entEl w B ve xe x.ents fe
  apart : ∀ b ∈ footOf vr fr x.rows.length, b ∉ footOf ve fe x.ents.length
  apartF : ∀ b, vf.ownBlock = some b → b ∉ footOf vr fr x.rows.length ∧ b ∉ footOf ve fe x.ents.length
theorem IdxOwn.below {w w' : World} {B : Nat} {vf vr ve : Value} {x : Idx} {xr xe : List Value} {fr fe : Nat → List Nat} (h : IdxOwn w B vf vr ve x xr xe fr fe) (hb : Below w.heap.size w w') : IdxOwn w' B vf vr ve x xr xe fr fe :=
  ⟨row_same h.f fun g hg => hb.block g (h.f.lt g hg).2, h.r.below hb, h.e.below hb, h.apart, h.apartF⟩
theorem IdxOwn.at {w : World} {B : Nat} {vf vr ve : Value} {x : Idx} {xr xe : List Value} {fr fe : Nat → List Nat} (h : IdxOwn w B vf vr ve x xr xe fr fe) : ∃ pf cf pr cr pe ce, vf = .slice pf x.fields.length cf ∧ vr = .slice pr x.rows.length cr ∧ ve = .slice pe x.ents.length ce ∧ IdxAt w pf cf pr cr pe ce x := by
  obtain ⟨pf, cf, rfl, hcf, _, hf⟩ := owns_fldRow h.f (fldTo_cells x.fields)
  obtain ⟨pr, cr, rfl, hcr, _, hr⟩ := h.r.rws
  obtain ⟨pe, ce, rfl, hce, _, he⟩ := h.e.ents
  exact ⟨pf, cf, pr, cr, pe, ce, rfl, rfl, rfl, hcf, hcr, hce, hf, hr, he⟩
end Go.Proofs.YtbifagdcnpnpjaaGreat
