/- The contracts of l10Fields, l11Name, l11AnyDoc, DrawDocText. -/
import Derived.Test.YtjjfabemhdhppaaDoorDrawDoc2
import Derived.Test.YtjjfabemhdhppaaDoorL10Flds
namespace Go.Proofs.YtjjfabemhdhppaaDoor
open Go.RowKit

theorem l11Name_any (R : Nat) (a : Option Addr) (len cap k : Nat) (w : World) (hR : Rd w R a len cap k) (hC : Code w R a len) (hk : k ≤ 900000) :
    Calls Tryd.prog 19 #[.pointer (some ⟨R, 0, none⟩)] w fun e w' => ∃ t, e = .returned (.string t) ∧ t.size ≤ 18 ∧ w.grownBy w' (some R) := by
  have hlt := hR.lt
  have HR : Hid (Rd w R a len cap k) := hR
  clear hR
  go_enter Tryd.func19, Tryd.ntmps19
  go_wp2_with fail
  refine (of_any R w.heap.size 5 a len cap k _ _ (HR.out.alloc _) (hC.kept (grown_alloc _ _ _) hlt) (by omega) (strs_new w _ _ 18 (by decide +kernel)) (by omega) (by omega) (by omega)).mono ?_
  rintro e w1 ⟨t, rfl, ht, hR1, hg1⟩
  clear hC hR1
  go_wp2
  go_ret
  exact ⟨t, rfl, ht, grown_trans (grown_alloc _ _ _) hg1⟩

/-- The draw's document, with the call's own result Q kept. -/
structure DQ (w wr : World) (R : Nat) (a : Option Addr) (len cap D Q : Nat) (key : ByteArray) (v : Value) (cs : List Cel) (p : Nat) : Prop where
  ds : DS w wr R a len cap D key v cs p
  q : Blk wr Q #[.string ⟨#[]⟩, .slice none 0 0] 26
  qd : Q ≠ D
theorem DQ.read {w wr w2 : World} {R : Nat} {a : Option Addr} {len cap D Q : Nat} {key : ByteArray} {v : Value} {cs : List Cel} {p q : Nat} (h : DQ w wr R a len cap D Q key v cs p) (hg : wr.grownBy w2 (some R)) (hR : Rd w2 R a len cap q) : DQ w w2 R a len cap D Q key v cs q :=
  ⟨h.ds.read hg hR, h.q.grown hg (by simpa using h.q.ne h.ds.rd.blk (by decide)), h.qd⟩
theorem DQ.alloc {w wr : World} {R : Nat} {a : Option Addr} {len cap D Q : Nat} {key : ByteArray} {v : Value} {cs : List Cel} {p : Nat} (h : DQ w wr R a len cap D Q key v cs p) (o : Obj) : DQ w (wr.alloc o) R a len cap D Q key v cs p :=
  h.read (grown_alloc _ _ _) (h.ds.rd.alloc o)
theorem DQ.snoc {w wr w2 : World} {R : Nat} {a : Option Addr} {len cap D Q : Nat} {key nm tx : ByteArray} {v v' : Value} {cs : List Cel} {p : Nat} (h : DQ w wr R a len cap D Q key v cs p)
    (ho : w2.ownsRow w.heap.size 55 2 v' (cs.length + 1) (celCells cs ++ [.string nm, .string tx])) (hg : wr.grownBy w2 v.ownBlock) : DQ w (w2.setCell ⟨D, 1, none⟩ v') R a len cap D Q key v' (cs ++ [⟨nm, tx⟩]) p :=
  ⟨h.ds.snoc ho hg, Blk.other (h.q.grown hg (fun e => own_type h.ds.own h.q (by decide) e.symm)) h.qd _, h.qd⟩
theorem DQ.key {w wr : World} {R : Nat} {a : Option Addr} {len cap D Q : Nat} {key : ByteArray} {v : Value} {cs : List Cel} {p : Nat} (h : DQ w wr R a len cap D Q key v cs p) (key' : ByteArray) : DQ w (wr.setCell ⟨D, 0, none⟩ (.string key')) R a len cap D Q key' v cs p :=
  ⟨h.ds.key key', Blk.other h.q h.qd _, h.qd⟩
theorem DQ.fin {w wr : World} {R : Nat} {a : Option Addr} {len cap D Q : Nat} {key : ByteArray} {v : Value} {cs : List Cel} {p : Nat} (h : DQ w wr R a len cap D Q key v cs p) (hQ : w.heap.size ≤ Q) (x y : Value) :
    ((wr.setCell ⟨Q, 0, none⟩ x).setCell ⟨Q, 1, none⟩ y).ownsRow w.heap.size 55 2 v cs.length (celCells cs) ∧ Rd ((wr.setCell ⟨Q, 0, none⟩ x).setCell ⟨Q, 1, none⟩ y) R a len cap p ∧ w.grownBy ((wr.setCell ⟨Q, 0, none⟩ x).setCell ⟨Q, 1, none⟩ y) (some R) := by
  have hRQ : R ≠ Q := h.ds.rd.blk.ne h.q (by decide)
  have hv := own_type h.ds.own h.q (by decide)
  refine ⟨World.ownsRow.kept (World.ownsRow.kept h.ds.own (grown_set _ Q 0 _) (.inr hv)) (grown_set _ Q 1 _) (.inr hv), Blk.other (Blk.other h.ds.rd hRQ _) hRQ _, ?_⟩
  have g := h.ds.grown
  exact ⟨g.os, g.tape, g.output, by simpa [World.setCell] using g.size, fun i hi hn => ((Below.heap_setCell _ _ _ _ (by show i ≠ Q; omega)).trans (Below.heap_setCell _ _ _ _ (by show i ≠ Q; omega))).trans (g.block i hi hn)⟩
theorem celCells_set : ∀ (cs : List Cel) (j : Nat) (_ : j < cs.length) (t : ByteArray), celCells (cs.set j ⟨(cat cs j).name, t⟩) = (celCells cs).set (j * 2 + 1) (.string t)
  | c :: cs, 0, _, t => by simp [celCells_cons, cat]
  | c :: cs, j + 1, hj, t => by
    have ih := celCells_set cs j (by simpa using hj) t
    have e : (j + 1) * 2 + 1 = j * 2 + 1 + 1 + 1 := by omega
    have ec : cat (c :: cs) (j + 1) = cat cs j := by simp [cat]
    rw [ec, List.set_cons_succ, celCells_cons, celCells_cons, e, List.set_cons_succ, List.set_cons_succ, ih]
  | [], j, hj, t => absurd hj (by simp)
/-- A cell's text is written anew. -/
theorem DQ.text {w wr : World} {R g : Nat} {a : Option Addr} {len cap D Q c : Nat} {key : ByteArray} {cs : List Cel} {p : Nat} (h : DQ w wr R a len cap D Q key (.slice (some ⟨g, 0, none⟩) cs.length c) cs p) (j : Nat) (hj : j < cs.length) (t : ByteArray) :
    DQ w (wr.setCell ⟨g, j * 2 + 1, none⟩ (.string t)) R a len cap D Q key (.slice (some ⟨g, 0, none⟩) (cs.set j ⟨(cat cs j).name, t⟩).length c) (cs.set j ⟨(cat cs j).name, t⟩) p := by
  have hgD : D ≠ g := fun e => own_type h.ds.own h.ds.d (by decide) (by rw [e]; rfl)
  have hgQ : Q ≠ g := fun e => own_type h.ds.own h.q (by decide) (by rw [e]; rfl)
  have hgR : R ≠ g := fun e => own_type h.ds.own h.ds.rd.blk (by decide) (by rw [e]; rfl)
  have hl := (h.ds.own.lt g rfl).1
  obtain ⟨ho, hg⟩ := h.ds.own.stored (j * 2 + 1) (.string t)
  have gr := h.ds.grown
  refine ⟨⟨?_, ?_, Blk.other h.ds.rd hgR _, ⟨gr.os, gr.tape, gr.output, by simpa [World.setCell] using gr.size, fun i hi hn => (Below.heap_setCell _ _ _ _ (by show i ≠ g; omega)).trans (gr.block i hi hn)⟩, h.ds.le⟩, Blk.other h.q hgQ _, h.qd⟩
  · rw [List.length_set]
    exact Blk.other h.ds.d hgD _
  · rw [List.length_set, show celCells (cs.set j ⟨(cat cs j).name, t⟩) = (celCells cs).set (j * 2 + 1) (.string t) from celCells_set cs j hj t]
    exact ho
end Go.Proofs.YtjjfabemhdhppaaDoor
