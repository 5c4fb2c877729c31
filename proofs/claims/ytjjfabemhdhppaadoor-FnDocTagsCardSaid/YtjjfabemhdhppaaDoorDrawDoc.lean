/- Contracts of the model's draws of documents: the facts. -/
import Derived.Test.YtjjfabemhdhppaaDoorDrawMore
import Derived.Test.YtjjfabemhdhppaaDoorFldsOk
import Derived.Test.YtjjfabemhdhppaaDoorCelRows
namespace Go.Proofs.YtjjfabemhdhppaaDoor
open Go.RowKit

theorem Rd.blk {w : World} {R : Nat} {a : Option Addr} {len cap : Nat} {p : Int} (h : Rd w R a len cap p) : Blk w R #[.slice a len cap, .int .i64 p] 67 := h

/-- A document that a draw builds: its variable D, its cells, the reader. -/
structure DS (w wr : World) (R : Nat) (a : Option Addr) (len cap D : Nat) (key : ByteArray) (v : Value) (cs : List Cel) (p : Nat) : Prop where
  d : Blk wr D #[.string key, v] 26
  own : wr.ownsRow w.heap.size 55 2 v cs.length (celCells cs)
  rd : Rd wr R a len cap p
  grown : w.grownBy wr (some R)
  le : w.heap.size ≤ D
/-- Another block is written, or the reader goes on. -/
theorem DS.step {w wr w2 : World} {R : Nat} {a : Option Addr} {len cap D : Nat} {key : ByteArray} {v : Value} {cs : List Cel} {p q : Nat} {r : Nat} (h : DS w wr R a len cap D key v cs p) (hg : wr.grownBy w2 (some r)) (h1 : r ≠ D) (h2 : v.ownBlock ≠ some r) (h3 : r = R ∨ w.heap.size ≤ r) (hR : Rd w2 R a len cap q) : DS w w2 R a len cap D key v cs q :=
  ⟨h.d.grown hg (by simpa using h1.symm), h.own.kept hg (.inr h2), hR, by
    rcases h3 with rfl | h3
    · exact grown_trans h.grown hg
    · exact ⟨hg.os.trans h.grown.os, hg.tape.trans h.grown.tape, hg.output.trans h.grown.output, Nat.le_trans h.grown.size hg.size, fun i hi hn => (hg.block i (by have := h.grown.size; omega) (by simp; omega)).trans (h.grown.block i hi hn)⟩, h.le⟩
theorem DS.ne {w wr : World} {R : Nat} {a : Option Addr} {len cap D : Nat} {key : ByteArray} {v : Value} {cs : List Cel} {p : Nat} (h : DS w wr R a len cap D key v cs p) : R ≠ D := by
  intro e
  have h1 := h.d
  have h2 := h.rd
  unfold Blk at h1
  unfold Rd at h2
  rw [← e, h2] at h1
  simp at h1
theorem DS.read {w wr w2 : World} {R : Nat} {a : Option Addr} {len cap D : Nat} {key : ByteArray} {v : Value} {cs : List Cel} {p q : Nat} (h : DS w wr R a len cap D key v cs p) (hg : wr.grownBy w2 (some R)) (hR : Rd w2 R a len cap q) : DS w w2 R a len cap D key v cs q :=
  h.step hg h.ne (own_type h.own h.rd.blk (by decide)) (.inl rfl) hR
theorem DS.alloc {w wr : World} {R : Nat} {a : Option Addr} {len cap D : Nat} {key : ByteArray} {v : Value} {cs : List Cel} {p : Nat} (h : DS w wr R a len cap D key v cs p) (o : Obj) : DS w (wr.alloc o) R a len cap D key v cs p :=
  h.read (grown_alloc _ _ _) (h.rd.alloc o)
/-- A cell more, laid into the variable. -/
theorem DS.snoc {w wr w2 : World} {R : Nat} {a : Option Addr} {len cap D : Nat} {key nm tx : ByteArray} {v v' : Value} {cs : List Cel} {p : Nat} (h : DS w wr R a len cap D key v cs p)
    (ho : w2.ownsRow w.heap.size 55 2 v' (cs.length + 1) (celCells cs ++ [.string nm, .string tx])) (hg : wr.grownBy w2 v.ownBlock) : DS w (w2.setCell ⟨D, 1, none⟩ v') R a len cap D key v' (cs ++ [⟨nm, tx⟩]) p := by
  have hd2 : Blk w2 D #[.string key, v] 26 := h.d.grown hg (fun e => own_type h.own h.d (by decide) e.symm)
  have hR2 : Blk w2 R #[.slice a len cap, .int .i64 p] 67 := h.rd.blk.grown hg (fun e => own_type h.own h.rd.blk (by decide) e.symm)
  have hl : ∀ j, v.ownBlock = some j → w.heap.size ≤ j := fun j hj => (h.own.lt j hj).1
  have hg2 : w.grownBy w2 (some R) := ⟨hg.os.trans h.grown.os, hg.tape.trans h.grown.tape, hg.output.trans h.grown.output, Nat.le_trans h.grown.size hg.size, fun i hi hn => (hg.block i (by have := h.grown.size; omega) (fun e => by have := hl i e.symm; omega)).trans (h.grown.block i hi hn)⟩
  have hle := h.le
  refine ⟨hd2.set 1 v', ?_, Blk.other hR2 h.ne v', ?_, h.le⟩
  · rw [celCells_snoc, List.length_append]
    exact World.ownsRow.kept ho (grown_set w2 D 1 v') (.inr (own_type ho hd2 (by decide)))
  · exact ⟨hg2.os, hg2.tape, hg2.output, by simpa [World.setCell] using hg2.size, fun i hi hn => (Below.heap_setCell _ _ _ _ (by show i ≠ D; omega)).trans (hg2.block i hi hn)⟩
/-- Another key. -/
theorem DS.key {w wr : World} {R : Nat} {a : Option Addr} {len cap D : Nat} {key : ByteArray} {v : Value} {cs : List Cel} {p : Nat} (h : DS w wr R a len cap D key v cs p) (key' : ByteArray) : DS w (wr.setCell ⟨D, 0, none⟩ (.string key')) R a len cap D key' v cs p := by
  have hle := h.le
  refine ⟨h.d.set 0 _, World.ownsRow.kept h.own (grown_set wr D 0 _) (.inr (own_type h.own h.d (by decide))), Blk.other h.rd h.ne _, ?_, h.le⟩
  exact ⟨h.grown.os, h.grown.tape, h.grown.output, by simpa [World.setCell] using h.grown.size, fun i hi hn => (Below.heap_setCell _ _ _ _ (by show i ≠ D; omega)).trans (h.grown.block i hi hn)⟩
/-- The cells are laid anew as they were. -/
theorem DS.same {w wr : World} {R : Nat} {a : Option Addr} {len cap D : Nat} {key : ByteArray} {v : Value} {cs : List Cel} {p : Nat} (h : DS w wr R a len cap D key v cs p) : DS w (wr.setCell ⟨D, 1, none⟩ v) R a len cap D key v cs p := by
  have hle := h.le
  refine ⟨h.d.set 1 _, World.ownsRow.kept h.own (grown_set wr D 1 _) (.inr (own_type h.own h.d (by decide))), Blk.other h.rd h.ne _, ?_, h.le⟩
  exact ⟨h.grown.os, h.grown.tape, h.grown.output, by simpa [World.setCell] using h.grown.size, fun i hi hn => (Below.heap_setCell _ _ _ _ (by show i ≠ D; omega)).trans (h.grown.block i hi hn)⟩
theorem FldRow.kept {w w' : World} {R : Nat} {X : Option Addr} {fs : List Fld} (h : FldRow w X fs) (hg : w.grownBy w' (some R)) (hne : ∀ y, X = some y → y.block ≠ R) : FldRow w' X fs := fun hp => by
  obtain ⟨g, off, e, hl, hc⟩ := h hp
  have hb := hg.block g hl (by have := hne _ e; simpa using this)
  refine ⟨g, off, e, by have := hg.size; omega, fun i hi => ?_⟩
  obtain ⟨c0, c1, c2⟩ := hc i hi
  exact ⟨(World.cell?_of_block hb).trans c0, (World.cell?_of_block hb).trans c1, (World.cell?_of_block hb).trans c2⟩
end Go.Proofs.YtjjfabemhdhppaaDoor
