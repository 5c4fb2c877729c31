/- Questions: trees in memory; how they are read, copied, measured, held against each other. -/
import Derived.Test.YtjkimadnopeakaaGreatDoorMg0FnExactMeets
import Derived.Deep.RegionWith
namespace Go.Proofs.YtjkimadnopeakaaGreatDoor
open Go.RowKit
set_option linter.unusedVariables false

inductive Qy where
  | mk (kind : Int) (field text : ByteArray) (low high : Int) (parts : List Qy)
instance : Inhabited Qy := ⟨.mk 0 ⟨#[]⟩ ⟨#[]⟩ 0 0 []⟩
def Qy.kind : Qy → Int | .mk k _ _ _ _ _ => k
def Qy.field : Qy → ByteArray | .mk _ f _ _ _ _ => f
def Qy.text : Qy → ByteArray | .mk _ _ t _ _ _ => t
def Qy.low : Qy → Int | .mk _ _ _ l _ _ => l
def Qy.high : Qy → Int | .mk _ _ _ _ h _ => h
def Qy.parts : Qy → List Qy | .mk _ _ _ _ _ p => p
theorem Qy.eta (q : Qy) : Qy.mk q.kind q.field q.text q.low q.high q.parts = q := by cases q; rfl
def qat (ps : List Qy) (i : Nat) : Qy := ps.getD i default
theorem qat_get (ps : List Qy) (k : Nat) (h : k < ps.length) : qat ps k = ps[k] := by unfold qat; rw [List.getD_eq_getElem?_getD, List.getElem?_eq_getElem h]; rfl
/-- A question as a value, its parts at p. -/
def qVal (q : Qy) (p : Option Addr) (c : Nat) : List Value := [.int .i64 q.kind, .string q.field, .string q.text, .int .i64 q.low, .int .i64 q.high, .slice p q.parts.length c]
/-- A question's cells. -/
def QCells (w : World) (g o : Nat) (q : Qy) (p : Option Addr) (c : Nat) : Prop := w.cell? ⟨g, o, none⟩ = some (.int .i64 q.kind) ∧ w.cell? ⟨g, o + 1, none⟩ = some (.string q.field) ∧ w.cell? ⟨g, o + 2, none⟩ = some (.string q.text) ∧ w.cell? ⟨g, o + 3, none⟩ = some (.int .i64 q.low) ∧ w.cell? ⟨g, o + 4, none⟩ = some (.int .i64 q.high) ∧ w.cell? ⟨g, o + 5, none⟩ = some (.slice p q.parts.length c)
/-- Parts that lie at a, in blocks from B on, at most d deep. -/
def QAt (w : World) (B : Nat) : Nat → Option Addr → List Qy → Prop
  | 0, _, ps => ps = []
  | d + 1, a, ps => 0 < ps.length → ∃ g off, a = some ⟨g, off, none⟩ ∧ B ≤ g ∧ g < w.heap.size ∧ ∀ i, i < ps.length → ∃ p c, QCells w g (off + i * 6) (qat ps i) p c ∧ QAt w B d p (qat ps i).parts
theorem QCells.of_block {w w' : World} {g o : Nat} {q : Qy} {p : Option Addr} {c : Nat} (h : QCells w g o q p c) (hb : w'.heap[g]? = w.heap[g]?) : QCells w' g o q p c := by
  obtain ⟨h0, h1, h2, h3, h4, h5⟩ := h
  have e : ∀ j, w'.cell? ⟨g, j, none⟩ = w.cell? ⟨g, j, none⟩ := fun j => World.cell?_of_block hb
  exact ⟨(e _).trans h0, (e _).trans h1, (e _).trans h2, (e _).trans h3, (e _).trans h4, (e _).trans h5⟩
theorem QAt.kept {w w' : World} {B : Nat} (hs : w.heap.size ≤ w'.heap.size) (hb : ∀ b, B ≤ b → b < w.heap.size → w'.heap[b]? = w.heap[b]?) : ∀ {d : Nat} {a : Option Addr} {ps : List Qy}, QAt w B d a ps → QAt w' B d a ps
  | 0, _, _, h => h
  | d + 1, a, ps, h => fun hp => by
    obtain ⟨g, off, e, h1, h2, hc⟩ := h hp
    refine ⟨g, off, e, h1, Nat.lt_of_lt_of_le h2 hs, fun i hi => ?_⟩
    obtain ⟨p, c, hq, hr⟩ := hc i hi
    exact ⟨p, c, hq.of_block (hb g h1 h2), QAt.kept hs hb hr⟩
theorem QAt.below {w w' : World} {B d : Nat} {a : Option Addr} {ps : List Qy} (h : QAt w B d a ps) (hb : Below w.heap.size w w') : QAt w' B d a ps := h.kept hb.size (fun b _ h2 => hb.block b h2)
theorem QAt.set {w : World} {B d : Nat} {a : Option Addr} {ps : List Qy} (h : QAt w B d a ps) {x : Addr} (hx : x.block < B) (v : Value) : QAt (w.setCell x v) B d a ps :=
  h.kept (by simp [World.setCell]) (fun b h1 _ => Below.heap_setCell _ _ _ _ (by omega))
theorem QAt.base {w : World} {B C : Nat} (hC : C ≤ B) : ∀ {d : Nat} {a : Option Addr} {ps : List Qy}, QAt w B d a ps → QAt w C d a ps
  | 0, _, _, h => h
  | d + 1, a, ps, h => fun hp => by
    obtain ⟨g, off, e, h1, h2, hc⟩ := h hp
    refine ⟨g, off, e, Nat.le_trans hC h1, h2, fun i hi => ?_⟩
    obtain ⟨p, c, hq, hr⟩ := hc i hi
    exact ⟨p, c, hq, QAt.base hC hr⟩
/-- A tree whose texts are no longer than n, and whose lists are not, either. -/
def QSz (n : Nat) : Nat → List Qy → Prop
  | 0, ps => ps = []
  | d + 1, ps => ps.length ≤ n ∧ ∀ i, i < ps.length → (qat ps i).field.size ≤ n ∧ (qat ps i).text.size ≤ n ∧ QSz n d (qat ps i).parts
theorem QSz.len {n : Nat} : ∀ {d : Nat} {ps : List Qy}, QSz n d ps → ps.length ≤ n
  | 0, _, h => by unfold QSz at h; rw [h]; exact Nat.zero_le _
  | _ + 1, _, h => h.1

theorem infoQy : (Tryz.prog.info? 41).map (fun i => (i.zero, i.size, i.bytes)) = some (some (.agg #[.int .i64 0, .string ⟨#[]⟩, .string ⟨#[]⟩, .int .i64 0, .int .i64 0, .slice none 0 0]), 6, 80) := by kernel_rfl
/-- The first k elements of a row are these questions. -/
def QTo (w : World) (B d : Nat) (xs : List Value) (ps : List Qy) (k : Nat) : Prop := ∀ i, i < k → ∃ p c, (∀ j, j < 6 → xs[i * 6 + j]? = (qVal (qat ps i) p c)[j]?) ∧ QAt w B d p (qat ps i).parts
theorem owns_qRow {w : World} {base B d cap : Nat} {g : Nat} {e : TypeId} {ps : List Qy} {xs : List Value} (h : w.ownsRow base e 6 (.slice (some ⟨g, 0, none⟩) ps.length cap) ps.length xs) (ht : QTo w B d xs ps ps.length) (hB : g + 1 ≤ B) : QAt w g (d + 1) (some ⟨g, 0, none⟩) ps := fun hp => by
  refine ⟨g, 0, rfl, Nat.le_refl _, (h.lt g rfl).2, fun i hi => ?_⟩
  obtain ⟨p, c, hx, hq⟩ := ht i hi
  have hxl := h.1
  have e : ∀ j, j < 6 → w.cell? ⟨g, 0 + i * 6 + j, none⟩ = (qVal (qat ps i) p c)[j]? := fun j hj => by
    rw [Nat.zero_add, h.cellAt _ (by omega)]
    exact hx j hj
  exact ⟨p, c, ⟨e 0 (by omega), e 1 (by omega), e 2 (by omega), e 3 (by omega), e 4 (by omega), e 5 (by omega)⟩, hq.base (by omega)⟩
theorem set6_at {xs : List Value} {k : Nat} (v0 v1 v2 v3 v4 v5 : Value) (hk : k * 6 + 5 < xs.length) : ∀ i j, j < 6 → ((((((xs.set (k * 6) v0).set (k * 6 + 1) v1).set (k * 6 + 2) v2).set (k * 6 + 3) v3).set (k * 6 + 4) v4).set (k * 6 + 5) v5)[i * 6 + j]? = if i = k then [v0, v1, v2, v3, v4, v5][j]? else xs[i * 6 + j]? := by
  intro i j hj
  by_cases e : i = k
  · subst e
    rw [if_pos rfl]
    rcases (show j = 0 ∨ j = 1 ∨ j = 2 ∨ j = 3 ∨ j = 4 ∨ j = 5 by omega) with rfl | rfl | rfl | rfl | rfl | rfl <;> simp [List.getElem?_set] <;> omega
  · rw [if_neg e, List.getElem?_set_ne (by omega), List.getElem?_set_ne (by omega), List.getElem?_set_ne (by omega), List.getElem?_set_ne (by omega), List.getElem?_set_ne (by omega), List.getElem?_set_ne (by omega)]
theorem QTo.kept {w w' : World} {B d k : Nat} {xs : List Value} {ps : List Qy} (h : QTo w B d xs ps k) (hs : w.heap.size ≤ w'.heap.size) (hb : ∀ b, B ≤ b → b < w.heap.size → w'.heap[b]? = w.heap[b]?) : QTo w' B d xs ps k := fun i hi => by
  obtain ⟨p, c, hx, hq⟩ := h i hi
  exact ⟨p, c, hx, hq.kept hs hb⟩
theorem QTo.step {w : World} {B d k : Nat} {xs : List Value} {ps : List Qy} {p : Option Addr} {c : Nat} (h : QTo w B d xs ps k) (hk : k * 6 + 5 < xs.length) (hq : QAt w B d p (qat ps k).parts) :
    QTo w B d ((((((xs.set (k * 6) (.int .i64 (qat ps k).kind)).set (k * 6 + 1) (.string (qat ps k).field)).set (k * 6 + 2) (.string (qat ps k).text)).set (k * 6 + 3) (.int .i64 (qat ps k).low)).set (k * 6 + 4) (.int .i64 (qat ps k).high)).set (k * 6 + 5) (.slice p (qat ps k).parts.length c)) ps (k + 1) := fun i hi => by
  by_cases e : i = k
  · subst e
    exact ⟨p, c, fun j hj => by rw [set6_at _ _ _ _ _ _ hk i j hj, if_pos rfl]; rfl, hq⟩
  · obtain ⟨p', c', hx, hq'⟩ := h i (by omega)
    exact ⟨p', c', fun j hj => by rw [set6_at _ _ _ _ _ _ hk i j hj, if_neg e]; exact hx j hj, hq'⟩
end Go.Proofs.YtjkimadnopeakaaGreatDoor
