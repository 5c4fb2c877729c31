/- spec.l5Own: a question in new memory. -/
import Derived.Test.YtfakoalkbcnejaaDoorQyCopyI
import Derived.Deep.AppendLies
import Derived.Deep.RegionLaw
namespace Go.Proofs.YtfakoalkbcnejaaDoor
open Go.RowKit
set_option linter.unusedVariables false

/-- Parts at most d deep, in blocks of which S holds. -/
def QAv (w : World) (S : Nat → Prop) : Nat → Option Addr → List Qy → Prop
  | 0, _, ps => ps = []
  | d + 1, a, ps => 0 < ps.length → ∃ g off, a = some ⟨g, off, none⟩ ∧ S g ∧ g < w.heap.size ∧ ∀ i, i < ps.length → ∃ p c, QCells w g (off + i * 6) (qat ps i) p c ∧ QAv w S d p (qat ps i).parts
theorem QAt.drewQ {w : World} {B d : Nat} {a : Option Addr} {ps : List Qy} (h : QAt w B d a ps) : QAt w.drew B d a ps := QAt.kept (w := w) (w' := w.drew) (Nat.le_refl _) (fun _ _ _ => rfl) h
theorem QAv.of {w w' : World} {S S' : Nat → Prop} (hs : w.heap.size ≤ w'.heap.size) (hb : ∀ b, S b → b < w.heap.size → w'.heap[b]? = w.heap[b]? ∧ S' b) : ∀ {d : Nat} {a : Option Addr} {ps : List Qy}, QAv w S d a ps → QAv w' S' d a ps
  | 0, _, _, h => h
  | d + 1, a, ps, h => fun hp => by
    obtain ⟨g, off, e, h1, h2, hc⟩ := h hp
    refine ⟨g, off, e, (hb g h1 h2).2, Nat.lt_of_lt_of_le h2 hs, fun i hi => ?_⟩
    obtain ⟨p, c, hq, hr⟩ := hc i hi
    exact ⟨p, c, hq.of_block (hb g h1 h2).1, QAv.of hs hb hr⟩
theorem QAv.at {w : World} {B : Nat} : ∀ {d : Nat} {a : Option Addr} {ps : List Qy}, QAv w (fun b => B ≤ b) d a ps → QAt w B d a ps
  | 0, _, _, h => h
  | d + 1, a, ps, h => fun hp => by
    obtain ⟨g, off, e, h1, h2, hc⟩ := h hp
    refine ⟨g, off, e, h1, h2, fun i hi => ?_⟩
    obtain ⟨p, c, hq, hr⟩ := hc i hi
    exact ⟨p, c, hq, QAv.at hr⟩
theorem QAt.av {w : World} {B : Nat} : ∀ {d : Nat} {a : Option Addr} {ps : List Qy}, QAt w B d a ps → QAv w (fun b => B ≤ b) d a ps
  | 0, _, _, h => h
  | d + 1, a, ps, h => fun hp => by
    obtain ⟨g, off, e, h1, h2, hc⟩ := h hp
    refine ⟨g, off, e, h1, h2, fun i hi => ?_⟩
    obtain ⟨p, c, hq, hr⟩ := hc i hi
    exact ⟨p, c, hq, QAt.av hr⟩
/-- A list of questions in the making; their trees lie elsewhere. -/
structure VList (w : World) (S : Nat → Prop) (B d : Nat) (v : Value) (xs : List Value) (qs : List Qy) : Prop where
  row : w.ownsRow B 29 6 v qs.length xs
  el : ∀ i, i < qs.length → ∃ p c, Qx xs i (qat qs i) p c ∧ QAv w (fun b => S b ∧ v.ownBlock ≠ some b) d p (qat qs i).parts
theorem VList.nil (w : World) (S : Nat → Prop) (B d : Nat) : VList w S B d (.slice none 0 0) [] [] := ⟨World.ownsRow_nil _ _ _ _, fun i hi => absurd hi (by simp)⟩
theorem VList.below {w w' : World} {S : Nat → Prop} {B d : Nat} {v : Value} {xs : List Value} {qs : List Qy} (h : VList w S B d v xs qs) (hb : Below w.heap.size w w') : VList w' S B d v xs qs :=
  ⟨h.row.kept (grown_none hb) (Classical.em _), fun i hi => by obtain ⟨p, c, h1, h2⟩ := h.el i hi; exact ⟨p, c, h1, h2.of hb.size fun b hs hlt => ⟨hb.block b hlt, hs⟩⟩⟩
theorem VList.set {w : World} {S : Nat → Prop} {B d : Nat} {v : Value} {xs : List Value} {qs : List Qy} (h : VList w S B d v xs qs) {x : Addr} (hx : ¬ S x.block) (hB : x.block < B) (u : Value) : VList (w.setCell x u) S B d v xs qs :=
  ⟨ownsRow_setCell_below h.row hB u, fun i hi => by obtain ⟨p, c, h1, h2⟩ := h.el i hi; exact ⟨p, c, h1, h2.of (by simp [World.setCell]) fun b hs hlt => ⟨Below.heap_setCell _ _ _ _ (fun e => hx (e ▸ hs.1)), hs⟩⟩⟩
theorem VList.snoc {w w3 w4 : World} {S S1 : Nat → Prop} {B d c : Nat} {v v' : Value} {xs : List Value} {qs : List Qy} {q : Qy} {p : Option Addr} (h : VList w S B d v xs qs) (hb3 : Below w.heap.size w w3) (hq : QAv w3 S1 d p q.parts) (hS1 : ∀ b, S1 b → S b ∧ v.ownBlock ≠ some b)
    (ho : w4.ownsRow B 29 6 v' (qs.length + 1) (xs ++ qVal q p c)) (hg : w3.grownBy w4 v.ownBlock) (hat : v'.ownBlock = v.ownBlock ∨ v'.ownBlock = some w3.heap.size) :
    VList w4 S B d v' (xs ++ qVal q p c) (qs ++ [q]) := by
  have hxl := h.row.1
  have hne : ∀ b, b < w3.heap.size → v.ownBlock ≠ some b → v'.ownBlock ≠ some b := fun b hb h1 h2 => by
    rcases hat with e | e
    · exact h1 (e ▸ h2)
    · rw [e] at h2; cases h2; omega
  refine ⟨by simpa using ho, fun i hi => ?_⟩
  simp only [List.length_append, List.length_singleton] at hi
  by_cases e : i = qs.length
  · subst e
    rw [qat_app_last]
    refine ⟨p, c, fun j hj => ?_, hq.of hg.size fun b hs hlt => ⟨hg.block b hlt (fun e => (hS1 b hs).2 e.symm), (hS1 b hs).1, hne b hlt (hS1 b hs).2⟩⟩
    rw [List.getElem?_append_right (by omega), show qs.length * 6 + j - xs.length = j by omega]
  · have hi2 : i < qs.length := by omega
    rw [qat_app_left _ _ _ hi2]
    obtain ⟨p', c', h1, h2⟩ := h.el i hi2
    refine ⟨p', c', fun j hj => ?_, h2.of (Nat.le_trans hb3.size hg.size) fun b hs hlt => ⟨?_, hs.1, hne b (Nat.lt_of_lt_of_le hlt hb3.size) hs.2⟩⟩
    · rw [List.getElem?_append_left (by omega)]
      exact h1 j hj
    · rw [hg.block b (Nat.lt_of_lt_of_le hlt hb3.size) (fun e => hs.2 e.symm), hb3.block b hlt]
theorem VList.av {w : World} {S : Nat → Prop} {B d : Nat} {v : Value} {xs : List Value} {qs : List Qy} (h : VList w S B d v xs qs) (hS : ∀ b, B ≤ b → S b) : ∃ p c, v = .slice p qs.length c ∧ QAv w S (d + 1) p qs := by
  rcases h.row.2 with ⟨rfl, hn⟩ | ⟨g, cap, cur, rfl, hg, hr⟩
  · exact ⟨none, 0, by rw [hn], fun hp => by omega⟩
  · refine ⟨_, cap, rfl, fun hp => ⟨g, 0, rfl, hS g hg, (h.row.lt g rfl).2, fun i hi => ?_⟩⟩
    obtain ⟨p, c, h1, h2⟩ := h.el i hi
    have hrow : w.ownsRow g 29 6 (.slice (some ⟨g, 0, none⟩) qs.length cap) qs.length xs := ⟨h.row.1, .inr ⟨g, cap, cur, rfl, Nat.le_refl _, hr⟩⟩
    exact ⟨p, c, h1.cells hrow hi, h2.of (Nat.le_refl _) fun b hs _ => ⟨rfl, hs.1⟩⟩
end Go.Proofs.YtfakoalkbcnejaaDoor
