/- Lists of questions that are made one behind the other, each in blocks of its own: partsMade, queryCopy. -/
import Derived.Test.YtfakoalkbcnejaaDoorQyOwn
import Derived.Test.YtfakoalkbcnejaaDoorQyTo
import Derived.Test.YtfakoalkbcnejaaDoorQyAskI
import Derived.Test.YtfakoalkbcnejaaDoorClone
import Derived.Maps.AppendAt
namespace Go.Proofs.YtfakoalkbcnejaaDoor
open Go.RowKit
set_option linter.unusedVariables false

theorem qat_app_left (ps : List Qy) (q : Qy) (i : Nat) (h : i < ps.length) : qat (ps ++ [q]) i = qat ps i := by
  unfold qat
  rw [List.getD_eq_getElem?_getD, List.getD_eq_getElem?_getD, List.getElem?_append_left h]
theorem qat_app_last (ps : List Qy) (q : Qy) : qat (ps ++ [q]) ps.length = q := by
  unfold qat
  rw [List.getD_eq_getElem?_getD]
  simp
theorem qVal_len (q : Qy) (p : Option Addr) (c : Nat) : (qVal q p c).length = 6 := rfl
/-- A list of questions of one's own, in the making. -/
theorem nodup_snocL {fps : Nat → List Nat} {k N : Nat} {fp : List Nat} (h : (fpAll fps k).Nodup) (ho : ∀ b ∈ fpAll fps k, b < N) (hf : fp.Nodup) (hN : ∀ b ∈ fp, N ≤ b) : (fpAll (fun i => if i = k then fp else fps i) (k + 1)).Nodup := by
  rw [fpAll_succ, fpAll_congr (fqs := fps) (fun i hi => if_neg (by omega)), if_pos rfl, List.nodup_append]
  exact ⟨h, hf, fun a ha b hb e => by have := ho a ha; have := hN b hb; omega⟩
structure QList (w : World) (B d : Nat) (v : Value) (xs : List Value) (qs : List Qy) (fps : Nat → List Nat) : Prop where
  row : w.ownsRow B 29 6 v qs.length xs
  el : ∀ i, i < qs.length → ∃ p c, Qx xs i (qat qs i) p c ∧ QOwn w d p c (qat qs i).parts (fps i) ∧ ∀ b ∈ fps i, B ≤ b
  nd : (fpAll fps qs.length).Nodup
  apart : ∀ g, v.ownBlock = some g → g ∉ fpAll fps qs.length
theorem QList.nil (w : World) (B d : Nat) : QList w B d (.slice none 0 0) [] [] (fun _ => []) := ⟨World.ownsRow_nil _ _ _ _, fun i hi => absurd hi (by simp), by simp [fpAll], fun g h => by cases h⟩
theorem QList.below {w w' : World} {B d : Nat} {v : Value} {xs : List Value} {qs : List Qy} {fps : Nat → List Nat} (h : QList w B d v xs qs fps) (hb : Below w.heap.size w w') : QList w' B d v xs qs fps :=
  ⟨h.row.kept (grown_none hb) (Classical.em _), fun i hi => by obtain ⟨p, c, h1, h2, h3⟩ := h.el i hi; exact ⟨p, c, h1, h2.below hb, h3⟩, h.nd, h.apart⟩
theorem QList.snoc {w w3 w4 : World} {B d c : Nat} {v v' : Value} {xs : List Value} {qs : List Qy} {fps : Nat → List Nat} {q : Qy} {p : Option Addr} {fp : List Nat} (h : QList w B d v xs qs fps) (hB : B ≤ w.heap.size) (hb3 : Below w.heap.size w w3) (hq : QOwn w3 d p c q.parts fp) (hf : ∀ b ∈ fp, w.heap.size ≤ b)
    (ho : w4.ownsRow B 29 6 v' (qs.length + 1) (xs ++ qVal q p c)) (hg : w3.grownBy w4 v.ownBlock) (hat : v'.ownBlock = v.ownBlock ∨ v'.ownBlock = some w3.heap.size) :
    QList w4 B d v' (xs ++ qVal q p c) (qs ++ [q]) (fun i => if i = qs.length then fp else fps i) := by
  have hxl := h.row.1
  have hall : ∀ b ∈ fpAll fps qs.length, b < w.heap.size := fun b hb => by
    obtain ⟨i, hi, hb⟩ := mem_fpAll.1 hb
    obtain ⟨p', c', _, h2, _⟩ := h.el i hi
    exact h2.lt b hb
  have hvlt : ∀ g, v.ownBlock = some g → g < w.heap.size := fun g e => (h.row.lt g e).2

  refine ⟨by simpa using ho, fun i hi => ?_, by rw [List.length_append]; exact nodup_snocL h.nd hall hq.nodup hf, fun g e hm => ?_⟩
  · simp only [List.length_append, List.length_singleton] at hi
    by_cases e : i = qs.length
    · subst e
      simp only [if_pos, qat_app_last]
      refine ⟨p, c, fun j hj => ?_, hq.kept fun b hb => hg.block b (hq.lt b hb) (fun e => by have := hvlt b e.symm; have := hf b hb; omega), fun b hb => Nat.le_trans hB (hf b hb)⟩
      rw [List.getElem?_append_right (by omega), show qs.length * 6 + j - xs.length = j by omega]
    · have hi2 : i < qs.length := by omega
      rw [qat_app_left _ _ _ hi2]
      simp only [if_neg e]
      obtain ⟨p', c', h1, h2, h3⟩ := h.el i hi2
      refine ⟨p', c', fun j hj => ?_, h2.kept fun b hb => ?_, h3⟩
      · rw [List.getElem?_append_left (by omega)]
        exact h1 j hj
      · have hbl := h2.lt b hb
        rw [hg.block b (Nat.lt_of_lt_of_le hbl hb3.size) (fun e => h.apart b e.symm (mem_fpAll.2 ⟨i, hi2, hb⟩)), hb3.block b hbl]
  · simp only [List.length_append, List.length_singleton] at hm
    rw [fpAll_succ, fpAll_congr (fqs := fps) (fun i hi => if_neg (by omega)), if_pos rfl, List.mem_append] at hm
    rcases hat with e2 | e2
    · rw [e2] at e
      rcases hm with hm | hm
      · exact h.apart g e hm
      · have := hvlt g e
        have := hf g hm
        omega
    · rw [e2] at e
      cases e
      rcases hm with hm | hm
      · have := hall _ hm
        have := hb3.size
        omega
      · have := hq.lt _ hm
        omega
theorem QList.own {w : World} {B d : Nat} {v : Value} {xs : List Value} {qs : List Qy} {fps : Nat → List Nat} (h : QList w B d v xs qs fps) : ∃ p c fp, v = .slice p qs.length c ∧ QOwn w (d + 1) p c qs fp ∧ ∀ b ∈ fp, B ≤ b := by
  rcases h.row.2 with ⟨rfl, hn⟩ | ⟨g, cap, cur, rfl, hg, hr⟩
  · exact ⟨none, 0, [], by rw [hn], .inl ⟨List.eq_nil_of_length_eq_zero hn, rfl⟩, fun b hb => by cases hb⟩
  · by_cases h0 : 0 < qs.length
    · refine ⟨some ⟨g, 0, none⟩, cap, g :: fpAll fps qs.length, rfl, .inr ⟨g, xs, fps, h0, rfl, ?_, rfl, List.nodup_cons.2 ⟨h.apart g rfl, h.nd⟩, fun i hi => ?_⟩, fun b hb => ?_⟩
      · exact ⟨h.row.1, .inr ⟨g, cap, cur, rfl, Nat.le_refl _, hr⟩⟩
      · obtain ⟨p, c, h1, h2, _⟩ := h.el i hi
        exact ⟨p, c, h1, h2⟩
      · rcases List.mem_cons.1 hb with rfl | hb
        · exact hg
        · obtain ⟨i, hi, hb⟩ := mem_fpAll.1 hb
          obtain ⟨_, _, _, _, h3⟩ := h.el i hi
          exact h3 b hb
    · exact ⟨some ⟨g, 0, none⟩, cap, [], rfl, .inl ⟨List.eq_nil_of_length_eq_zero (by omega), rfl⟩, fun b hb => by cases hb⟩
end Go.Proofs.YtfakoalkbcnejaaDoor
