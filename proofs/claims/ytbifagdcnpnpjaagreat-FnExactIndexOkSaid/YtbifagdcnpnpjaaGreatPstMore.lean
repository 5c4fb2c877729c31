/- A post that takes one place more, in place; a post more. -/
import Derived.Test.YtbifagdcnpnpjaaGreatIdxMath
import Derived.Test.YtbifagdcnpnpjaaGreatFoot2
import Derived.Test.YtbifagdcnpnpjaaGreatIdxToI
namespace Go.Proofs.YtbifagdcnpnpjaaGreat
open Go Go.RowKit
set_option linter.unusedVariables false

theorem grp_two {xs : List Value} {n : Nat} {d va v' : Value} (h : grp xs 2 n = [d, va]) : grp (xs.set (n * 2 + 1) v') 2 n = [d, v'] := by
  rw [grp_set_same (by decide), h]
  rfl
theorem grp_three {xs : List Value} {n : Nat} {d e va v' : Value} (h : grp xs 3 n = [d, e, va]) : grp (xs.set (n * 3 + 2) v') 3 n = [d, e, v'] := by
  rw [grp_set_same (by decide), h]
  rfl
/-- One place more of the n-th post: its row may lie anew. -/
theorem GRow.place {w w1 w2 : World} {B gp cp n : Nat} {xs : List Value} {ps : List Pst} {fps : Nat → List Nat} {p : Pst} {va v' : Value} {at' : Int} (h : GRow pstEl w B (.slice (some ⟨gp, 0, none⟩) ps.length cp) xs ps fps) (hB : B ≤ w.heap.size) (hp : ps[n]? = some p)
    (hva : grp xs 2 n = [.int .i64 p.doc, va]) (hb1 : Below w.heap.size w w1) (ho : w2.ownsRow 0 3 1 v' (p.ats.length + 1) (p.ats.map (Value.int .i64) ++ [.int .i64 at'])) (hg : w1.grownBy w2 va.ownBlock) (hat : v'.ownBlock = va.ownBlock ∨ v'.ownBlock = some w1.heap.size) :
    GRow pstEl (w2.setCell ⟨gp, n * 2 + 1, none⟩ v') B (.slice (some ⟨gp, 0, none⟩) ps.length cp) (xs.set (n * 2 + 1) v') (ps.set n ⟨p.doc, p.ats ++ [at']⟩) (fun i => if i = n then v'.ownBlock.toList else fps i) ∧
      (∀ b ∈ v'.ownBlock.toList, b ∈ fps n ∨ w.heap.size ≤ b) ∧ Tch (footOf (.slice (some ⟨gp, 0, none⟩) ps.length cp) fps ps.length) w (w2.setCell ⟨gp, n * 2 + 1, none⟩ v') := by
  have hn := (List.getElem?_eq_some_iff.1 hp).1
  obtain ⟨⟨va', ec, hr, hfp⟩, hBf⟩ := h.el n p hp
  have ec2 : grp xs 2 n = _ := ec
  rw [hva] at ec2
  cases ec2
  have hgl : gp < w.heap.size := (h.row.lt gp rfl).2
  have hga : ∀ b, va.ownBlock = some b → b ∈ fps n := fun b hb => by rw [hfp, hb]; simp
  have hgn : gp ∉ fps n := fun hm => h.apart gp rfl (mem_feet.2 ⟨n, hn, hm⟩)
  have hvn : va.ownBlock ≠ some gp := fun e => hgn (hga gp e)
  have hs1 := hb1.size
  have hnew : ∀ b ∈ v'.ownBlock.toList, b ∈ fps n ∨ w.heap.size ≤ b := fun b hb => by
    rw [Option.mem_toList] at hb
    rcases hat with e | e
    · rw [e] at hb; exact .inl (hga b hb)
    · rw [e] at hb; cases hb; exact .inr hs1
  have hv'n : v'.ownBlock ≠ some gp := fun e => by
    rcases hnew gp (by rw [Option.mem_toList]; exact e) with h1 | h1
    · exact hgn h1
    · omega
  have hk2 : ∀ b, b < w.heap.size → b ∉ fps n → w2.heap[b]? = w.heap[b]? := fun b hb hnb => (hg.block b (by omega) (fun e => hnb (hga b e.symm))).trans (hb1.block b hb)
  have hrow2 : w2.ownsRow B 107 2 (.slice (some ⟨gp, 0, none⟩) ps.length cp) ps.length xs := row_same h.row fun g hg' => by cases hg'; exact hk2 gp hgl hgn
  obtain ⟨hrow3, _⟩ := hrow2.stored (n * 2 + 1) v'
  have hlen : (p.ats.map (Value.int .i64) ++ [Value.int .i64 at']) = (p.ats ++ [at']).map (Value.int .i64) := by simp
  refine ⟨h.turn (k := n) (a := ⟨p.doc, p.ats ++ [at']⟩) (fp := v'.ownBlock.toList) hB hn (c := [.int .i64 p.doc, v']) ⟨v', rfl, ?_, rfl⟩ hnew hrow3 (grp_two hva) (fun i hi hne => grp_set_other (by
    show n * 2 + 1 < i * 2 ∨ (i + 1) * 2 ≤ n * 2 + 1
    omega)) (fun b hb hnb hnf => ?_), hnew, ⟨⟨?_, ?_, ?_, ?_, fun _ h => by omega⟩, fun b hb hnf => ?_⟩⟩
  · refine row_set ?_ hv'n _
    rw [hlen] at ho
    show World.ownsRow _ _ _ _ _ (List.length (p.ats ++ [at'])) _
    rw [List.length_append]
    exact ho
  · rw [Below.heap_setCell _ _ _ _ (fun e => hnb (by show some gp = some b; rw [e]))]
    exact hk2 b hb hnf
  · exact hg.os.trans hb1.os
  · exact hg.tape.trans hb1.tape
  · exact hg.output.trans hb1.output
  · have := hg.size; simp [World.setCell]; omega
  · have h1 : b ≠ gp := fun e => hnf (mem_footOf.2 (.inl (by show some gp = some b; rw [e])))
    rw [Below.heap_setCell _ _ _ _ h1]
    exact hk2 b hb (fun hm => hnf (mem_footOf.2 (.inr (mem_feet.2 ⟨n, hn, hm⟩))))
theorem postAdd_same {ps : List Pst} {n : Nat} {p : Pst} (hl : n + 1 = ps.length) (hp : ps[n]? = some p) (at' : Int) : postAdd ps p.doc at' = ps.set n ⟨p.doc, p.ats ++ [at']⟩ := by
  have hlast : ps.getLast? = some p := by rw [List.getLast?_eq_getElem?, ← hl, Nat.add_sub_cancel]; exact hp
  unfold postAdd
  rw [hlast]
  simp only [if_pos]
  apply List.ext_getElem?
  intro i
  have hdl : ps.dropLast.length = n := by simp; omega
  by_cases hi : i < n
  · rw [List.getElem?_append_left (by omega), List.getElem?_set_ne (by omega), List.getElem?_dropLast, if_pos (by omega)]
  · by_cases e : i = n
    · subst e
      rw [List.getElem?_append_right (by omega), List.getElem?_set_self (by omega), hdl, Nat.sub_self]
      rfl
    · rw [List.getElem?_eq_none (by simp; omega), List.getElem?_eq_none (by simp; omega)]
theorem postAdd_other {ps : List Pst} {n : Nat} {p : Pst} (hl : n + 1 = ps.length) (hp : ps[n]? = some p) {doc : Int} (hd : p.doc ≠ doc) (at' : Int) : postAdd ps doc at' = ps ++ [⟨doc, [at']⟩] := by
  have hlast : ps.getLast? = some p := by rw [List.getLast?_eq_getElem?, ← hl, Nat.add_sub_cancel]; exact hp
  unfold postAdd
  rw [hlast]
  simp only [if_neg hd]
theorem feet_sub {v : Value} {fps : Nat → List Nat} {n i : Nat} (hi : i < n) : ∀ b ∈ fps i, b ∈ footOf v fps n := fun b hb => mem_footOf.2 (.inr (mem_feet.2 ⟨i, hi, hb⟩))
theorem footOf_if {v : Value} {fps : Nat → List Nat} {n m k : Nat} {fp : List Nat} (hnm : n ≤ m) {w : Nat} (hf : ∀ b ∈ fp, b ∈ footOf v fps m ∨ w ≤ b) : ∀ b ∈ footOf v (fun i => if i = k then fp else fps i) n, b ∈ footOf v fps m ∨ w ≤ b := fun b hb => by
  rcases mem_footOf.1 hb with hb | hb
  · exact .inl (mem_footOf.2 (.inl hb))
  · obtain ⟨i, hi, hb⟩ := mem_feet.1 hb
    by_cases e : i = k
    · rw [if_pos e] at hb; exact hf b hb
    · rw [if_neg e] at hb; exact .inl (feet_sub (by omega) b hb)
end Go.Proofs.YtbifagdcnpnpjaaGreat
