/- A region that draws its order, whose operations only read and whose callees only lay new blocks, but for one operation that all behind it wait for: one walk in the order of the text. -/
import Derived.Test.YtbifagdcnpnpjaaGreatStillOne
import Derived.Lib.QuietBelow
namespace Go.Proofs.YtbifagdcnpnpjaaGreat
open Go Go.Sort Go.RowKit

section
variable {P : Program} {ops : Array Oper} {md : Region.Mode} {C : World → Prop}

def wpAnyLQ (P : Program) (md : Region.Mode) (ops : Array Oper) (C : World → Prop) (n : Nat) (L : Array Bool → Act → Prop) : Nat → Array Bool → Act → Prop
  | 0, listed, a => L listed a
  | f + 1, listed, a =>
    Region.ready md ops listed ≠ [] ∧ ∀ i ∈ Region.ready md ops listed, i < n ∧ qOp P ops C i (wpAnyLQ P md ops C n L f (listed.setIfInBounds i true)) a
theorem wpAny_of_headQ {n g : Nat} {L : Array Bool → Act → Prop} {Q' : Exit → Act → World → Prop} (hL : ∀ listed a w, C w → L listed a → wpAny P md ops Q' g listed a w) :
    ∀ (f : Nat) (listed : Array Bool) (a : Act) (w : World), C w → wpAnyLQ P md ops C n L f listed a → wpAny P md ops Q' (f + g) listed a w
  | 0, listed, a, w, hw, h => by rw [Nat.zero_add]; exact hL _ _ _ hw h
  | f + 1, listed, a, w, hw, h => by
    rw [show f + 1 + g = (f + g) + 1 by omega]
    exact ⟨fun h0 => absurd h0 h.1, fun i hi => wpOp_of_qOp hw (fun a' w' hw' h' => wpAny_of_headQ hL f _ a' w' hw' h') (h.2 i hi).2⟩
theorem wpAnyQ_first1 {n i : Nat} {oi : Oper} {v : Value} {L : Array Bool → Act → Prop} (hi : ops[i]? = some oi) (hsel : ∀ (j : Nat) (o : Oper) cs b, ops[j]? = some o → o.op ≠ .select cs b)
    (hs : Region.sinkB md ops n = true) (hc : downB md ops n = true) (hin : i < n)
    (hdone : ∀ listed a, L listed a → ∀ j ∈ Region.ready md ops listed, n ≤ j) :
    ∀ (f : Nat) (listed : Array Bool) (a : Act), HeadInv md ops n listed →
      (∀ j oj, ops[j]? = some oj → j ≠ i → listed.getD j true = false → (∀ e ∈ oj.after, Region.binds md e = true → e.on ≠ i) → oi.apart ops oj = true) →
      i ∈ Region.ready md ops listed → YieldsIn P ops C oi v a →
      wpAnyLQ P md ops C n L f (listed.setIfInBounds i true) (a.put oi.dst v) → wpAnyLQ P md ops C n L (f + 1) listed a := by
  intro f
  induction f with
  | zero =>
    intro listed a inv _ hr hy H
    have hun := (mem_ready.1 hr).1
    refine ⟨fun h => (by rw [h] at hr; cases hr), fun j hj => ?_⟩
    have hjn : j < n := by
      rcases Nat.lt_or_ge j n with h | h
      · exact h
      · exact absurd hj (tail_waits1 hs hc inv _ i rfl hin hun j h)
    refine ⟨hjn, ?_⟩
    by_cases hji : j = i
    · subst hji; exact hy.qOp hi H
    · have := hdone _ _ H j (ready_mono hj hji)
      omega
  | succ f ih =>
    intro listed a inv hfree hr hy H
    have hun := (mem_ready.1 hr).1
    refine ⟨fun h => (by rw [h] at hr; cases hr), fun j hj => ?_⟩
    have hjn : j < n := by
      rcases Nat.lt_or_ge j n with h | h
      · exact h
      · exact absurd hj (tail_waits1 hs hc inv _ i rfl hin hun j h)
    refine ⟨hjn, ?_⟩
    by_cases hji : j = i
    · subst hji; exact hy.qOp hi H
    · have h1 := (H.2 j (ready_mono hj hji)).2
      obtain ⟨hjun, oj, hoj, hall⟩ := mem_ready.1 hj
      have hnot : ∀ e ∈ oj.after, Region.binds md e = true → e.on ≠ i := fun e he hb heq => by
        have h1 := hall e he hb
        rw [heq, getD_both hun] at h1
        cases h1
      have h2 := qOp_put hoj (hfree j oj hoj hji hjun hnot) (fun cs b => hsel i oi cs b hi) (fun cs b => hsel j oj cs b hoj) hy h1
      have hfree' : ∀ k ok, ops[k]? = some ok → k ≠ i → (listed.setIfInBounds j true).getD k true = false →
          (∀ e ∈ ok.after, Region.binds md e = true → e.on ≠ i) → oi.apart ops ok = true := fun k ok hk hki hun hno => by
        refine hfree k ok hk hki ?_ hno
        by_cases hjk : j = k
        · subst hjk; exact hjun
        · rw [getD_set_ne true hjk] at hun; exact hun
      refine qOp_mono (fun a' h3 => ih (listed.setIfInBounds j true) a' (inv.set hj hjn) hfree' (ready_mono hr (Ne.symm hji)) h3.1 ?_) h2
      rw [Array.setIfInBounds_comm _ _ hji]
      exact h3.2
theorem wpAnyQ_lex1 {n : Nat} {Lq : Act → Prop} (hsel : Region.noSelect ops = true) (hs : Region.sinkB md ops n = true) (hc : downB md ops n = true) :
    ∀ (l : List Oper) (k : Nat) (listed : Array Bool) (a : Act), (∀ j, j < l.length → l[j]? = ops[k + j]?) → k + l.length = n → HeadInv md ops n listed →
    headB md ops n l.length k listed = true → wpQuiet P ops C Lq l a →
    wpAnyLQ P md ops C n (fun listed' a' => endB md ops n listed' = true ∧ Lq a') l.length listed a
  | [], k, listed, a, _, hk, _, hB, h => ⟨hB, h⟩
  | o :: l, k, listed, a, hl, hk, inv, hB, h => by
    have h0 : ops[k]? = some o := by simpa using (hl 0 (by simp)).symm
    simp only [List.length_cons, headB, Bool.and_eq_true] at hB
    obtain ⟨⟨hr, hf⟩, hB'⟩ := hB
    have hkn : k < n := by simp only [List.length_cons] at hk; omega
    have hr' : k ∈ Region.ready md ops listed := by simpa using hr
    have hst : qOp P ops C k (wpQuiet P ops C Lq l) a := by unfold qOp; simp only [h0]; exact h
    obtain ⟨v, hy, hK⟩ := yieldsIn_of_qOp h0 hst
    exact wpAnyQ_first1 h0 (Region.noSelect_spec hsel) hs hc hkn (fun listed' a' hL j hj => by
        have h1 := hL.1
        simp only [endB, Bool.and_eq_true, decide_eq_true_eq] at h1
        rw [h1.1] at hj
        have : j = n := by simpa using hj
        omega) l.length listed a inv (Region.free_spec h0 hf) hr' hy
      (wpAnyQ_lex1 hsel hs hc l (k + 1) _ _ (fun j hj => by have := hl (j + 1) (by simp; omega); simpa [Nat.add_assoc, Nat.add_comm 1 j] using this) (by simp only [List.length_cons] at hk; omega) (inv.set hr' hkn) hB' hK)
/-- What is asked of the rest: from any world on, blocks may be laid. -/
def RestQ (P : Program) (l : List Oper) (n : Nat) (Q : Exit → Act → World → Prop) (w : World) (a : Act) : Prop :=
  wpQuiet P l.toArray (fun w' => ∃ p : Regrown, w' = grow (redrawn w p.d) p.os) (fun a' => ∀ w', (∃ p : Regrown, w' = grow (redrawn w p.d) p.os) → Q .normal a' w') (l.drop (n + 1)) a
/-- What is asked of the one. -/
def OneQ (P : Program) (l : List Oper) (n : Nat) (Q : Exit → Act → World → Prop) (o : Oper) (w : World) (a : Act) : Prop :=
  if Region.wanted o (yielded l.toArray a.tmps) then o.wp P a w (fun a' w' => RestQ P l n Q w' a') Q else RestQ P l n Q w (a.put o.dst undef)
theorem oneQ_want {l : List Oper} {n : Nat} {Q : Exit → Act → World → Prop} {o : Oper} {w : World} {a : Act} (hw : Region.wanted o (yielded l.toArray a.tmps) = true)
    (h : o.wp P a w (fun a' w' => RestQ P l n Q w' a') Q) : OneQ P l n Q o w a := by
  unfold OneQ
  rw [if_pos hw]
  exact h
theorem oneQ_skip {l : List Oper} {n : Nat} {Q : Exit → Act → World → Prop} {o : Oper} {w : World} {a : Act} (hw : Region.wanted o (yielded l.toArray a.tmps) = false)
    (h : RestQ P l n Q w (a.put o.dst undef)) : OneQ P l n Q o w a := by
  unfold OneQ
  rw [if_neg (by rw [hw]; decide)]
  exact h
theorem wp_region_quiet_one {id : Nat} {Q : Exit → Act → World → Prop} {a : Act} {w : World} {l : List Oper} {o : Oper} (n : Nat) (hm : P.follows .mixedOrders = true) (hB : oneB .any l.toArray n = true) (ho : l[n]? = some o)
    (h : wpQuiet P l.toArray (fun w' => ∃ p : Regrown, w' = grow (redrawn w p.d) p.os) (fun a' => ∀ w', (∃ p : Regrown, w' = grow (redrawn w p.d) p.os) → OneQ P l n Q o w' a') (l.take n) a) : (Code.region id l.toArray true).wp P Q a w := by
  simp only [oneB, Bool.and_eq_true, decide_eq_true_eq] at hB
  obtain ⟨⟨⟨⟨hsel, hn⟩, hs⟩, hc⟩, hlex⟩ := hB
  have hn' : n < l.length := by simpa using hn
  have htl : (l.take n).length = n := by simp; omega
  have inv0 : HeadInv .any l.toArray n (Array.replicate l.toArray.size false) :=
    ⟨by simp, fun j oj _ hl => (by rw [getD_replicate_false] at hl; cases hl), fun t _ ht => getD_in (by simpa using ht) (getD_replicate_false _ _)⟩
  have H := wpAnyQ_lex1 (md := .any) hsel hs hc (l.take n) 0 _ a (fun j hj => by
    have hj' : j < n := by rw [htl] at hj; exact hj
    simp [hj']) (by simpa using htl) inv0 (by rw [htl]; exact hlex) h
  refine wp_region_any hm ?_
  have hrest : ∀ (listed : Array Bool) (a' : Act) (w' : World), Region.lexFrom .any l.toArray (l.toArray.size - (n + 1)) (n + 1) listed = true → RestQ P l n Q w' a' →
      wpAny P .any l.toArray Q (l.toArray.size - (n + 1)) listed a' w' := fun listed a' w' hl hst => by
    have hdl : (l.drop (n + 1)).length = l.toArray.size - (n + 1) := by simp
    have := wpAnyQ_lex (C := fun w'' => ∃ p : Regrown, w'' = grow (redrawn w' p.d) p.os) (md := .any) hsel (l.drop (n + 1)) (n + 1) listed a' (fun j => by simp [List.getElem?_drop]) (by rw [hdl]; exact hl) hst
    rw [hdl] at this
    exact wpAny_of_quiet (C := fun w'' => ∃ p : Regrown, w'' = grow (redrawn w' p.d) p.os) (fun _ w'' hw' h => h w'' hw') _ _ _ _ ⟨⟨w'.drawn, #[]⟩, by rw [grow_empty]; rfl⟩ this
  have := wpAny_of_headQ (C := fun w' => ∃ p : Regrown, w' = grow (redrawn w p.d) p.os) (Q' := Q) (g := (l.toArray.size - (n + 1)) + 1) (fun listed a' w' hw' hL => by
    obtain ⟨hE, hK⟩ := hL
    simp only [endB, Bool.and_eq_true, decide_eq_true_eq] at hE
    refine ⟨fun h1 => (by rw [hE.1] at h1; cases h1), fun i hi => ?_⟩
    rw [hE.1] at hi
    have hik : i = n := by simpa using hi
    subst hik
    have h0 : l.toArray[i]? = some o := by simpa using ho
    have hw : wpOp P l.toArray Q i (fun a'' w'' => RestQ P l i Q w'' a'') a' w' := by
      have hK' := hK w' hw'
      unfold wpOp
      simp only [h0]
      unfold OneQ at hK'
      split
      · rename_i hwn; rw [if_pos hwn] at hK'; exact .inl hK'
      · rename_i hwn; rw [if_neg hwn] at hK'; exact hK'
    exact wpOp_mono (fun a'' w'' h' => hrest _ a'' w'' hE.2 h') hw) _ _ _ w.drew ⟨⟨w.drawn + 1, #[]⟩, by rw [grow_empty]; rfl⟩ H
  rw [htl, show n + ((l.toArray.size - (n + 1)) + 1) = l.toArray.size by simp; omega] at this
  exact this
end
/-- Facts on cells, in every world of the class. -/
theorem cellQ {w : World} {a : Addr} {v : Value} (h : w.cell? a = some v) : ∀ (d : Nat) (os : Array Obj), (grow (redrawn w d) os).cell? a = some v := fun d os => cell_regrown h d os
theorem belowQ (w : World) (p : Regrown) : Below w.heap.size w (grow (redrawn w p.d) p.os) := below_regrown w p.d p.os
end Go.Proofs.YtbifagdcnpnpjaaGreat
