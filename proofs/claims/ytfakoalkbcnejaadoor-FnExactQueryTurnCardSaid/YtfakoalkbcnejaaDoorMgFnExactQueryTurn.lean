/- StillOne, HintOk, QySought, QyFormI, QyLeafS, QyFormS, QyOk, QyTurn, Mark, QyMark, QyHeld, QySz, WQyTurn, Wrap, in one text. -/
import Derived.StillTailTactics
import Derived.Deep.QuietTactic
import Derived.BigQuiet
import Derived.Test.YtfakoalkbcnejaaDoorHintPlain
import Derived.Test.YtfakoalkbcnejaaDoorHns
import Derived.Test.YtfakoalkbcnejaaDoorSplitAny
import Derived.Test.YtfakoalkbcnejaaDoorIn
import Derived.Test.YtfakoalkbcnejaaDoorQyPlain
import Derived.Deep.RegionHeld3
import Derived.Deep.DeepCutAuto
import Derived.Deep.CutBlock
import Derived.Test.YtfakoalkbcnejaaDoorQyTurnS
import Derived.Test.YtfakoalkbcnejaaDoorStrRow
import Derived.Shelf.RegionOpen
import Derived.Test.YtfakoalkbcnejaaDoorQyOwn
import Derived.Deep.RegionWith
import Derived.Test.YtfakoalkbcnejaaDoorQyTo
import Derived.HandedShaped
import Derived.SizedLaws
/- A region that draws its order and only reads, but for one operation that all behind it wait for: one walk in the order of the text. -/
namespace Go.Proofs.YtfakoalkbcnejaaDoor
open Go

section
variable {P : Program} {ops : Array Oper} {md : Region.Mode} {w : World}

/-- All behind the n-th operation wait for it, or for one behind it. -/
def downB (md : Region.Mode) (ops : Array Oper) (n : Nat) : Bool :=
  (List.range ops.size).all fun t => decide (t ≤ n) || (List.range t).any fun j => decide (n ≤ j) && Region.waitsFor md ops t j
theorem tail_waits1 {n : Nat} {listed : Array Bool} (hs : Region.sinkB md ops n = true) (hc : downB md ops n = true) (inv : HeadInv md ops n listed) :
    ∀ (d i : Nat), n - i = d → i < n → listed.getD i true = false → ∀ t, n ≤ t → t ∉ Region.ready md ops listed := by
  intro d
  induction d using Nat.strongRecOn with
  | _ d ih =>
    intro i hd hi hun t ht hr
    obtain ⟨_, ot, hot, hall⟩ := mem_ready.1 hr
    have htlt : t < ops.size := (Array.getElem?_eq_some_iff.1 hot).1
    by_cases htn : t = n
    · subst htn
      have h1 := List.all_eq_true.1 hs i (List.mem_range.2 hi)
      obtain ⟨j, hj, hj2⟩ := List.any_eq_true.1 h1
      simp only [Bool.and_eq_true, decide_eq_true_eq] at hj2
      obtain ⟨oj, hoj, e, he, hb, hon⟩ := Region.waitsFor_spec hj2.2
      have hjle : j ≤ t := by have := List.mem_range.1 hj; omega
      by_cases hjt : j = t
      · subst hjt
        have : oj = ot := Option.some.inj (hoj.symm.trans hot)
        subst this
        have h2 := hall e he hb
        rw [hon, getD_both hun] at h2
        cases h2
      · cases hl : listed.getD j false with
        | true =>
          have h2 := inv.closed j oj hoj hl e he hb
          rw [hon, getD_both hun] at h2
          cases h2
        | false =>
          have hjs : j < listed.size := by rw [inv.size]; omega
          exact ih (t - j) (by omega) j rfl (by omega) (getD_in hjs hl) t (Nat.le_refl _) hr
    · have h1 := List.all_eq_true.1 hc t (List.mem_range.2 htlt)
      simp only [Bool.or_eq_true, decide_eq_true_eq] at h1
      rcases h1 with h1 | h1
      · omega
      · obtain ⟨j, hj, hj2⟩ := List.any_eq_true.1 h1
        simp only [Bool.and_eq_true, decide_eq_true_eq] at hj2
        have hjt : j < t := List.mem_range.1 hj
        obtain ⟨o', ho', e, he, hb, hon⟩ := Region.waitsFor_spec hj2.2
        have : o' = ot := Option.some.inj (ho'.symm.trans hot)
        subst this
        have h2 := hall e he hb
        rw [hon, getD_both (inv.tail j hj2.1 (by omega))] at h2
        cases h2
theorem wpAnyL_first1 {n i : Nat} {oi : Oper} {v : Value} {L : Array Bool → Act → Prop} (hi : ops[i]? = some oi) (hsel : ∀ (j : Nat) (o : Oper) cs b, ops[j]? = some o → o.op ≠ .select cs b)
    (hs : Region.sinkB md ops n = true) (hc : downB md ops n = true) (hin : i < n)
    (hdone : ∀ listed a, L listed a → ∀ j ∈ Region.ready md ops listed, n ≤ j) :
    ∀ (f : Nat) (listed : Array Bool) (a : Act), HeadInv md ops n listed →
      (∀ j oj, ops[j]? = some oj → j ≠ i → listed.getD j true = false → (∀ e ∈ oj.after, Region.binds md e = true → e.on ≠ i) → oi.apart ops oj = true) →
      i ∈ Region.ready md ops listed → YieldsAt P ops w oi v a →
      wpAnyL P md ops w n L f (listed.setIfInBounds i true) (a.put oi.dst v) → wpAnyL P md ops w n L (f + 1) listed a := by
  intro f
  induction f with
  | zero =>
    intro listed a inv _ hr hy H
    have hun := (mem_ready.1 hr).1
    refine ⟨fun h => (by rw [h] at hr; cases hr), fun j hj => ?_⟩
    have hjn : j < n := by
      rcases Nat.lt_or_ge j n with h | h
      · exact h
      · exact absurd hj (tail_waits1 hs hc inv _ i rfl hin hun j h)
    refine ⟨hjn, ?_⟩
    by_cases hji : j = i
    · subst hji; exact hy.stOp hi H
    · have := hdone _ _ H j (ready_mono hj hji)
      omega
  | succ f ih =>
    intro listed a inv hfree hr hy H
    have hun := (mem_ready.1 hr).1
    refine ⟨fun h => (by rw [h] at hr; cases hr), fun j hj => ?_⟩
    have hjn : j < n := by
      rcases Nat.lt_or_ge j n with h | h
      · exact h
      · exact absurd hj (tail_waits1 hs hc inv _ i rfl hin hun j h)
    refine ⟨hjn, ?_⟩
    by_cases hji : j = i
    · subst hji; exact hy.stOp hi H
    · have h1 := (H.2 j (ready_mono hj hji)).2
      obtain ⟨hjun, oj, hoj, hall⟩ := mem_ready.1 hj
      have hnot : ∀ e ∈ oj.after, Region.binds md e = true → e.on ≠ i := fun e he hb heq => by
        have h1 := hall e he hb
        rw [heq, getD_both hun] at h1
        cases h1
      have h2 := stOp_put hoj (hfree j oj hoj hji hjun hnot) (fun cs b => hsel i oi cs b hi) (fun cs b => hsel j oj cs b hoj) hy h1
      have hfree' : ∀ k ok, ops[k]? = some ok → k ≠ i → (listed.setIfInBounds j true).getD k true = false →
          (∀ e ∈ ok.after, Region.binds md e = true → e.on ≠ i) → oi.apart ops ok = true := fun k ok hk hki hun hno => by
        refine hfree k ok hk hki ?_ hno
        by_cases hjk : j = k
        · subst hjk; exact hjun
        · rw [getD_set_ne true hjk] at hun; exact hun
      refine stOp_mono (fun a' h3 => ih (listed.setIfInBounds j true) a' (inv.set hj hjn) hfree' (ready_mono hr (Ne.symm hji)) h3.1 ?_) h2
      rw [Array.setIfInBounds_comm _ _ hji]
      exact h3.2
/-- The head in the order of the text; then the one; then the rest in the order of the text. -/
def endB (md : Region.Mode) (ops : Array Oper) (n : Nat) (listed : Array Bool) : Bool := decide (Region.ready md ops listed = [n]) && Region.lexFrom md ops (ops.size - (n + 1)) (n + 1) (listed.setIfInBounds n true)
def headB (md : Region.Mode) (ops : Array Oper) (n : Nat) : Nat → Nat → Array Bool → Bool
  | 0, _, listed => endB md ops n listed
  | f + 1, k, listed => (Region.ready md ops listed).contains k && Region.free md ops listed k && headB md ops n f (k + 1) (listed.setIfInBounds k true)
def oneB (md : Region.Mode) (ops : Array Oper) (n : Nat) : Bool :=
  Region.noSelect ops && decide (n < ops.size) && Region.sinkB md ops n && downB md ops n && headB md ops n n 0 (Array.replicate ops.size false)
theorem wpAnyL_lex1 {n : Nat} {Lq : Act → Prop} (hsel : Region.noSelect ops = true) (hs : Region.sinkB md ops n = true) (hc : downB md ops n = true) :
    ∀ (l : List Oper) (k : Nat) (listed : Array Bool) (a : Act), (∀ j, j < l.length → l[j]? = ops[k + j]?) → k + l.length = n → HeadInv md ops n listed →
    headB md ops n l.length k listed = true → wpStill P ops w Lq l a →
    wpAnyL P md ops w n (fun listed' a' => endB md ops n listed' = true ∧ Lq a') l.length listed a
  | [], k, listed, a, _, hk, _, hB, h => ⟨hB, h⟩
  | o :: l, k, listed, a, hl, hk, inv, hB, h => by
    have h0 : ops[k]? = some o := by simpa using (hl 0 (by simp)).symm
    simp only [List.length_cons, headB, Bool.and_eq_true] at hB
    obtain ⟨⟨hr, hf⟩, hB'⟩ := hB
    have hkn : k < n := by simp only [List.length_cons] at hk; omega
    have hr' : k ∈ Region.ready md ops listed := by simpa using hr
    have hst : stOp P ops w k (wpStill P ops w Lq l) a := by unfold stOp; simp only [h0]; exact h
    obtain ⟨v, hy, hK⟩ := yieldsAt_of_stOp h0 hst
    exact wpAnyL_first1 h0 (Region.noSelect_spec hsel) hs hc hkn (fun listed' a' hL j hj => by
        have h1 := hL.1
        simp only [endB, Bool.and_eq_true, decide_eq_true_eq] at h1
        rw [h1.1] at hj
        have : j = n := by simpa using hj
        omega) l.length listed a inv (Region.free_spec h0 hf) hr' hy
      (wpAnyL_lex1 hsel hs hc l (k + 1) _ _ (fun j hj => by have := hl (j + 1) (by simp; omega); simpa [Nat.add_assoc, Nat.add_comm 1 j] using this) (by simp only [List.length_cons] at hk; omega) (inv.set hr' hkn) hB' hK)
/-- What is asked of the rest. -/
def RestK (P : Program) (l : List Oper) (n : Nat) (Q : Exit → Act → World → Prop) (w : World) (a : Act) : Prop :=
  wpQuiet P l.toArray (fun w' => ∃ m, w' = w.drewN m) (fun a' => ∀ w', (∃ m, w' = w.drewN m) → Q .normal a' w') (l.drop (n + 1)) a
/-- What is asked of the one. -/
def OneK (P : Program) (l : List Oper) (n : Nat) (Q : Exit → Act → World → Prop) (o : Oper) (w : World) (a : Act) : Prop :=
  if Region.wanted o (yielded l.toArray a.tmps) then o.wp P a w (fun a' w' => RestK P l n Q w' a') Q else RestK P l n Q w (a.put o.dst undef)
theorem wp_region_still_one {id : Nat} {Q : Exit → Act → World → Prop} {a : Act} {w : World} {l : List Oper} {o : Oper} (n : Nat) (hm : P.follows .mixedOrders = true) (hB : oneB .any l.toArray n = true) (ho : l[n]? = some o)
    (h : wpStill P l.toArray w.drew (OneK P l n Q o w.drew) (l.take n) a) : (Code.region id l.toArray true).wp P Q a w := by
  simp only [oneB, Bool.and_eq_true, decide_eq_true_eq] at hB
  obtain ⟨⟨⟨⟨hsel, hn⟩, hs⟩, hc⟩, hlex⟩ := hB
  have hn' : n < l.length := by simpa using hn
  have htl : (l.take n).length = n := by simp; omega
  have inv0 : HeadInv .any l.toArray n (Array.replicate l.toArray.size false) :=
    ⟨by simp, fun j oj _ hl => (by rw [getD_replicate_false] at hl; cases hl), fun t _ ht => getD_in (by simpa using ht) (getD_replicate_false _ _)⟩
  have H := wpAnyL_lex1 (md := .any) hsel hs hc (l.take n) 0 _ a (fun j hj => by
    have hj' : j < n := by rw [htl] at hj; exact hj
    simp [hj']) (by simpa using htl) inv0 (by rw [htl]; exact hlex) h
  refine wp_region_any hm ?_
  have hrest : ∀ (listed : Array Bool) (a' : Act) (w' : World), Region.lexFrom .any l.toArray (l.toArray.size - (n + 1)) (n + 1) listed = true → RestK P l n Q w' a' →
      wpAny P .any l.toArray Q (l.toArray.size - (n + 1)) listed a' w' := fun listed a' w' hl hst => by
    have hdl : (l.drop (n + 1)).length = l.toArray.size - (n + 1) := by simp
    have := wpAnyQ_lex (C := fun w'' => ∃ m, w'' = w'.drewN m) (md := .any) hsel (l.drop (n + 1)) (n + 1) listed a' (fun j => by simp [List.getElem?_drop]) (by rw [hdl]; exact hl) hst
    rw [hdl] at this
    exact wpAny_of_quiet (C := fun w'' => ∃ m, w'' = w'.drewN m) (fun _ w'' hw' h => h w'' hw') _ _ _ _ ⟨0, rfl⟩ this
  have := wpAny_of_head (Q' := Q) (g := (l.toArray.size - (n + 1)) + 1) (fun listed a' hL => by
    obtain ⟨hE, hK⟩ := hL
    simp only [endB, Bool.and_eq_true, decide_eq_true_eq] at hE
    refine ⟨fun h1 => (by rw [hE.1] at h1; cases h1), fun i hi => ?_⟩
    rw [hE.1] at hi
    have hik : i = n := by simpa using hi
    subst hik
    have h0 : l.toArray[i]? = some o := by simpa using ho
    have hw : wpOp P l.toArray Q i (fun a'' w'' => RestK P l i Q w'' a'') a' w.drew := by
      unfold wpOp
      simp only [h0]
      unfold OneK at hK
      split
      · rename_i hwn; rw [if_pos hwn] at hK; exact .inl hK
      · rename_i hwn; rw [if_neg hwn] at hK; exact hK
    exact wpOp_mono (fun a'' w'' h' => hrest _ a'' w'' hE.2 h') hw) _ _ _ H
  rw [htl, show n + ((l.toArray.size - (n + 1)) + 1) = l.toArray.size by simp; omega] at this
  exact this
end
end Go.Proofs.YtfakoalkbcnejaaDoor

/- HintsOk of the program and of the model. -/
namespace Go.Proofs.YtfakoalkbcnejaaDoor
open Go.RowKit
set_option linter.unusedVariables false

def hnW (x : Int) : Bool := decide (1 ≤ x) && decide (x ≤ 999999999)
theorem wtx_len (s : ByteArray) : (wtx s).length = (wordsOn s 0).length := by simp [wtx]
theorem wtx_cell {w : World} {B g c : Nat} {s : ByteArray} (h : w.ownsRow B 103 3 (.slice (some ⟨g, 0, none⟩) (wordsOn s 0).length c) (wordsOn s 0).length (wordCells s (wordsOn s 0))) (k : Nat) (hk : k < (wtx s).length) : w.cell? ⟨g, k * 3, none⟩ = some (.string (pat (wtx s) k)) := by
  have hk' : k < (wordsOn s 0).length := by rw [← wtx_len]; exact hk
  rw [h.cellAt (k * 3) (by omega)]
  have : ∀ (l : List (Nat × Nat)) (k : Nat) (hk : k < l.length), (wordCells s l)[k * 3]? = some (.string (s.extract l[k].1 l[k].2)) := by
    intro l
    induction l with
    | nil => intro k hk; exact absurd hk (by simp)
    | cons x l ih =>
      intro k hk
      cases k with
      | zero => rfl
      | succ k =>
        have h2 := ih k (by simpa using hk)
        rw [show (k + 1) * 3 = k * 3 + 1 + 1 + 1 by omega]
        exact h2
  rw [this _ k hk', pat_get _ _ hk]
  simp [wtx]

set_option maxHeartbeats 1000000 in
theorem l5Words_any (s : ByteArray) (w : World) (hs : s.size ≤ 60) :
    Calls Tryd.prog 89 #[.string s] w fun e w' => e = .returned (.int .i64 (l5W s : Nat)) ∧ Below w.heap.size w w' := by
  have hN : (wtx s).length ≤ 60 := by rw [wtx_len]; have := wordsOn_len s s.size 0 (by omega); omega
  have HZ : Hid (∀ k, k ≤ (wtx s).length → (jw s k).size ≤ 101 * k) := fun k hk => jw_size s (by omega) k hk
  have HWL := wtx_len s
  go_enter Tryd.func89, Tryd.ntmps89
  go_wp2_with fail
  refine (wordsS_any s _ (by omega)).mono ?_
  rintro e w1 ⟨g, c, rfl, hown, hb1⟩
  have HC : Hid (∀ k, k < (wtx s).length → w1.cell? ⟨g, k * 3, none⟩ = some (.string (pat (wtx s) k))) := fun k hk => wtx_cell hown k hk
  rw [← HWL]
  have HL5 : Hid (l5W s = if ((jw s (wtx s).length).toList == s.toList) = true then (wtx s).length else 0) := rfl
  have HPZ : Hid (∀ k, k < (wtx s).length → (pat (wtx s) k).size ≤ 60) := fun k hk => by
    rw [pat_get _ _ hk]
    obtain ⟨x, hx, e⟩ := List.mem_map.1 (List.getElem_mem (l := wtx s) (n := k) hk)
    rw [← e, ByteArray.size_extract]
    omega
  obtain ⟨n, hn⟩ : ∃ n, (wtx s).length = n := ⟨_, rfl⟩
  rw [hn] at hN HZ HC HL5 HPZ
  rw [hn]
  clear HWL hown hn
  go_wp2
  go_loop [4, 5] (fun o i => ∃ k : Nat, k ≤ n ∧ i = .int .i64 k ∧ o = .string (jw s k)) (fun _ i => n - (intOf i).toNat)
  case atStart => exact ⟨0, Nat.zero_le _, rfl, rfl⟩
  case round =>
    obtain ⟨k, hk, rfl, rfl⟩ := hrel
    have hzk := HZ.out k hk
    by_cases hlt : k < n
    · have hks : (k : Int) < (n : Int) := by omega
      have c0 := HC.out k hlt
      have hpz := HPZ.out k hlt
      have HJ : Hid (jw s (k + 1) = (if k = 0 then jw s k else jw s k ++ ⟨#[32]⟩) ++ pat (wtx s) k) := rfl
      generalize pat (wtx s) k = p at *
      by_cases h0 : k = 0
      · subst h0
        have HJ2 : Hid (jw s (0 + 1) = jw s 0 ++ p) := HJ.out
        clear HJ
        generalize jw s 0 = q at *
        go_wp2
        go_round
        case rel => exact ⟨0 + 1, by omega, by go_num, by rw [HJ2.out]⟩
        case measure => simp [intOf]; omega
      · have hk0 : (0 : Int) < (k : Int) := by omega
        have HJ2 : Hid (jw s (k + 1) = jw s k ++ ⟨#[32]⟩ ++ p) := by unfold Hid; rw [HJ.out, if_neg h0]
        clear HJ
        generalize jw s k = q at *
        go_wp2
        go_round
        case rel => exact ⟨k + 1, by omega, by go_num, by rw [HJ2.out]⟩
        case measure => simp [intOf]; omega
    · have hkl : k = n := by omega
      subst hkl
      have hl5 := HL5.out
      clear HL5
      generalize jw s k = q at *
      cases hb : (q.toList == s.toList) with
      | false =>
        rw [hb] at hl5
        have H5 : Hid (l5W s = 0) := hl5
        clear hl5
        go_wp2
        go_ret
        exact ⟨by rw [H5.out]; rfl, hb1⟩
      | true =>
        rw [hb] at hl5
        have H5 : Hid (l5W s = k) := hl5
        clear hl5
        go_wp2
        go_ret
        exact ⟨by rw [H5.out]; rfl, hb1⟩

end Go.Proofs.YtfakoalkbcnejaaDoor

/- impl.soughtOk: whether words may be looked for. -/
namespace Go.Proofs.YtfakoalkbcnejaaDoor
open Go.RowKit
set_option linter.unusedVariables false

theorem isWord_is (t : ByteArray) (b : Bool) (h : isWordB t = b) (hs : t.size ≤ 1099511627776) (w : World) : Calls Tryd.prog 60 #[.string t] w fun e w' => e = .returned (.bool b) ∧ w' = w := by
  rw [← h]
  exact (isWord_any t w hs).mono fun e w' ⟨he, hw⟩ => ⟨he, hw.symm⟩
set_option maxRecDepth 100000 in
set_option maxHeartbeats 2000000 in
theorem soughtOk_any (k : Int) (f t : ByteArray) (lo hi : Int) (p : Option Addr) (n c : Nat) (w : World) (hs : t.size ≤ 1048576) (hm : MaxL w) :
    Calls Tryd.prog 64 #[.agg #[.int .i64 k, .string f, .string t, .int .i64 lo, .int .i64 hi, .slice p n c]] w fun e w' => e = .returned (.bool (wantB k t)) ∧ Below w.heap.size w w' := by
  have hb0 : Below w.heap.size w (w.alloc (.cells #[.int .i64 k, .string f, .string t, .int .i64 lo, .int .i64 hi, .slice p n c] 29)) := (Below.refl _ w).alloc (Nat.le_refl _) _
  have B0 := Blk.new w #[.int .i64 k, .string f, .string t, .int .i64 lo, .int .i64 hi, .slice p n c] 29
  have hm0 := hm.below hb0
  have HB0 : Hid (Below w.heap.size w (w.alloc (.cells #[.int .i64 k, .string f, .string t, .int .i64 lo, .int .i64 hi, .slice p n c] 29))) := hb0
  have HWN : Hid (wantB k t = (decide ((t.size : Int) ≤ 60) && (if k = 2 then isWordB t && !(stemA t).toList.isEmpty else if k = 4 then isWordB t && decide ((t.size : Int) ≤ 12) && foldEq t else (hparts t).all isWordB && decide (2 ≤ (hparts t).length) && decide ((hparts t).length ≤ 4)))) := rfl
  clear hb0 hm
  by_cases h60 : 60 < (t.size : Int)
  · have HB : Hid (wantB k t = false) := by unfold Hid; rw [HWN.out, decide_eq_false (by omega)]; rfl
    go_enter Tryd.func64, Tryd.ntmps64
    go_wp2
    go_ret
    exact ⟨ret_bool HB.out.symm, HB0.out⟩
  have h60d : decide (60 < (t.size : Int)) = false := by simpa using h60
  rw [decide_eq_true (by omega : (t.size : Int) ≤ 60), Bool.true_and] at HWN
  by_cases hk2 : k = 2
  · subst hk2
    rw [if_pos rfl] at HWN
    cases hw : isWordB t with
    | false =>
      have HB : Hid (wantB 2 t = false) := by unfold Hid; rw [HWN.out, hw]; rfl
      go_enter Tryd.func64, Tryd.ntmps64
      go_wp2_with fail
      refine (isWord_any t _ (by omega)).mono ?_
      rintro e w1 ⟨rfl, rfl⟩
      rw [hw]
      go_wp2
      go_ret
      exact ⟨ret_bool HB.out.symm, HB0.out⟩
    | true =>
      go_enter Tryd.func64, Tryd.ntmps64
      go_wp2_with fail
      refine (isWord_any t _ (by omega)).mono ?_
      rintro e w1 ⟨rfl, rfl⟩
      rw [hw]
      go_wp2_with fail
      refine (stemI_any t _ (by unfold maxLen; omega)).mono ?_
      rintro e w2 ⟨rfl, hb2⟩
      have HB2 : Hid (Below w.heap.size w w2) := HB0.out.trans (hb2.mono HB0.out.size)
      have HE : Hid (wantB 2 t = !(stemA t).toList.isEmpty) := by unfold Hid; rw [HWN.out, hw]; rfl
      clear hb2 HB0 B0 hm0 HWN
      generalize stemA t = st at *
      cases he : st.toList.isEmpty
      all_goals
        rw [he] at HE
        go_wp2
        go_ret
        exact ⟨ret_bool HE.out.symm, HB2.out⟩
  · rw [if_neg hk2] at HWN
    have hk2b : (k == 2) = false := beq_eq_false_iff_ne.2 hk2
    by_cases hk4 : k = 4
    · subst hk4
      rw [if_pos rfl] at HWN
      cases hw : isWordB t with
      | false =>
        have HB : Hid (wantB 4 t = false) := by unfold Hid; rw [HWN.out, hw]; rfl
        go_enter Tryd.func64, Tryd.ntmps64
        go_wp2
        go_quiet ((go_at_call 60; exact Calls.quiet_of_same (isWord_is t false hw (by omega) _)))
        go_wp2
        go_ret
        exact ⟨ret_bool HB.out.symm, below_drewN HB0.out nq⟩
      | true =>
        by_cases h12 : (t.size : Int) ≤ 12
        · have HE : Hid (wantB 4 t = foldEq t) := by unfold Hid; rw [HWN.out, hw, decide_eq_true h12]; rfl
          have HFE : Hid (foldEq t = ((foldA t).toList == t.toList)) := rfl
          go_enter Tryd.func64, Tryd.ntmps64
          go_wp2
          generalize w.alloc (.cells #[.int .i64 4, .string f, .string t, .int .i64 lo, .int .i64 hi, .slice p n c] 29) = wa at *
          have hlt0 := B0.lt
          have b2 := B0.cell 2
          simp at b2
          go_region_held3 (fun wx => wx.cell? ⟨w.heap.size, 2, none⟩ = some (.string t)) (first | go_keep | assumption) (first
            | (go_at_call 60; refine (isWord_is t true hw (by omega) _).mono ?_; rintro e w1 ⟨rfl, rfl⟩)
            | (go_at_call 86; refine (foldI_any t _ (by unfold maxLen; omega)).mono ?_; rintro e w2 ⟨rfl, hb2⟩; have hc2 : w2.cell? ⟨w.heap.size, 2, none⟩ = some (.string t) := (hb2.cell (p := ⟨w.heap.size, 2, none⟩) (by simpa using hlt0)).trans (by simpa using b2)))
          all_goals
            have HB2 : Hid (Below w.heap.size w w2) := HB0.out.trans ((⟨hb2.os, hb2.tape, hb2.output, hb2.size, hb2.block⟩ : Below wa.heap.size wa w2).mono HB0.out.size)
            clear hb2 B0 hc2 b2
            go_wp2
            go_ret
            exact ⟨ret_bool (by rw [HE.out]; exact HFE.out.symm), HB2.out⟩
        · have HB : Hid (wantB 4 t = false) := by unfold Hid; rw [HWN.out, decide_eq_false h12]; simp
          have h12d : decide ((t.size : Int) ≤ 12) = false := decide_eq_false h12
          go_enter Tryd.func64, Tryd.ntmps64
          go_wp2
          go_quiet ((go_at_call 60; exact Calls.quiet_of_same (isWord_is t true hw (by omega) _)))
          go_wp2
          go_ret
          exact ⟨ret_bool HB.out.symm, below_drewN HB0.out nq⟩
    · rw [if_neg hk4] at HWN
      have hk4b : (k == 4) = false := beq_eq_false_iff_ne.2 hk4
      have hlen : (hparts t).length = manyB 32 t + 1 := cuts_full_len 32 t
      have hmn := manyB_le 32 t
      have HSZ : Hid (∀ i, i < (hparts t).length → (pat (hparts t) i).size ≤ 1048576) := fun i hi => by have := pat_size 32 (manyB 32 t) t i hi; unfold hparts; omega
      have HSP : Hid (∀ w, MaxL w → Calls Tryd.prog 92 #[.string t, .string ⟨#[32]⟩] w fun e w' => ∃ g, e = .returned (.slice (some ⟨g, 0, none⟩) (manyB 32 t + 1) (manyB 32 t + 1)) ∧ StrRow w' (some ⟨g, 0, none⟩) (cuts 32 (manyB 32 t) t) ∧ Below w.heap.size w w') := fun w hm => split_any t 32 w hs hm
      obtain ⟨ps, hps⟩ : ∃ ps, hparts t = ps := ⟨_, rfl⟩
      have HPS : Hid (cuts 32 (manyB 32 t) t = ps) := hps
      rw [hps] at HWN hlen HSZ
      rw [HPS.out] at HSP
      rw [← hlen] at HSP
      have hpl : ps.length ≤ 61 := by omega
      clear hlen hmn hps HPS
      go_enter Tryd.func64, Tryd.ntmps64
      go_wp2_with fail
      refine (HSP.out _ hm0).mono ?_
      rintro e w2 ⟨g, rfl, hrow, hb2⟩
      have HB2 : Hid (Below w.heap.size w w2) := HB0.out.trans (hb2.mono HB0.out.size)
      have HR : Hid (StrRow w2 (some ⟨g, 0, none⟩) ps) := hrow
      clear HSP hm0 hb2 hrow B0 HB0
      go_wp2
      go_loop [47] (fun i => ∃ k : Nat, k ≤ ps.length ∧ i = .int .i64 k ∧ allTo (fun j => isWordB (pat ps j)) k = true) (fun i => ps.length - (intOf i).toNat)
      case atStart => exact ⟨0, Nat.zero_le _, rfl, rfl⟩
      case round =>
        obtain ⟨j, hj, rfl, ha⟩ := hrel
        have HA : Hid (allTo (fun j => isWordB (pat ps j)) j = true) := ha
        clear ha
        by_cases hlt : j < ps.length
        · have hks : (j : Int) < (ps.length : Int) := by omega
          obtain ⟨g', e, hg, hc⟩ := HR.out (by omega)
          cases e
          have c1 : w2.cell? ⟨g, j, none⟩ = some (.string (pat ps j)) := hc j hlt
          have hz := HSZ.out j hlt
          have HNO : Hid (isWordB (pat ps j) = false → ps.all isWordB = false) := fun h => by
            rw [List.all_eq_false]
            exact ⟨ps[j], List.getElem_mem _, by rw [← pat_get _ _ hlt, h]; decide⟩
          have HYS : Hid (isWordB (pat ps j) = true → allTo (fun j => isWordB (pat ps j)) (j + 1) = true) := fun h => allTo_snoc _ j HA.out h
          clear hc
          generalize pat ps j = q at *
          go_wp2_with fail
          refine (isWord_any q _ (by omega)).mono ?_
          rintro e _ ⟨rfl, rfl⟩
          cases hb : isWordB q with
          | false =>
            have HB : Hid (wantB k t = false) := by unfold Hid; rw [HWN.out, HNO.out hb]; rfl
            go_wp2
            go_ret
            exact ⟨ret_bool HB.out.symm, HB2.out⟩
          | true =>
            have HYH : Hid (allTo (fun j => isWordB (pat ps j)) (j + 1) = true) := HYS.out hb
            go_wp2
            go_round
            case rel => exact ⟨j + 1, by omega, by go_num, HYH.out⟩
            case measure => simp [intOf]; omega
        · have hkl : j = ps.length := by omega
          have hall : ps.all isWordB = true := by
            rw [List.all_eq_true]
            intro x hx
            obtain ⟨i, hi, rfl⟩ := List.getElem_of_mem hx
            have := (allTo_iff _ _).1 HA.out i (by omega)
            rw [← pat_get _ _ hi]
            exact this
          rw [hall, Bool.true_and] at HWN
          subst hkl
          clear hall
          by_cases h2 : 2 ≤ ps.length
          · have h2i : (2 : Int) ≤ (ps.length : Int) := by omega
            rw [decide_eq_true h2, Bool.true_and] at HWN
            by_cases h4 : ps.length ≤ 4
            · have h4i : (ps.length : Int) ≤ 4 := by omega
              rw [decide_eq_true h4] at HWN
              go_wp2
              go_ret
              exact ⟨ret_bool HWN.out.symm, HB2.out⟩
            · have h4i : decide ((ps.length : Int) ≤ 4) = false := decide_eq_false (by omega)
              rw [decide_eq_false h4] at HWN
              go_wp2
              go_ret
              exact ⟨ret_bool HWN.out.symm, HB2.out⟩
          · have h2i : decide ((2 : Int) ≤ (ps.length : Int)) = false := decide_eq_false (by omega)
            rw [decide_eq_false h2, Bool.false_and] at HWN
            go_wp2
            go_ret
            exact ⟨ret_bool HWN.out.symm, HB2.out⟩
end Go.Proofs.YtfakoalkbcnejaaDoor

/- impl.QueryOk. -/
namespace Go.Proofs.YtfakoalkbcnejaaDoor
open Go.RowKit
set_option linter.unusedVariables false

def partsB (least most : Nat) (d : Nat) (ps : List Qy) : Bool := decide (least ≤ ps.length) && decide (ps.length ≤ most) && allTo (fun i => qformB d (qat ps i)) ps.length
theorem zero_no {lo hi : Int} (h : zeroB lo hi = false) : (lo == 0) = false ∨ (lo = 0 ∧ (hi == 0) = false) := by
  unfold zeroB at h
  cases h1 : (lo == 0) with
  | false => exact .inl rfl
  | true =>
    rw [h1, Bool.true_and] at h
    exact .inr ⟨by simpa using h1, h⟩
theorem form_nz {d : Nat} {k : Int} {f t : ByteArray} {lo hi : Int} {ps : List Qy} (h5 : k ≠ 5) (hz : zeroB lo hi = false) : qformB (d + 1) (.mk k f t lo hi ps) = false := by
  show (if ps.length = 0 then leafB k f t lo hi else manyPartsB k f t lo hi ps.length && _) = false
  unfold leafB manyPartsB
  rw [hz]
  simp [h5]
theorem form_1 {d : Nat} {f t : ByteArray} {ps : List Qy} {k : Int} (hk : k = 1) : qformB (d + 1) (.mk k f t 0 0 ps) = (f.toList.isEmpty && t.toList.isEmpty && decide (ps.length = 0)) := by
  subst hk
  show (if ps.length = 0 then leafB 1 f t 0 0 else manyPartsB 1 f t 0 0 ps.length && _) = _
  by_cases hn : ps.length = 0
  · rw [if_pos hn]; simp [leafB, zeroB, noB, hn]
  · rw [if_neg hn]; simp [manyPartsB, hn]
theorem form_234 {d : Nat} {k : Int} {f t : ByteArray} {ps : List Qy} (hk : k = 2 ∨ k = 3 ∨ k = 4) : qformB (d + 1) (.mk k f t 0 0 ps) = ((f.toList.isEmpty || nameI f) && wantB k t && decide (ps.length = 0)) := by
  show (if ps.length = 0 then leafB k f t 0 0 else manyPartsB k f t 0 0 ps.length && _) = _
  by_cases hn : ps.length = 0
  · rw [if_pos hn]
    unfold leafB
    rw [if_neg (by omega), if_pos hk]
    simp [zeroB, noB, hn]
  · rw [if_neg hn]
    unfold manyPartsB
    rw [if_neg (by omega), if_neg (by omega)]
    simp [hn]
theorem form_5 {d : Nat} {f t : ByteArray} {lo hi : Int} {ps : List Qy} {k : Int} (hk : k = 5) : qformB (d + 1) (.mk k f t lo hi ps) = (nameI f && t.toList.isEmpty && bdB lo && bdB hi && decide (ps.length = 0)) := by
  subst hk
  show (if ps.length = 0 then leafB 5 f t lo hi else manyPartsB 5 f t lo hi ps.length && _) = _
  by_cases hn : ps.length = 0
  · rw [if_pos hn]; simp [leafB, noB, hn]
  · rw [if_neg hn]; simp [manyPartsB, hn]
theorem form_6 {d : Nat} {f t : ByteArray} {ps : List Qy} {k : Int} (hk : k = 6) : qformB (d + 1) (.mk k f t 0 0 ps) = (nameI f && nameI t && decide (ps.length = 0)) := by
  subst hk
  show (if ps.length = 0 then leafB 6 f t 0 0 else manyPartsB 6 f t 0 0 ps.length && _) = _
  by_cases hn : ps.length = 0
  · rw [if_pos hn]; simp [leafB, zeroB, hn]
  · rw [if_neg hn]; simp [manyPartsB, hn]
theorem form_78 {d : Nat} {k : Int} {f t : ByteArray} {ps : List Qy} (hk : k = 7 ∨ k = 8) : qformB (d + 1) (.mk k f t 0 0 ps) = (f.toList.isEmpty && t.toList.isEmpty && partsB 2 4 d ps) := by
  show (if ps.length = 0 then leafB k f t 0 0 else manyPartsB k f t 0 0 ps.length && allTo (fun i => qformB d (qat ps i)) ps.length) = _
  unfold partsB
  by_cases hn : ps.length = 0
  · rw [if_pos hn, hn]
    unfold leafB
    rw [if_neg (by omega), if_neg (by omega), if_neg (by omega), if_neg (by omega)]
    simp
  · rw [if_neg hn]
    unfold manyPartsB
    rw [if_pos hk]
    simp only [zeroB, noB]
    cases f.toList.isEmpty <;> cases t.toList.isEmpty <;> simp
theorem form_9 {d : Nat} {f t : ByteArray} {ps : List Qy} {k : Int} (hk : k = 9) : qformB (d + 1) (.mk k f t 0 0 ps) = (f.toList.isEmpty && t.toList.isEmpty && partsB 1 1 d ps) := by
  subst hk
  show (if ps.length = 0 then leafB 9 f t 0 0 else manyPartsB 9 f t 0 0 ps.length && allTo (fun i => qformB d (qat ps i)) ps.length) = _
  unfold partsB
  by_cases hn : ps.length = 0
  · rw [if_pos hn, hn]; simp [leafB]
  · rw [if_neg hn]
    have e : (ps.length == 1) = (decide (1 ≤ ps.length) && decide (ps.length ≤ 1)) := by
      rw [Bool.eq_iff_iff]
      simp
      omega
    unfold manyPartsB
    rw [if_neg (by decide), if_pos rfl, e]
    simp only [zeroB, noB]
    cases f.toList.isEmpty <;> cases t.toList.isEmpty <;> simp
theorem form_none {d : Nat} {k : Int} {f t : ByteArray} {lo hi : Int} {ps : List Qy} (hk : k < 1 ∨ 9 < k) : qformB (d + 1) (.mk k f t lo hi ps) = false := by
  show (if ps.length = 0 then leafB k f t lo hi else manyPartsB k f t lo hi ps.length && _) = false
  have h1 : leafB k f t lo hi = false := by
    unfold leafB
    rw [if_neg (by omega), if_neg (by omega), if_neg (by omega), if_neg (by omega)]
  have h2 : ∀ n, manyPartsB k f t lo hi n = false := fun n => by
    unfold manyPartsB
    rw [if_neg (by omega), if_neg (by omega)]
    rfl
  rw [h1, h2]
  simp
theorem boundOk_any (x : Int) (w : World) : Calls Tryd.prog 65 #[.int .i64 x] w fun e w' => e = .returned (.bool (bdB x)) ∧ w' = w := by
  have HB : Hid (bdB x = (decide (-999999999 ≤ x) && decide (x ≤ 999999999))) := rfl
  cases h1 : decide (-999999999 ≤ x)
  all_goals
    rw [h1] at HB
    go_enter Tryd.func65, Tryd.ntmps65
    go_wp2
    go_ret
    exact ⟨by rw [HB.out]; rfl, rfl⟩
/-- impl.formOk, d deep. -/
def FormI (d : Nat) : Prop := ∀ (k : Int) (f t : ByteArray) (lo hi : Int) (ps : List Qy) (a : Option Addr) (c D : Nat) (w : World), QAt w 0 D a ps → QSz 1048576 D ps → f.size ≤ 1048576 → t.size ≤ 1048576 → MaxL w →
  Calls Tryd.prog 36 #[.agg #[.int .i64 k, .string f, .string t, .int .i64 lo, .int .i64 hi, .slice a ps.length c], .int .i64 (d : Nat)] w fun e w' => e = .returned (.bool (qformB d (.mk k f t lo hi ps))) ∧ Below w.heap.size w w'
def PartsI (d : Nat) : Prop := ∀ (ps : List Qy) (a : Option Addr) (c D least most : Nat) (w : World), QAt w 0 D a ps → QSz 1048576 D ps → least ≤ 10 → most ≤ 10 → MaxL w →
  Calls Tryd.prog 66 #[.slice a ps.length c, .int .i64 (least : Nat), .int .i64 (most : Nat), .int .i64 (d : Nat)] w fun e w' => e = .returned (.bool (partsB least most d ps)) ∧ Below w.heap.size w w'
set_option maxRecDepth 100000 in
theorem formI_zero : FormI 0 := by
  intro k f t lo hi ps a c D w _ _ _ _ _
  have HF : Hid (qformB 0 (.mk k f t lo hi ps) = false) := rfl
  go_enter Tryd.func36, Tryd.ntmps36
  go_wp2
  go_ret
  exact ⟨ret_bool HF.out.symm, (Below.refl _ w).alloc (Nat.le_refl _) _⟩
set_option maxRecDepth 100000 in
set_option maxHeartbeats 2000000 in
theorem partsI_of {d : Nat} (hd : d ≤ 4) (hF : FormI d) : PartsI d := by
  intro ps a cap D least most w ha hsz hl hm hmx
  have HF : Hid (FormI d) := hF
  have HA : Hid (∀ wx, Below w.heap.size w wx → QAt wx 0 D a ps) := fun wx h => ha.below h
  have HM : Hid (∀ wx, Below w.heap.size w wx → MaxL wx) := fun wx h => hmx.below h
  have hz := hsz.len
  have HS : Hid (QSz 1048576 D ps) := hsz
  have HB : Hid (partsB least most d ps = (decide (least ≤ ps.length) && decide (ps.length ≤ most) && allTo (fun i => qformB d (qat ps i)) ps.length)) := rfl
  clear ha hsz hF hmx
  by_cases h1 : ps.length < least
  · have h1i : (ps.length : Int) < (least : Int) := by omega
    rw [decide_eq_false (by omega : ¬ least ≤ ps.length)] at HB
    go_enter Tryd.func66, Tryd.ntmps66
    go_wp2
    go_ret
    exact ⟨ret_bool (by rw [HB.out]; rfl), Below.refl _ _⟩
  have h1i : decide ((ps.length : Int) < (least : Int)) = false := decide_eq_false (by omega)
  have h1n : decide (ps.length < least) = false := decide_eq_false h1
  by_cases h2 : most < ps.length
  · have h2i : (most : Int) < (ps.length : Int) := by omega
    rw [decide_eq_true (by omega : least ≤ ps.length), decide_eq_false (by omega : ¬ ps.length ≤ most)] at HB
    go_enter Tryd.func66, Tryd.ntmps66
    go_wp2
    go_ret
    exact ⟨ret_bool (by rw [HB.out]; rfl), Below.refl _ _⟩
  have h2i : decide ((most : Int) < (ps.length : Int)) = false := decide_eq_false (by omega)
  have h2n : decide (most < ps.length) = false := decide_eq_false h2
  rw [decide_eq_true (by omega : least ≤ ps.length), decide_eq_true (by omega : ps.length ≤ most), Bool.true_and, Bool.true_and] at HB
  go_enter Tryd.func66, Tryd.ntmps66
  go_wp2
  go_loopw [23] (fun i wr => ∃ j : Nat, j ≤ ps.length ∧ i = .int .i64 j ∧ allTo (fun i => qformB d (qat ps i)) j = true ∧ Below w.heap.size w wr) (fun i _ => ps.length - (intOf i).toNat)
  case atStart => exact ⟨0, Nat.zero_le _, rfl, rfl, Below.refl _ _⟩
  case round =>
    obtain ⟨j, hj, rfl, hall, hbel⟩ := hrel
    have HAL : Hid (allTo (fun i => qformB d (qat ps i)) j = true) := hall
    clear hall
    by_cases hlt : j < ps.length
    · have hji : (j : Int) < (ps.length : Int) := by omega
      obtain ⟨D', hD⟩ : ∃ D', D = D' + 1 := by
        cases D with
        | zero =>
          have e : ps = [] := HS.out
          rw [e] at hlt
          exact absurd hlt (by simp)
        | succ D' => exact ⟨D', rfl⟩
      subst hD
      obtain ⟨g, off, rfl, _, hg, hc⟩ := (HA.out wr hbel) (by omega)
      obtain ⟨p, c, ⟨c0, c1, c2, c3, c4, c5⟩, hq⟩ := hc j hlt
      obtain ⟨s1, s2, s3⟩ := HS.out.2 j hlt
      have HNO : Hid (qformB d (qat ps j) = false → allTo (fun i => qformB d (qat ps i)) ps.length = false) := fun h => allTo_false _ _ j hlt h
      have HYS : Hid (qformB d (qat ps j) = true → allTo (fun i => qformB d (qat ps i)) (j + 1) = true) := fun h => allTo_snoc _ j HAL.out h
      have hqe := Qy.eta (qat ps j)
      generalize qat ps j = q at *
      obtain ⟨kd, f, t, lo, hi', pp⟩ := q
      simp only [Qy.kind, Qy.field, Qy.text, Qy.low, Qy.high, Qy.parts] at c0 c1 c2 c3 c4 c5 hq s1 s2 s3
      have hba : Below wr.heap.size wr (wr.alloc (.cells #[.int .i64 kd, .string f, .string t, .int .i64 lo, .int .i64 hi', .slice p pp.length c] 29)) := (Below.refl _ wr).alloc (Nat.le_refl _) _
      have hqa := hq.below hba
      have hma := HM.out _ (hbel.trans (hba.mono hbel.size))
      have hwa := hbel.trans (hba.mono hbel.size)
      clear hc hqe
      go_wp2_with fail
      refine (HF.out kd f t lo hi' pp p c D' _ hqa s3 s1 s2 hma).mono ?_
      rintro e w2 ⟨rfl, hb2⟩
      have hw2 := hwa.trans (hb2.mono hwa.size)
      clear c0 c1 c2 c3 c4 c5 hq hba hqa hma hwa hb2 hbel
      cases hb : qformB d (.mk kd f t lo hi' pp) with
      | false =>
        have HR : Hid (partsB least most d ps = false) := by unfold Hid; rw [HB.out]; exact HNO.out hb
        clear HNO HYS
        go_wp2
        go_ret
        exact ⟨ret_bool HR.out.symm, hw2⟩
      | true =>
        have HY : Hid (allTo (fun i => qformB d (qat ps i)) (j + 1) = true) := HYS.out hb
        clear HNO HYS
        go_wp2
        go_roundw
        case rel => exact ⟨j + 1, by omega, by go_num, HY.out, hw2⟩
        case measure => simp [intOf]; omega
    · have hjl : j = ps.length := by omega
      subst hjl
      have HR : Hid (partsB least most d ps = true) := by unfold Hid; rw [HB.out]; exact HAL.out
      go_wp2
      go_ret
      exact ⟨ret_bool HR.out.symm, hbel⟩
set_option maxRecDepth 100000 in
set_option maxHeartbeats 8000000 in
theorem formI_of {d : Nat} (hd : d ≤ 3) (hP : PartsI d) : FormI (d + 1) := by
  intro k f t lo hi ps a c D w ha hsz hfs hts hm
  have HP : Hid (PartsI d) := hP
  have hb0 : Below w.heap.size w (w.alloc (.cells #[.int .i64 k, .string f, .string t, .int .i64 lo, .int .i64 hi, .slice a ps.length c] 29)) := (Below.refl _ w).alloc (Nat.le_refl _) _
  have HB0 : Hid (Below w.heap.size w (w.alloc (.cells #[.int .i64 k, .string f, .string t, .int .i64 lo, .int .i64 hi, .slice a ps.length c] 29))) := hb0
  have B0 := Blk.new w #[.int .i64 k, .string f, .string t, .int .i64 lo, .int .i64 hi, .slice a ps.length c] 29
  have ha0 := ha.below hb0
  have hm0 := hm.below hb0
  have hd0 : (((d + 1 : Nat) : Int) == 0) = false := beq_eq_false_iff_ne.2 (by omega)
  have hd1 : ((d : Int) + 1 == 0) = false := beq_eq_false_iff_ne.2 (by omega)
  have hz := hsz.len
  clear ha hm hb0 hP
  by_cases h5 : k = 5
  · have HB := form_5 (d := d) (f := f) (t := t) (lo := lo) (hi := hi) (ps := ps) h5
    have HBH : Hid (qformB (d + 1) (.mk k f t lo hi ps) = (nameI f && t.toList.isEmpty && bdB lo && bdB hi && decide (ps.length = 0))) := HB
    clear HB
    subst h5
    have hk0 := hm0
    clear hm0 HP ha0
    go_enter Tryd.func36, Tryd.ntmps36
    go_wp2_with fail
    refine (nameI_any f _ (by unfold maxLen; omega)).mono ?_
    rintro e w1 ⟨rfl, rfl⟩
    cases hnf : nameI f
    all_goals rw [hnf] at HBH
    · go_wp2
      go_ret
      exact ⟨ret_bool (by rw [HBH.out]; rfl), HB0.out⟩
    · cases ht : t.toList.isEmpty
      all_goals rw [ht] at HBH
      · go_wp2
        go_ret
        exact ⟨ret_bool (by rw [HBH.out]; rfl), HB0.out⟩
      · go_wp2_with fail
        refine (boundOk_any lo _).mono ?_
        rintro e w2 ⟨rfl, rfl⟩
        cases hlo : bdB lo
        all_goals rw [hlo] at HBH
        · go_wp2
          go_ret
          exact ⟨ret_bool (by rw [HBH.out]; rfl), HB0.out⟩
        · go_wp2_with fail
          refine (boundOk_any hi _).mono ?_
          rintro e w2 ⟨rfl, rfl⟩
          cases hhi : bdB hi
          all_goals rw [hhi] at HBH
          · go_wp2
            go_ret
            exact ⟨ret_bool (by rw [HBH.out]; rfl), HB0.out⟩
          · by_cases hn : ps.length = 0
            all_goals
              have hnb : ((ps.length : Int) == 0) = decide (ps.length = 0) := by rw [Bool.eq_iff_iff]; simp
              first | rw [decide_eq_true hn] at HBH hnb | rw [decide_eq_false hn] at HBH hnb
              clear hn
              go_wp2
              go_ret
              exact ⟨ret_bool (by rw [HBH.out]; rfl), HB0.out⟩
  have h5b : (k == 5) = false := beq_eq_false_iff_ne.2 h5
  have h5c : (k != 5) = true := bne_iff_ne.2 h5
  cases hz : zeroB lo hi with
  | false =>
    have HF : Hid (qformB (d + 1) (.mk k f t lo hi ps) = false) := form_nz h5 hz
    rcases zero_no hz with h1 | ⟨rfl, h1⟩
    · have h1c : (lo != 0) = true := by rw [bne, h1]; rfl
      go_enter Tryd.func36, Tryd.ntmps36
      go_wp2
      go_ret
      exact ⟨ret_bool HF.out.symm, HB0.out⟩
    · have h1c : (hi != 0) = true := by rw [bne, h1]; rfl
      go_enter Tryd.func36, Tryd.ntmps36
      go_wp2
      go_ret
      exact ⟨ret_bool HF.out.symm, HB0.out⟩
  | true =>
    obtain ⟨rfl, rfl⟩ : lo = 0 ∧ hi = 0 := by unfold zeroB at hz; simpa using hz
    clear hz
    by_cases h1 : k = 1
    · have HBH : Hid (qformB (d + 1) (.mk k f t 0 0 ps) = (f.toList.isEmpty && t.toList.isEmpty && decide (ps.length = 0))) := form_1 h1
      subst h1
      cases hf : f.toList.isEmpty
      all_goals cases ht : t.toList.isEmpty
      all_goals by_cases hn : ps.length = 0
      all_goals
        have hnb : ((ps.length : Int) == 0) = decide (ps.length = 0) := by rw [Bool.eq_iff_iff]; simp
        rw [hf, ht] at HBH
        first | rw [decide_eq_true hn] at HBH hnb | rw [decide_eq_false hn] at HBH hnb
        clear hn
        go_enter Tryd.func36, Tryd.ntmps36
        go_wp2
        go_ret
        exact ⟨ret_bool (by rw [HBH.out]; rfl), HB0.out⟩
    have h1b : (k == 1) = false := beq_eq_false_iff_ne.2 h1
    by_cases h2 : k = 2 ∨ k = 3 ∨ k = 4
    · have HBH : Hid (qformB (d + 1) (.mk k f t 0 0 ps) = ((f.toList.isEmpty || nameI f) && wantB k t && decide (ps.length = 0))) := form_234 h2
      have hsw : ∀ k', k = k' → Calls Tryd.prog 64 #[.agg #[.int .i64 k', .string f, .string t, .int .i64 0, .int .i64 0, .slice a ps.length c]] (w.alloc (.cells #[.int .i64 k', .string f, .string t, .int .i64 0, .int .i64 0, .slice a ps.length c] 29)) fun e w' => e = .returned (.bool (wantB k t)) ∧ Below (w.alloc (.cells #[.int .i64 k', .string f, .string t, .int .i64 0, .int .i64 0, .slice a ps.length c] 29)).heap.size (w.alloc (.cells #[.int .i64 k', .string f, .string t, .int .i64 0, .int .i64 0, .slice a ps.length c] 29)) w' := fun k' e => by
        subst e
        exact soughtOk_any k f t 0 0 a ps.length c _ hts hm0
      generalize wantB k t = bw at *
      clear HP ha0 hm0 h5 h5b h5c h1 h1b
      rcases h2 with rfl | rfl | rfl
      all_goals
        have HSW := hsw _ rfl
        clear hsw
        cases hf : f.toList.isEmpty
        all_goals rw [hf] at HBH
        · go_enter Tryd.func36, Tryd.ntmps36
          go_wp2_with fail
          refine (nameI_any f _ (by unfold maxLen; omega)).mono ?_
          rintro e w1 ⟨rfl, rfl⟩
          cases hnf : nameI f
          all_goals rw [hnf] at HBH
          · go_wp2
            go_ret
            exact ⟨ret_bool (by rw [HBH.out]; rfl), HB0.out⟩
          · go_wp2_with fail
            refine HSW.mono ?_
            rintro e w2 ⟨rfl, hb2⟩
            have B2 := B0.below hb2 B0.lt
            have HW2 : Hid (Below w.heap.size w w2) := HB0.out.trans (hb2.mono HB0.out.size)
            have b5 := B2.cell 5
            simp at b5
            clear hb2 B0 B2 HSW HB0
            cases bw
            · go_wp2
              go_ret
              exact ⟨ret_bool (by rw [HBH.out]; rfl), HW2.out⟩
            · by_cases hn : ps.length = 0
              all_goals
                have hnb : ((ps.length : Int) == 0) = decide (ps.length = 0) := by rw [Bool.eq_iff_iff]; simp
                first | rw [decide_eq_true hn] at HBH hnb | rw [decide_eq_false hn] at HBH hnb
                clear hn
                go_wp2
                go_ret
                exact ⟨ret_bool (by rw [HBH.out]; rfl), HW2.out⟩
        · go_enter Tryd.func36, Tryd.ntmps36
          go_wp2_with fail
          refine HSW.mono ?_
          rintro e w2 ⟨rfl, hb2⟩
          have B2 := B0.below hb2 B0.lt
          have HW2 : Hid (Below w.heap.size w w2) := HB0.out.trans (hb2.mono HB0.out.size)
          have b5 := B2.cell 5
          simp at b5
          clear hb2 B0 B2 HSW HB0
          cases bw
          · go_wp2
            go_ret
            exact ⟨ret_bool (by rw [HBH.out]; rfl), HW2.out⟩
          · by_cases hn : ps.length = 0
            all_goals
              have hnb : ((ps.length : Int) == 0) = decide (ps.length = 0) := by rw [Bool.eq_iff_iff]; simp
              first | rw [decide_eq_true hn] at HBH hnb | rw [decide_eq_false hn] at HBH hnb
              clear hn
              go_wp2
              go_ret
              exact ⟨ret_bool (by rw [HBH.out]; rfl), HW2.out⟩
    have h2b : (k == 2) = false := beq_eq_false_iff_ne.2 (by omega)
    have h3b : (k == 3) = false := beq_eq_false_iff_ne.2 (by omega)
    have h4b : (k == 4) = false := beq_eq_false_iff_ne.2 (by omega)
    by_cases h6 : k = 6
    · have HBH : Hid (qformB (d + 1) (.mk k f t 0 0 ps) = (nameI f && nameI t && decide (ps.length = 0))) := form_6 h6
      subst h6
      clear HP ha0 hm0 h5 h5b h5c h1 h1b h2 h2b h3b h4b
      go_enter Tryd.func36, Tryd.ntmps36
      go_wp2_with fail
      refine (nameI_any f _ (by unfold maxLen; omega)).mono ?_
      rintro e w1 ⟨rfl, rfl⟩
      cases hnf : nameI f
      all_goals rw [hnf] at HBH
      · go_wp2
        go_ret
        exact ⟨ret_bool (by rw [HBH.out]; rfl), HB0.out⟩
      · go_wp2_with fail
        refine (nameI_any t _ (by unfold maxLen; omega)).mono ?_
        rintro e w1 ⟨rfl, rfl⟩
        cases hnt : nameI t
        all_goals rw [hnt] at HBH
        · go_wp2
          go_ret
          exact ⟨ret_bool (by rw [HBH.out]; rfl), HB0.out⟩
        · by_cases hn : ps.length = 0
          all_goals
            have hnb : ((ps.length : Int) == 0) = decide (ps.length = 0) := by rw [Bool.eq_iff_iff]; simp
            first | rw [decide_eq_true hn] at HBH hnb | rw [decide_eq_false hn] at HBH hnb
            clear hn
            go_wp2
            go_ret
            exact ⟨ret_bool (by rw [HBH.out]; rfl), HB0.out⟩
    have h6b : (k == 6) = false := beq_eq_false_iff_ne.2 h6
    by_cases h7 : k = 7 ∨ k = 8
    · have HBH : Hid (qformB (d + 1) (.mk k f t 0 0 ps) = (f.toList.isEmpty && t.toList.isEmpty && partsB 2 4 d ps)) := form_78 h7
      have hpw : ∀ wx, QAt wx 0 D a ps → MaxL wx → Calls Tryd.prog 66 #[.slice a ps.length c, .int .i64 2, .int .i64 4, .int .i64 (d : Nat)] wx fun e w' => e = .returned (.bool (partsB 2 4 d ps)) ∧ Below wx.heap.size wx w' := fun wx h1 h2 => HP.out ps a c D 2 4 wx h1 hsz (by omega) (by omega) h2
      generalize partsB 2 4 d ps = bp at *
      clear HP h5 h5b h5c h1 h1b h2 h2b h3b h4b h6 h6b
      rcases h7 with rfl | rfl
      all_goals
        have HPW := hpw _ ha0 hm0
        clear hpw ha0 hm0
        cases hf : f.toList.isEmpty
        all_goals rw [hf] at HBH
        · go_enter Tryd.func36, Tryd.ntmps36
          go_wp2
          go_ret
          exact ⟨ret_bool (by rw [HBH.out]; rfl), HB0.out⟩
        · cases ht : t.toList.isEmpty
          all_goals rw [ht] at HBH
          · go_enter Tryd.func36, Tryd.ntmps36
            go_wp2
            go_ret
            exact ⟨ret_bool (by rw [HBH.out]; rfl), HB0.out⟩
          · go_enter Tryd.func36, Tryd.ntmps36
            go_wp2_with fail
            refine HPW.mono ?_
            rintro e w2 ⟨rfl, hb2⟩
            have HW2 : Hid (Below w.heap.size w w2) := HB0.out.trans (hb2.mono HB0.out.size)
            clear hb2 B0 HPW HB0
            go_wp2
            go_ret
            exact ⟨ret_bool (by rw [HBH.out]; rfl), HW2.out⟩
    have h7b : (k == 7) = false := beq_eq_false_iff_ne.2 (by omega)
    have h8b : (k == 8) = false := beq_eq_false_iff_ne.2 (by omega)
    by_cases h9 : k = 9
    · have HBH : Hid (qformB (d + 1) (.mk k f t 0 0 ps) = (f.toList.isEmpty && t.toList.isEmpty && partsB 1 1 d ps)) := form_9 h9
      have hpw : ∀ wx, QAt wx 0 D a ps → MaxL wx → Calls Tryd.prog 66 #[.slice a ps.length c, .int .i64 1, .int .i64 1, .int .i64 (d : Nat)] wx fun e w' => e = .returned (.bool (partsB 1 1 d ps)) ∧ Below wx.heap.size wx w' := fun wx h1 h2 => HP.out ps a c D 1 1 wx h1 hsz (by omega) (by omega) h2
      generalize partsB 1 1 d ps = bp at *
      subst h9
      have HPW := hpw _ ha0 hm0
      clear hpw ha0 hm0 HP h5 h5b h5c h1 h1b h2 h2b h3b h4b h6 h6b h7 h7b h8b
      cases hf : f.toList.isEmpty
      all_goals rw [hf] at HBH
      · go_enter Tryd.func36, Tryd.ntmps36
        go_wp2
        go_ret
        exact ⟨ret_bool (by rw [HBH.out]; rfl), HB0.out⟩
      · cases ht : t.toList.isEmpty
        all_goals rw [ht] at HBH
        · go_enter Tryd.func36, Tryd.ntmps36
          go_wp2
          go_ret
          exact ⟨ret_bool (by rw [HBH.out]; rfl), HB0.out⟩
        · go_enter Tryd.func36, Tryd.ntmps36
          go_wp2_with fail
          refine HPW.mono ?_
          rintro e w2 ⟨rfl, hb2⟩
          have HW2 : Hid (Below w.heap.size w w2) := HB0.out.trans (hb2.mono HB0.out.size)
          clear hb2 B0 HPW HB0
          go_wp2
          go_ret
          exact ⟨ret_bool (by rw [HBH.out]; rfl), HW2.out⟩
    have h9b : (k == 9) = false := beq_eq_false_iff_ne.2 h9
    have HF : Hid (qformB (d + 1) (.mk k f t 0 0 ps) = false) := form_none (by omega)
    clear HP ha0 hm0
    go_enter Tryd.func36, Tryd.ntmps36
    go_wp2
    go_ret
    exact ⟨ret_bool HF.out.symm, HB0.out⟩
theorem formI_any : ∀ d, d ≤ 4 → FormI d
  | 0, _ => formI_zero
  | d + 1, h => formI_of (by omega) (partsI_of (by omega) (formI_any d (by omega)))
end Go.Proofs.YtfakoalkbcnejaaDoor

/- spec.l5Leaf. -/
namespace Go.Proofs.YtfakoalkbcnejaaDoor
open Go.RowKit
set_option linter.unusedVariables false

theorem still_w5 {P : Program} {ops : Array Oper} {w : World} {Q : Act → Prop} {a : Act} {o : Oper} {rest : List Oper} (hw : Region.wanted o (yielded ops a.tmps) = true)
    (h : ∀ K : Act → Prop, (∀ a, wpStill P ops w Q rest a → K a) → o.still P a w K) : wpStill P ops w Q (o :: rest) a := by
  unfold wpStill
  rw [if_pos hw]
  exact h _ (fun _ h => h)
theorem oneK_w5 {P : Program} {l : List Oper} {n : Nat} {Q : Exit → Act → World → Prop} {o : Oper} {w : World} {a : Act} (hw : Region.wanted o (yielded l.toArray a.tmps) = true)
    (h : o.wp P a w (fun a' w' => RestK P l n Q w' a') Q) : OneK P l n Q o w a := by
  unfold OneK
  rw [if_pos hw]
  exact h
theorem word_dec (t : ByteArray) : isWordB t = decide (l5W t = 1) := by
  rw [Bool.eq_iff_iff, decide_eq_true_iff]
  exact (l5W_one t).symm
theorem word_size {t : ByteArray} (h : l5W t = 1) : 1 ≤ t.size := by
  have h1 := (l5W_one t).1 h
  unfold isWordB at h1
  rw [Bool.and_eq_true] at h1
  have h2 := h1.1
  rw [ByteArray.toList_eq] at h2
  cases e : t.data.toList with
  | nil => rw [e] at h2; cases h2
  | cons a l =>
    show 1 ≤ t.data.size
    rw [← Array.length_toList, e]
    simp
theorem want_2 (t : ByteArray) : wantB 2 t = (decide ((t.size : Int) ≤ 60) && decide (l5W t = 1) && !(stemA t).toList.isEmpty) := by
  unfold wantB
  rw [if_pos rfl, word_dec, Bool.and_assoc]
theorem want_3 (t : ByteArray) : wantB 3 t = (decide ((t.size : Int) ≤ 60) && inB (l5W t : Nat) 2 4) := by
  unfold wantB
  rw [if_neg (by decide), if_neg (by decide), l5W_parts]
  congr 1
  unfold inB
  cases (hparts t).all isWordB with
  | true =>
    rw [if_pos rfl, Bool.true_and, Bool.eq_iff_iff]
    simp
    omega
  | false =>
    rw [if_neg (by simp)]
    simp
theorem want_4 (t : ByteArray) : wantB 4 t = (inB (t.size : Nat) 1 12 && decide (l5W t = 1) && ((foldA t).toList == t.toList)) := by
  unfold wantB
  rw [if_neg (by decide), if_pos rfl, word_dec]
  have e : foldEq t = ((foldA t).toList == t.toList) := rfl
  rw [e]
  by_cases h : l5W t = 1
  · have := word_size h
    rw [decide_eq_true h, Bool.true_and, Bool.and_true]
    unfold inB
    cases ((foldA t).toList == t.toList) with
    | false => simp
    | true =>
      rw [Bool.and_true, Bool.and_true, Bool.eq_iff_iff]
      simp
      omega
  · rw [decide_eq_false h]
    simp
theorem l1In_b (n a b : Int) (r : Bool) (h : inB n a b = r) (w : World) : Calls Tryd.prog 63 #[.int .i64 n, .int .i64 a, .int .i64 b] w fun e w' => e = .returned (.bool r) ∧ w' = w := by
  rw [← h]
  exact l1In_any n a b w
set_option maxRecDepth 100000 in
set_option maxHeartbeats 8000000 in
theorem l5Leaf_any (k : Int) (f t : ByteArray) (lo hi : Int) (p : Option Addr) (n c : Nat) (w : World) (hfs : f.size ≤ 1048576) (hs : t.size ≤ 1048576) :
    Calls Tryd.prog 62 #[.agg #[.int .i64 k, .string f, .string t, .int .i64 lo, .int .i64 hi, .slice p n c]] w fun e w' => e = .returned (.bool (leafB k f t lo hi)) ∧ Below w.heap.size w w' := by
  have hb0 : Below w.heap.size w (w.alloc (.cells #[.int .i64 k, .string f, .string t, .int .i64 lo, .int .i64 hi, .slice p n c] 29)) := (Below.refl _ w).alloc (Nat.le_refl _) _
  have B0 := Blk.new w #[.int .i64 k, .string f, .string t, .int .i64 lo, .int .i64 hi, .slice p n c] 29
  obtain ⟨wa, hwa⟩ : ∃ wa, w.alloc (.cells #[.int .i64 k, .string f, .string t, .int .i64 lo, .int .i64 hi, .slice p n c] 29) = wa := ⟨_, rfl⟩
  rw [hwa] at hb0 B0
  have HB0 : Hid (Below w.heap.size w wa) := hb0
  have HWA : Hid (w.alloc (.cells #[.int .i64 k, .string f, .string t, .int .i64 lo, .int .i64 hi, .slice p n c] 29) = wa) := hwa
  clear hwa hb0
  go_enter Tryd.func62, Tryd.ntmps62
  go_upto_region 1 with fail
  rw [HWA.out]
  have b0 := B0.cell 0
  have b1 := B0.cell 1
  have b2 := B0.cell 2
  have b3 := B0.cell 3
  have b4 := B0.cell 4
  have hlt := B0.lt
  simp at b0 b1 b2 b3 b4
  go_cut [3] (fun s wx => s = .bool (f.toList.isEmpty || nameS f) ∧ wx = wa)
  case first =>
    cases hf : f.toList.isEmpty with
    | true =>
      go_wp2_with fail
      go_meet
      case rel => exact ⟨by rw [hf]; rfl, rfl⟩
    | false =>
      go_wp2_with fail
      refine (nameS_any f _ (by unfold maxLen; omega)).mono ?_
      rintro e w1 ⟨rfl, hw1⟩
      go_wp2_with fail
      go_meet
      case rel => exact ⟨by rw [hf]; rfl, hw1.symm⟩
  case rest =>
    obtain ⟨rfl, hwc⟩ := hcut
    rw [hwc]
    clear hwc
    go_upto_region 2 with fail
    go_cut [4] (fun s wx => s = .bool (zeroB lo hi) ∧ wx = wa)
    case first =>
      cases h1 : (lo == 0) with
      | true =>
        go_wp2_with fail
        go_meet
        case rel => exact ⟨by unfold zeroB; rw [h1]; rfl, rfl⟩
      | false =>
        go_wp2_with fail
        go_meet
        case rel => exact ⟨by unfold zeroB; rw [h1]; rfl, rfl⟩
    case rest =>
      obtain ⟨rfl, hwc⟩ := hcut
      rw [hwc]
      clear hwc HWA b3 b4
      have HFB : Hid ((f.toList.isEmpty || nameS f) = (noB f || nameI f)) := by unfold Hid noB; rw [name_same]
      have HLF : Hid (leafB k f t lo hi = (if k = 1 then noB f && noB t && zeroB lo hi else if k = 2 ∨ k = 3 ∨ k = 4 then (noB f || nameI f) && wantB k t && zeroB lo hi else if k = 5 then nameI f && noB t && bdB lo && bdB hi else if k = 6 then nameI f && nameI t && zeroB lo hi else false)) := rfl
      rw [← HFB.out] at HLF
      generalize (f.toList.isEmpty || nameS f) = fb at *
      generalize zeroB lo hi = pl at *
      clear HFB
      by_cases h1 : k = 1
      · subst h1
        rw [if_pos rfl] at HLF
        unfold noB at HLF
        cases hf : f.toList.isEmpty
        all_goals cases ht : t.toList.isEmpty
        all_goals cases pl
        all_goals
          rw [hf, ht] at HLF
          go_wp2
          go_ret
          exact ⟨ret_bool (by rw [HLF.out]; rfl), HB0.out⟩
      have h1b : (k == 1) = false := beq_eq_false_iff_ne.2 h1
      rw [if_neg h1] at HLF
      by_cases h2 : k = 2
      · subst h2
        rw [if_pos (by omega), want_2] at HLF
        cases fb
        · go_wp2
          go_ret
          exact ⟨ret_bool (by rw [HLF.out]; rfl), HB0.out⟩
        cases pl
        · go_wp2
          go_ret
          exact ⟨ret_bool (by rw [HLF.out]; simp), HB0.out⟩
        by_cases h60 : (t.size : Int) ≤ 60
        · rw [decide_eq_true h60] at HLF
          go_wp2_with fail
          refine (l5Words_any t _ (by omega)).mono ?_
          rintro e w2 ⟨rfl, hb2⟩
          have HB2 : Hid (Below w.heap.size w w2) := HB0.out.trans (hb2.mono HB0.out.size)
          have B2 := B0.below hb2 hlt
          have c2 := B2.cell 2
          simp at c2
          clear hb2 HB0 B0 b0 b1 b2
          by_cases hq : l5W t = 1
          · have hqi : (((l5W t : Nat) : Int) == 1) = true := by rw [hq]; rfl
            rw [decide_eq_true hq] at HLF
            generalize l5W t = q at *
            clear hq
            go_wp2_with fail
            refine (stemS_any t _ (by omega)).mono ?_
            rintro e w3 ⟨rfl, hb3⟩
            have HB3 : Hid (Below w.heap.size w w3) := HB2.out.trans (hb3.mono HB2.out.size)
            clear hb3 HB2 B2 c2
            generalize stemA t = st at *
            cases he : st.toList.isEmpty
            all_goals
              rw [he] at HLF
              go_wp2
              go_ret
              exact ⟨ret_bool (by rw [HLF.out]; rfl), HB3.out⟩
          · have hqi : (((l5W t : Nat) : Int) == 1) = false := beq_eq_false_iff_ne.2 (by omega)
            rw [decide_eq_false hq] at HLF
            generalize l5W t = q at *
            clear hq
            go_wp2
            go_ret
            exact ⟨ret_bool (by rw [HLF.out]; rfl), HB2.out⟩
        · have h60d : decide ((t.size : Int) ≤ 60) = false := decide_eq_false h60
          rw [h60d] at HLF
          go_wp2
          go_ret
          exact ⟨ret_bool (by rw [HLF.out]; rfl), HB0.out⟩
      have h2b : (k == 2) = false := beq_eq_false_iff_ne.2 h2
      by_cases h3 : k = 3
      · subst h3
        rw [if_pos (by omega), want_3] at HLF
        cases fb
        · go_wp2
          go_ret
          exact ⟨ret_bool (by rw [HLF.out]; rfl), HB0.out⟩
        cases pl
        · go_wp2
          go_ret
          exact ⟨ret_bool (by rw [HLF.out]; simp), HB0.out⟩
        by_cases h60 : (t.size : Int) ≤ 60
        · rw [decide_eq_true h60] at HLF
          go_wp2_with fail
          refine (l5Words_any t _ (by omega)).mono ?_
          rintro e w2 ⟨rfl, hb2⟩
          have HB2 : Hid (Below w.heap.size w w2) := HB0.out.trans (hb2.mono HB0.out.size)
          clear hb2 HB0 B0 b0 b1 b2
          go_wp2_with fail
          refine (l1In_any _ 2 4 w2).mono ?_
          rintro e w3 ⟨rfl, rfl⟩
          generalize inB ((l5W t : Nat) : Int) 2 4 = bq at *
          go_wp2
          go_ret
          exact ⟨ret_bool (by rw [HLF.out]; simp), HB2.out⟩
        · have h60d : decide ((t.size : Int) ≤ 60) = false := decide_eq_false h60
          rw [h60d] at HLF
          go_wp2
          go_ret
          exact ⟨ret_bool (by rw [HLF.out]; rfl), HB0.out⟩
      have h3b : (k == 3) = false := beq_eq_false_iff_ne.2 h3
      by_cases h4 : k = 4
      · subst h4
        rw [if_pos (by omega), want_4] at HLF
        have hlt0 := B0.lt
        cases fb
        · go_wp2
          go_quiet (fail)
          go_wp2
          go_ret
          exact ⟨ret_bool (by rw [HLF.out]; rfl), below_drewN HB0.out nq⟩
        cases pl
        · go_wp2
          go_quiet (fail)
          go_wp2
          go_ret
          exact ⟨ret_bool (by rw [HLF.out]; simp), below_drewN HB0.out nq⟩
        cases hin : inB ((t.size : Nat) : Int) 1 12 with
        | false =>
          rw [hin] at HLF
          go_wp2
          go_quiet ((go_at_call 63; exact Calls.quiet_of_same (l1In_b _ _ _ false hin _)))
          go_wp2
          go_ret
          exact ⟨ret_bool (by rw [HLF.out]; rfl), below_drewN HB0.out nq⟩
        | true =>
          rw [hin] at HLF
          have hz : t.size ≤ 60 := by unfold inB at hin; simp at hin; omega
          by_cases hq : l5W t = 1
          · have HQI : Hid (∀ w, Calls Tryd.prog 89 #[.string t] w fun e w' => e = .returned (.int .i64 1) ∧ Below w.heap.size w w') := fun w => by
              have := l5Words_any t w hz
              rw [hq] at this
              exact this
            rw [decide_eq_true hq] at HLF
            clear hq
            have HFE : Hid (foldEq t = ((foldA t).toList == t.toList)) := rfl
            go_wp2
            go_region_held3 (fun wx => wx.cell? ⟨w.heap.size, 2, none⟩ = some (.string t)) (first | go_keep | assumption) (first
              | (go_at_call 63; refine (l1In_b _ _ _ true hin _).mono ?_; rintro e w1 ⟨rfl, rfl⟩)
              | (go_at_call 89; refine (HQI.out _).mono ?_; rintro e w2 ⟨rfl, hb2⟩; have hlt2 : w.heap.size < w2.heap.size := Nat.lt_of_lt_of_le hlt0 hb2.size; have hc2 : w2.cell? ⟨w.heap.size, 2, none⟩ = some (.string t) := (hb2.cell (p := ⟨w.heap.size, 2, none⟩) (by simpa using hlt0)).trans (by simpa using b2))
              | (go_at_call 91; refine (foldS_any t _ (by omega)).mono ?_; rintro e w3 ⟨rfl, hb3⟩; have hc3 : w3.cell? ⟨w.heap.size, 2, none⟩ = some (.string t) := (hb3.cell (p := ⟨w.heap.size, 2, none⟩) hlt2).trans hc2))
            all_goals
              have HB3 : Hid (Below w.heap.size w w3) := HB0.out.trans (((⟨hb2.os, hb2.tape, hb2.output, hb2.size, hb2.block⟩ : Below wa.heap.size wa w2).mono HB0.out.size).trans (hb3.mono (Nat.le_of_lt hlt2)))
              clear hb2 hb3 B0 hc2 hc3 b2
              go_wp2
              go_ret
              exact ⟨ret_bool (by rw [HLF.out]; simp), HB3.out⟩
          · have hqi : (((l5W t : Nat) : Int) == 1) = false := beq_eq_false_iff_ne.2 (by omega)
            have HQI : Hid (∀ w, Calls Tryd.prog 89 #[.string t] w fun e w' => e = .returned (.int .i64 ((l5W t : Nat) : Int)) ∧ Below w.heap.size w w') := fun w => l5Words_any t w hz
            rw [decide_eq_false hq] at HLF
            generalize l5W t = q at *
            clear hq
            go_wp2
            refine wp_region_still_one 13 (by kernel_rfl) (by kernel_rfl) rfl ?_
            simp only [List.take_succ_cons, List.take_zero]
            still_step
            still_step
            refine still_w5 rfl (fun K hK => ?_)
            go_simp
            refine hK _ ?_
            clear hK K
            still_step
            still_step
            refine still_w5 rfl (fun K hK => ?_)
            go_simp
            refine hK _ ?_
            clear hK K
            refine still_w5 rfl (fun K hK => ?_)
            go_simp
            refine hK _ ?_
            clear hK K
            refine still_w5 rfl (fun K hK => ?_)
            go_simp
            refine hK _ ?_
            clear hK K
            refine still_w5 rfl (fun K hK => ?_)
            go_simp
            refine ⟨_, l1In_b _ _ _ true hin _, hK _ ?_⟩
            clear hK K
            still_step
            still_step
            refine still_w5 rfl (fun K hK => ?_)
            go_simp
            refine hK _ ?_
            clear hK K
            refine still_w5 rfl (fun K hK => ?_)
            go_simp
            refine hK _ ?_
            clear hK K
            refine wpStill_nil ?_
            refine oneK_w5 rfl ?_
            go_simp
            go_at_call 89
            refine (HQI.out _).mono ?_
            rintro e w2 ⟨rfl, hb2⟩
            have HB2 : Hid (Below w.heap.size w w2) := HB0.out.trans ((⟨hb2.os, hb2.tape, hb2.output, hb2.size, hb2.block⟩ : Below wa.heap.size wa w2).mono HB0.out.size)
            clear hb2 B0 b2 HQI
            unfold RestK
            simp only [List.drop_succ_cons, List.drop_zero]
            repeat (go_big_quiet_step (fail))
            refine wpQuiet_nil ?_
            intro _ hw'
            obtain ⟨nq, hw''⟩ := hw'
            subst hw''
            go_wp2
            go_ret
            exact ⟨ret_bool (by rw [HLF.out]; simp), below_drewN HB2.out nq⟩
      have h4b : (k == 4) = false := beq_eq_false_iff_ne.2 h4
      rw [if_neg (by omega)] at HLF
      by_cases h5 : k = 5
      · subst h5
        rw [if_pos rfl, name_same] at HLF
        unfold noB at HLF
        go_wp2_with fail
        refine (nameS_any f _ (by unfold maxLen; omega)).mono ?_
        rintro e w1 ⟨rfl, hw1⟩
        rw [← hw1]
        clear hw1
        cases hnf : nameS f
        all_goals rw [hnf] at HLF
        · go_wp2
          go_ret
          exact ⟨ret_bool (by rw [HLF.out]; rfl), HB0.out⟩
        cases ht : t.toList.isEmpty
        all_goals rw [ht] at HLF
        · go_wp2
          go_ret
          exact ⟨ret_bool (by rw [HLF.out]; rfl), HB0.out⟩
        have b3 := B0.cell 3
        have b4 := B0.cell 4
        simp at b3 b4
        have e1 : bdB lo = inB lo (-999999999) 999999999 := rfl
        have e2 : bdB hi = inB hi (-999999999) 999999999 := rfl
        rw [e1, e2] at HLF
        clear e1 e2
        go_wp2_with fail
        refine (l1In_any lo (-999999999) 999999999 _).mono ?_
        rintro e w1 ⟨rfl, hw1⟩
        rw [hw1]
        clear hw1
        generalize inB lo (-999999999) 999999999 = bl at *
        cases bl
        · go_wp2
          go_ret
          exact ⟨ret_bool (by rw [HLF.out]; rfl), HB0.out⟩
        go_wp2_with fail
        refine (l1In_any hi (-999999999) 999999999 _).mono ?_
        rintro e w1 ⟨rfl, hw1⟩
        rw [hw1]
        clear hw1
        generalize inB hi (-999999999) 999999999 = bh at *
        go_wp2
        go_ret
        exact ⟨ret_bool (by rw [HLF.out]; rfl), HB0.out⟩
      have h5b : (k == 5) = false := beq_eq_false_iff_ne.2 h5
      rw [if_neg h5] at HLF
      by_cases h6 : k = 6
      · subst h6
        rw [if_pos rfl, name_same, name_same] at HLF
        go_wp2_with fail
        refine (nameS_any f _ (by unfold maxLen; omega)).mono ?_
        rintro e w1 ⟨rfl, hw1⟩
        rw [← hw1]
        clear hw1
        cases hnf : nameS f
        all_goals rw [hnf] at HLF
        · go_wp2
          go_ret
          exact ⟨ret_bool (by rw [HLF.out]; rfl), HB0.out⟩
        go_wp2_with fail
        refine (nameS_any t _ (by unfold maxLen; omega)).mono ?_
        rintro e w1 ⟨rfl, hw1⟩
        rw [← hw1]
        clear hw1
        cases hnt : nameS t
        all_goals rw [hnt] at HLF
        · go_wp2
          go_ret
          exact ⟨ret_bool (by rw [HLF.out]; rfl), HB0.out⟩
        go_wp2
        go_ret
        exact ⟨ret_bool (by rw [HLF.out]; rfl), HB0.out⟩
      have h6b : (k == 6) = false := beq_eq_false_iff_ne.2 h6
      rw [if_neg h6] at HLF
      go_wp2
      go_ret
      exact ⟨ret_bool HLF.out.symm, HB0.out⟩
end Go.Proofs.YtfakoalkbcnejaaDoor

/- spec.QueryOk. -/
namespace Go.Proofs.YtfakoalkbcnejaaDoor
open Go.RowKit
set_option linter.unusedVariables false

theorem many_78 {k : Int} (h : k = 7 ∨ k = 8) (f t : ByteArray) (lo hi : Int) (n : Nat) : manyPartsB k f t lo hi n = (inB (n : Nat) 2 4 && f.toList.isEmpty && t.toList.isEmpty && ((lo == 0) && (hi == 0))) := by
  unfold manyPartsB noB zeroB
  rw [if_pos h]
  congr 3
  unfold inB
  rw [Bool.eq_iff_iff]
  simp
  omega
theorem many_9 (f t : ByteArray) (lo hi : Int) (n : Nat) : manyPartsB 9 f t lo hi n = (((n : Int) == 1) && f.toList.isEmpty && t.toList.isEmpty && ((lo == 0) && (hi == 0))) := by
  unfold manyPartsB noB zeroB
  rw [if_neg (by decide), if_pos rfl]
  congr 3
  rw [Bool.eq_iff_iff]
  simp
  omega
theorem many_no {k : Int} (h7 : k ≠ 7) (h8 : k ≠ 8) (h9 : k ≠ 9) (f t : ByteArray) (lo hi : Int) (n : Nat) : manyPartsB k f t lo hi n = false := by
  unfold manyPartsB
  rw [if_neg (by omega), if_neg h9]
  rfl
/-- spec.l5Ok, d deep. -/
def FormS (d : Nat) : Prop := ∀ (k : Int) (f t : ByteArray) (lo hi : Int) (ps : List Qy) (a : Option Addr) (c D : Nat) (w : World), QAt w 0 D a ps → QSz 1048576 D ps → f.size ≤ 1048576 → t.size ≤ 1048576 →
  Calls Tryd.prog 34 #[.agg #[.int .i64 k, .string f, .string t, .int .i64 lo, .int .i64 hi, .slice a ps.length c], .int .i64 (d : Nat)] w fun e w' => e = .returned (.bool (qformB d (.mk k f t lo hi ps))) ∧ Below w.heap.size w w'
set_option maxRecDepth 100000 in
theorem formS_zero : FormS 0 := by
  intro k f t lo hi ps a c D w _ _ _ _
  have HF : Hid (qformB 0 (.mk k f t lo hi ps) = false) := rfl
  go_enter Tryd.func34, Tryd.ntmps34
  go_wp2
  go_ret
  exact ⟨ret_bool HF.out.symm, (Below.refl _ w).alloc (Nat.le_refl _) _⟩
set_option maxRecDepth 100000 in
set_option maxHeartbeats 4000000 in
theorem formS_of {d : Nat} (hd : d ≤ 3) (hF : FormS d) : FormS (d + 1) := by
  intro k f t lo hi ps a cap D w ha hsz hfs hts
  have HF : Hid (FormS d) := hF
  have hb0 : Below w.heap.size w (w.alloc (.cells #[.int .i64 k, .string f, .string t, .int .i64 lo, .int .i64 hi, .slice a ps.length cap] 29)) := (Below.refl _ w).alloc (Nat.le_refl _) _
  have HB0 : Hid (Below w.heap.size w (w.alloc (.cells #[.int .i64 k, .string f, .string t, .int .i64 lo, .int .i64 hi, .slice a ps.length cap] 29))) := hb0
  have B0 := Blk.new w #[.int .i64 k, .string f, .string t, .int .i64 lo, .int .i64 hi, .slice a ps.length cap] 29
  have hz := hsz.len
  have HS : Hid (QSz 1048576 D ps) := hsz
  have HE : Hid (qformB (d + 1) (.mk k f t lo hi ps) = (if ps.length = 0 then leafB k f t lo hi else manyPartsB k f t lo hi ps.length && allTo (fun i => qformB d (qat ps i)) ps.length)) := rfl
  obtain ⟨di, hdi⟩ : ∃ di : Int, ((d + 1 : Nat) : Int) = di := ⟨_, rfl⟩
  have hd0 : decide (di < 1) = false := decide_eq_false (by omega)
  have hd1 : 1 ≤ di := by omega
  have hd2 : di ≤ 4 := by omega
  have hd3 : di - 1 = (d : Int) := by omega
  rw [hdi]
  clear hdi
  by_cases hn : ps.length = 0
  · have HB : Hid (qformB (d + 1) (.mk k f t lo hi ps) = leafB k f t lo hi) := by unfold Hid; rw [HE.out, if_pos hn]
    have hnb : ((ps.length : Int) == 0) = true := by rw [hn]; rfl
    clear HS HE ha hsz hb0 HF hF hn
    obtain ⟨wa, hwa⟩ : ∃ wa, w.alloc (.cells #[.int .i64 k, .string f, .string t, .int .i64 lo, .int .i64 hi, .slice a ps.length cap] 29) = wa := ⟨_, rfl⟩
    have HWA : Hid (w.alloc (.cells #[.int .i64 k, .string f, .string t, .int .i64 lo, .int .i64 hi, .slice a ps.length cap] 29) = wa) := hwa
    rw [hwa] at HB0 B0
    clear hwa
    have b0 := B0.cell 0
    have b1 := B0.cell 1
    have b2 := B0.cell 2
    have b3 := B0.cell 3
    have b4 := B0.cell 4
    have b5 := B0.cell 5
    simp at b0 b1 b2 b3 b4 b5
    have HL : Hid (Calls Tryd.prog 62 #[.agg #[.int .i64 k, .string f, .string t, .int .i64 lo, .int .i64 hi, .slice a ps.length cap]] wa fun e w' => e = .returned (.bool (leafB k f t lo hi)) ∧ Below wa.heap.size wa w') := l5Leaf_any k f t lo hi a ps.length cap wa hfs hts
    clear B0
    go_enter Tryd.func34, Tryd.ntmps34
    go_upto_region 1 with fail
    rw [HWA.out]
    clear HWA
    go_wp2_with fail
    refine HL.out.mono ?_
    rintro e w2 ⟨rfl, hb2⟩
    have HB2 : Hid (Below w.heap.size w w2) := HB0.out.trans (hb2.mono HB0.out.size)
    clear hb2 HB0
    go_wp2
    go_ret
    exact ⟨ret_bool HB.out.symm, HB2.out⟩
  have hnb : ((ps.length : Int) == 0) = false := beq_eq_false_iff_ne.2 (by omega)
  rw [if_neg hn] at HE
  have HA : Hid (∀ wx, Below w.heap.size w wx → QAt wx 0 D a ps) := fun wx h => ha.below h
  obtain ⟨wa, hwa⟩ : ∃ wa, w.alloc (.cells #[.int .i64 k, .string f, .string t, .int .i64 lo, .int .i64 hi, .slice a ps.length cap] 29) = wa := ⟨_, rfl⟩
  have HWA : Hid (w.alloc (.cells #[.int .i64 k, .string f, .string t, .int .i64 lo, .int .i64 hi, .slice a ps.length cap] 29) = wa) := hwa
  rw [hwa] at HB0 B0
  have HBK : Hid (∀ wx, Below wa.heap.size wa wx → Blk wx w.heap.size #[.int .i64 k, .string f, .string t, .int .i64 lo, .int .i64 hi, .slice a ps.length cap] 29) := fun wx h => B0.below h B0.lt
  clear ha hsz hb0 hF hwa B0
  go_enter Tryd.func34, Tryd.ntmps34
  go_wp2
  rw [HWA.out]
  clear HWA
  go_loopw [6] (fun i wr => ∃ j : Nat, j ≤ ps.length ∧ i = .int .i64 j ∧ allTo (fun i => qformB d (qat ps i)) j = true ∧ Below wa.heap.size wa wr) (fun i _ => ps.length - (intOf i).toNat)
  case atStart => exact ⟨0, Nat.zero_le _, rfl, rfl, Below.refl _ _⟩
  case round =>
    obtain ⟨j, hj, rfl, hall, hbel⟩ := hrel
    have HAL : Hid (allTo (fun i => qformB d (qat ps i)) j = true) := hall
    have HWR : Hid (Below w.heap.size w wr) := HB0.out.trans (hbel.mono HB0.out.size)
    have BR := HBK.out wr hbel
    clear hall
    by_cases hlt : j < ps.length
    · have hji : (j : Int) < (ps.length : Int) := by omega
      obtain ⟨D', hD⟩ : ∃ D', D = D' + 1 := by
        cases D with
        | zero =>
          have e : ps = [] := HS.out
          rw [e] at hlt
          exact absurd hlt (by simp)
        | succ D' => exact ⟨D', rfl⟩
      subst hD
      obtain ⟨g, off, rfl, _, hg, hc⟩ := (HA.out wr HWR.out) (by omega)
      obtain ⟨p, c, ⟨c0, c1, c2, c3, c4, c5⟩, hq⟩ := hc j hlt
      obtain ⟨s1, s2, s3⟩ := HS.out.2 j hlt
      have b5 := BR.cell 5
      simp at b5
      have HNO : Hid (qformB d (qat ps j) = false → allTo (fun i => qformB d (qat ps i)) ps.length = false) := fun h => allTo_false _ _ j hlt h
      have HYS : Hid (qformB d (qat ps j) = true → allTo (fun i => qformB d (qat ps i)) (j + 1) = true) := fun h => allTo_snoc _ j HAL.out h
      generalize qat ps j = q at *
      obtain ⟨kd, f', t', lo', hi', pp⟩ := q
      simp only [Qy.kind, Qy.field, Qy.text, Qy.low, Qy.high, Qy.parts] at c0 c1 c2 c3 c4 c5 hq s1 s2 s3
      clear hc BR
      go_wp2_with fail
      refine (HF.out kd f' t' lo' hi' pp p c D' _ hq s3 s1 s2).mono ?_
      rintro e w2 ⟨rfl, hb2⟩
      have hw2 := hbel.trans (hb2.mono hbel.size)
      have HW2 : Hid (Below w.heap.size w w2) := HB0.out.trans (hw2.mono HB0.out.size)
      clear c0 c1 c2 c3 c4 c5 hq hb2 hbel b5
      cases hb : qformB d (.mk kd f' t' lo' hi' pp) with
      | false =>
        have HR : Hid (qformB (d + 1) (.mk k f t lo hi ps) = false) := by unfold Hid; rw [HE.out, HNO.out hb, Bool.and_false]
        clear HNO HYS
        go_wp2
        go_ret
        exact ⟨ret_bool HR.out.symm, HW2.out⟩
      | true =>
        have HY : Hid (allTo (fun i => qformB d (qat ps i)) (j + 1) = true) := HYS.out hb
        clear HNO HYS
        go_wp2
        go_roundw
        case rel => exact ⟨j + 1, by omega, by go_num, HY.out, hw2⟩
        case measure => simp [intOf]; omega
    · have hjl : j = ps.length := by omega
      subst hjl
      rw [HAL.out, Bool.and_true] at HE
      have b0 := BR.cell 0
      have b1 := BR.cell 1
      have b2 := BR.cell 2
      have b3 := BR.cell 3
      have b4 := BR.cell 4
      simp at b0 b1 b2 b3 b4
      clear HS HA HBK HB0 HF HAL BR hbel hn hnb hd0 hd1 hd2 hd3
      by_cases h78 : k = 7 ∨ k = 8
      · rw [many_78 h78] at HE
        have HL : Hid (Calls Tryd.prog 63 #[.int .i64 (ps.length : Nat), .int .i64 2, .int .i64 4] wr fun e w' => e = .returned (.bool (inB (ps.length : Nat) 2 4)) ∧ w' = wr) := l1In_any _ 2 4 wr
        generalize inB (ps.length : Nat) 2 4 = bq at *
        rcases h78 with rfl | rfl
        all_goals
          go_wp2_with fail
          refine HL.out.mono ?_
          rintro e w2 ⟨rfl, rfl⟩
          clear HL
          cases bq
          · go_wp2
            go_ret
            exact ⟨ret_bool (by rw [HE.out]; rfl), HWR.out⟩
          cases hf : f.toList.isEmpty
          all_goals rw [hf] at HE
          · go_wp2
            go_ret
            exact ⟨ret_bool (by rw [HE.out]; rfl), HWR.out⟩
          cases ht : t.toList.isEmpty
          all_goals rw [ht] at HE
          · go_wp2
            go_ret
            exact ⟨ret_bool (by rw [HE.out]; rfl), HWR.out⟩
          cases hlo : (lo == 0)
          all_goals rw [hlo] at HE
          · go_wp2
            go_ret
            exact ⟨ret_bool (by rw [HE.out]; rfl), HWR.out⟩
          go_wp2
          go_ret
          exact ⟨ret_bool (by rw [HE.out]; simp), HWR.out⟩
      have h7b : (k == 7) = false := beq_eq_false_iff_ne.2 (by omega)
      have h8b : (k == 8) = false := beq_eq_false_iff_ne.2 (by omega)
      by_cases h9 : k = 9
      · subst h9
        rw [many_9] at HE
        cases hn1 : ((ps.length : Int) == 1)
        all_goals rw [hn1] at HE
        · go_wp2
          go_ret
          exact ⟨ret_bool (by rw [HE.out]; rfl), HWR.out⟩
        cases hf : f.toList.isEmpty
        all_goals rw [hf] at HE
        · go_wp2
          go_ret
          exact ⟨ret_bool (by rw [HE.out]; rfl), HWR.out⟩
        cases ht : t.toList.isEmpty
        all_goals rw [ht] at HE
        · go_wp2
          go_ret
          exact ⟨ret_bool (by rw [HE.out]; rfl), HWR.out⟩
        cases hlo : (lo == 0)
        all_goals rw [hlo] at HE
        · go_wp2
          go_ret
          exact ⟨ret_bool (by rw [HE.out]; rfl), HWR.out⟩
        go_wp2
        go_ret
        exact ⟨ret_bool (by rw [HE.out]; simp), HWR.out⟩
      have h9b : (k == 9) = false := beq_eq_false_iff_ne.2 h9
      rw [many_no (by omega) (by omega) h9] at HE
      go_wp2
      go_ret
      exact ⟨ret_bool HE.out.symm, HWR.out⟩
theorem formS_any : ∀ d, d ≤ 4 → FormS d
  | 0, _ => formS_zero
  | d + 1, h => formS_of (by omega) (formS_any d (by omega))
end Go.Proofs.YtfakoalkbcnejaaDoor

/- QueryOk of both sides. -/
namespace Go.Proofs.YtfakoalkbcnejaaDoor
open Go.RowKit
set_option linter.unusedVariables false

theorem QAt.drew {w : World} {B d : Nat} {a : Option Addr} {ps : List Qy} (h : QAt w B d a ps) : QAt w.drew B d a ps := QAt.kept (w := w) (w' := w.drew) (Nat.le_refl _) (fun _ _ _ => rfl) h
/-- A question is ok. -/
def queryB (k : Int) (f t : ByteArray) (lo hi : Int) (ps : List Qy) : Bool := qformB 4 (.mk k f t lo hi ps)
set_option maxRecDepth 100000 in
theorem queryOkS_any (k : Int) (f t : ByteArray) (lo hi : Int) (ps : List Qy) (a : Option Addr) (c D : Nat) (w : World) (ha : QAt w 0 D a ps) (hsz : QSz 1048576 D ps) (hfs : f.size ≤ 1048576) (hts : t.size ≤ 1048576) :
    Calls Tryd.prog 10 #[.agg #[.int .i64 k, .string f, .string t, .int .i64 lo, .int .i64 hi, .slice a ps.length c]] w fun e w' => e = .returned (.bool (queryB k f t lo hi ps)) ∧ Below w.heap.size w w' := by
  have hb0 : Below w.heap.size w (w.alloc (.cells #[.int .i64 k, .string f, .string t, .int .i64 lo, .int .i64 hi, .slice a ps.length c] 29)) := (Below.refl _ w).alloc (Nat.le_refl _) _
  have HL : Hid (Calls Tryd.prog 34 #[.agg #[.int .i64 k, .string f, .string t, .int .i64 lo, .int .i64 hi, .slice a ps.length c], .int .i64 4] (w.alloc (.cells #[.int .i64 k, .string f, .string t, .int .i64 lo, .int .i64 hi, .slice a ps.length c] 29)) fun e w' => e = .returned (.bool (queryB k f t lo hi ps)) ∧ Below (w.alloc (.cells #[.int .i64 k, .string f, .string t, .int .i64 lo, .int .i64 hi, .slice a ps.length c] 29)).heap.size (w.alloc (.cells #[.int .i64 k, .string f, .string t, .int .i64 lo, .int .i64 hi, .slice a ps.length c] 29)) w') := formS_any 4 (Nat.le_refl _) k f t lo hi ps a c D _ (ha.below hb0) hsz hfs hts
  clear ha hsz
  go_enter Tryd.func10, Tryd.ntmps10
  go_wp2_with fail
  refine HL.out.mono ?_
  rintro e w2 ⟨rfl, hb2⟩
  have hw2 := hb0.trans (hb2.mono hb0.size)
  clear HL hb0 hb2
  go_wp2
  go_ret
  exact ⟨rfl, hw2⟩
set_option maxRecDepth 100000 in
theorem queryOkI_any (k : Int) (f t : ByteArray) (lo hi : Int) (ps : List Qy) (a : Option Addr) (c D : Nat) (w : World) (ha : QAt w 0 D a ps) (hsz : QSz 1048576 D ps) (hfs : f.size ≤ 1048576) (hts : t.size ≤ 1048576) (hm : MaxL w) :
    Calls Tryd.prog 12 #[.agg #[.int .i64 k, .string f, .string t, .int .i64 lo, .int .i64 hi, .slice a ps.length c]] w fun e w' => e = .returned (.bool (queryB k f t lo hi ps)) ∧ Below w.heap.size w w' := by
  have hb0 : Below w.heap.size w (w.alloc (.cells #[.int .i64 k, .string f, .string t, .int .i64 lo, .int .i64 hi, .slice a ps.length c] 29)) := (Below.refl _ w).alloc (Nat.le_refl _) _
  have HL : Hid (Calls Tryd.prog 36 #[.agg #[.int .i64 k, .string f, .string t, .int .i64 lo, .int .i64 hi, .slice a ps.length c], .int .i64 4] (w.alloc (.cells #[.int .i64 k, .string f, .string t, .int .i64 lo, .int .i64 hi, .slice a ps.length c] 29)) fun e w' => e = .returned (.bool (queryB k f t lo hi ps)) ∧ Below (w.alloc (.cells #[.int .i64 k, .string f, .string t, .int .i64 lo, .int .i64 hi, .slice a ps.length c] 29)).heap.size (w.alloc (.cells #[.int .i64 k, .string f, .string t, .int .i64 lo, .int .i64 hi, .slice a ps.length c] 29)) w') := formI_any 4 (Nat.le_refl _) k f t lo hi ps a c D _ (ha.below hb0) hsz hfs hts (hm.below hb0)
  clear ha hsz hm
  go_enter Tryd.func12, Tryd.ntmps12
  go_wp2_with fail
  refine HL.out.mono ?_
  rintro e w2 ⟨rfl, hb2⟩
  have hw2 := hb0.trans (hb2.mono hb0.size)
  clear HL hb0 hb2
  go_wp2
  go_ret
  exact ⟨rfl, hw2⟩
end Go.Proofs.YtfakoalkbcnejaaDoor

/- QueryTurn of both sides. -/
namespace Go.Proofs.YtfakoalkbcnejaaDoor
open Go.RowKit
set_option linter.unusedVariables false

theorem qat_made (g : Nat → Qy) (n i : Nat) (h : i < n) : qat ((List.range n).map g) i = g i := by
  unfold qat
  rw [List.getD_eq_getElem?_getD]
  simp [h]
theorem turn_sz {n : Nat} (hn : 1 ≤ n) : ∀ (D d : Nat) (q : Qy), qformB d q = true → QSz n D q.parts → q.field.size ≤ n → q.text.size ≤ n → QSz n (D + 1) (turnQ D q).parts ∧ (turnQ D q).field.size ≤ n ∧ (turnQ D q).text.size ≤ n
  | D, d, q, h, hs, hf, ht => by
    obtain ⟨k, f, t, lo, hi, ps⟩ := q
    by_cases h9 : k = 9
    · subst h9
      have h1 := form_not h
      rw [turn_9]
      cases D with
      | zero =>
        have e : ps = [] := hs
        rw [e] at h1
        cases h1
      | succ D =>
        obtain ⟨s1, s2, s3⟩ := hs.2 0 (by show 0 < ps.length; omega)
        exact ⟨s3.mono.mono, s1, s2⟩
    by_cases h78 : k = 7 ∨ k = 8
    · rw [turn_78 D f t lo hi ps h78]
      refine ⟨?_, Nat.zero_le _, Nat.zero_le _⟩
      cases D with
      | zero => exact ⟨Nat.zero_le _, fun i hi => absurd hi (Nat.not_lt_zero _)⟩
      | succ D =>
        have hl : (turnT (D + 1) ps).length = ps.length := by show ((List.range ps.length).map _).length = _; simp
        refine ⟨by show (turnT (D + 1) ps).length ≤ n; rw [hl]; exact hs.1, fun i hi => ?_⟩
        have hi2 : i < ps.length := by rw [← hl]; exact hi
        have e : qat (turnT (D + 1) ps) i = turnQ D (qat ps i) := qat_made _ _ _ hi2
        obtain ⟨d', _, h'⟩ := form_part h (i := i) hi2
        obtain ⟨s1, s2, s3⟩ := hs.2 i hi2
        have := turn_sz hn D d' (qat ps i) h' s3 s1 s2
        show (qat (turnT (D + 1) ps) i).field.size ≤ n ∧ (qat (turnT (D + 1) ps) i).text.size ≤ n ∧ QSz n (D + 1) (qat (turnT (D + 1) ps) i).parts
        rw [e]
        exact ⟨this.2.1, this.2.2, this.1⟩
    · rw [turn_no D f t lo hi ps h9 h78]
      refine ⟨⟨hn, fun i hi => ?_⟩, Nat.zero_le _, Nat.zero_le _⟩
      obtain rfl : i = 0 := by
        have : i < 1 := hi
        omega
      exact ⟨hf, ht, hs⟩
def Qy.agg (q : Qy) (p : Option Addr) (c : Nat) : Value := .agg #[.int .i64 q.kind, .string q.field, .string q.text, .int .i64 q.low, .int .i64 q.high, .slice p q.parts.length c]
def qyOk (q : Qy) : Bool := queryB q.kind q.field q.text q.low q.high q.parts
def qyNone : Qy := .mk 0 ⟨#[]⟩ ⟨#[]⟩ 0 0 []
/-- A question can be turned; what it is then. -/
def turnB (D : Nat) (q : Qy) : Bool := qyOk q && qyOk (turnQ D q)
def turnV (D : Nat) (q : Qy) : Qy := if turnB D q = true then turnQ D q else qyNone
set_option maxRecDepth 100000 in
set_option maxHeartbeats 4000000 in
theorem queryTurnI_any (k : Int) (f t : ByteArray) (lo hi : Int) (ps : List Qy) (a : Option Addr) (c D : Nat) (w : World) (ha : QAt w 0 D a ps) (hsz : QSz 1048576 D ps) (hfs : f.size ≤ 1048576) (hts : t.size ≤ 1048576) (hm : MaxL w) :
    Calls Tryd.prog 26 #[.agg #[.int .i64 k, .string f, .string t, .int .i64 lo, .int .i64 hi, .slice a ps.length c]] w fun e w' => ∃ p' c' fp, e = .returned (.tuple #[(turnV D (.mk k f t lo hi ps)).agg p' c', .bool (turnB D (.mk k f t lo hi ps))]) ∧ (QOwn w' (D + 1) p' c' (turnV D (.mk k f t lo hi ps)).parts fp ∧ ∀ b ∈ fp, w.heap.size ≤ b) ∧ Below w.heap.size w w' := by
  have hb1 : Below w.heap.size w (w.alloc (.cells #[.int .i64 k, .string f, .string t, .int .i64 lo, .int .i64 hi, .slice a ps.length c] 29)) := (Below.refl _ w).alloc (Nat.le_refl _) _
  have hb2 := hb1.alloc hb1.size (.cells #[.int .i64 0, .string ⟨#[]⟩, .string ⟨#[]⟩, .int .i64 0, .int .i64 0, .slice none 0 0] 29)
  have BO := (Blk.new w #[.int .i64 k, .string f, .string t, .int .i64 lo, .int .i64 hi, .slice a ps.length c] 29).alloc (.cells #[.int .i64 0, .string ⟨#[]⟩, .string ⟨#[]⟩, .int .i64 0, .int .i64 0, .slice none 0 0] 29)
  have BZ := Blk.new (w.alloc (.cells #[.int .i64 k, .string f, .string t, .int .i64 lo, .int .i64 hi, .slice a ps.length c] 29)) #[.int .i64 0, .string ⟨#[]⟩, .string ⟨#[]⟩, .int .i64 0, .int .i64 0, .slice none 0 0] 29
  rw [show (w.alloc (.cells #[.int .i64 k, .string f, .string t, .int .i64 lo, .int .i64 hi, .slice a ps.length c] 29)).heap.size = w.heap.size + 1 by simp] at BZ
  have hs2 : ((w.alloc (.cells #[.int .i64 k, .string f, .string t, .int .i64 lo, .int .i64 hi, .slice a ps.length c] 29)).alloc (.cells #[.int .i64 0, .string ⟨#[]⟩, .string ⟨#[]⟩, .int .i64 0, .int .i64 0, .slice none 0 0] 29)).heap.size = w.heap.size + 2 := by simp
  have HA : Hid (∀ wx, Below w.heap.size w wx → QAt wx 0 D a ps) := fun wx h => ha.below h
  have HM : Hid (∀ wx, Below w.heap.size w wx → MaxL wx) := fun wx h => hm.below h
  have HS : Hid (QSz 1048576 D ps) := hsz
  have HTB : Hid (turnB D (.mk k f t lo hi ps) = (queryB k f t lo hi ps && qyOk (turnQ D (.mk k f t lo hi ps)))) := rfl
  have HTV : Hid (turnV D (.mk k f t lo hi ps) = if turnB D (.mk k f t lo hi ps) = true then turnQ D (.mk k f t lo hi ps) else qyNone) := rfl
  have HFM : Hid (queryB k f t lo hi ps = true → qformB 4 (.mk k f t lo hi ps) = true) := id
  clear ha hm hsz
  go_enter Tryd.func26, Tryd.ntmps26
  go_wp2_with fail
  generalize (w.alloc (.cells #[.int .i64 k, .string f, .string t, .int .i64 lo, .int .i64 hi, .slice a ps.length c] 29)).alloc (.cells #[.int .i64 0, .string ⟨#[]⟩, .string ⟨#[]⟩, .int .i64 0, .int .i64 0, .slice none 0 0] 29) = w2 at *
  refine (queryOkI_any k f t lo hi ps a c D _ (HA.out _ hb2) HS.out hfs hts (HM.out _ hb2)).mono ?_
  rintro e w3 ⟨rfl, hb3⟩
  have BO3 := BO.below hb3 (by omega)
  have BZ3 := BZ.below hb3 (by omega)
  have hw3 := hb2.trans (hb3.mono hb2.size)
  have hz3 : w.heap.size + 2 ≤ w3.heap.size := by have := hb3.size; omega
  have z0 := BZ3.cell 0
  have z1 := BZ3.cell 1
  have z2 := BZ3.cell 2
  have z3 := BZ3.cell 3
  have z4 := BZ3.cell 4
  have z5 := BZ3.cell 5
  have f0 := BZ3.frozen 0
  have f1 := BZ3.frozen 1
  have f2 := BZ3.frozen 2
  have f3 := BZ3.frozen 3
  have f4 := BZ3.frozen 4
  have f5 := BZ3.frozen 5
  simp at z0 z1 z2 z3 z4 z5
  clear BO BZ hb1 hb2 hb3 hs2
  cases h1 : queryB k f t lo hi ps with
  | false =>
    rw [h1, Bool.false_and] at HTB
    rw [HTB.out, if_neg (by decide)] at HTV
    clear BO3 BZ3 HFM HA HM HS
    go_wp2
    refine bodyPost_ret (v := .tuple #[.agg #[.int .i64 0, .string ⟨#[]⟩, .string ⟨#[]⟩, .int .i64 0, .int .i64 0, .slice none 0 0], .bool false]) (by simp [results, Tryd.results26, go_sem, z0, z1, z2, z3, z4, z5]) rfl ⟨none, 0, [], ?_, ?_, ?_⟩
    · rw [HTV.out, HTB.out]; rfl
    · rw [HTV.out]; exact ⟨.inl ⟨rfl, rfl⟩, fun b hb => by cases hb⟩
    · exact ((((((hw3.setCell (by simp) _).setCell (by simp) _).setCell (by simp) _).setCell (by simp) _).setCell (by simp) _).setCell (by simp) _)
  | true =>
    have HF4 : Hid (qformB 4 (.mk k f t lo hi ps) = true) := HFM.out h1
    rw [h1, Bool.true_and] at HTB
    have hts' := turn_sz (n := 1048576) (by decide) D 4 (.mk k f t lo hi ps) HF4.out HS.out hfs hts
    have hmk := turnI_any D 4 (.mk k f t lo hi ps) a c w3 HF4.out (HA.out _ hw3) HS.out hfs hts
    generalize turnQ D (.mk k f t lo hi ps) = q' at *
    obtain ⟨k', f', t', lo', hi', ps'⟩ := q'
    unfold Makes at hmk
    simp only [Qy.kind, Qy.field, Qy.text, Qy.low, Qy.high, Qy.parts] at hmk hts'
    have HMK : Hid (Calls _ _ _ _ _) := hmk
    have HZ : Hid (QSz 1048576 (D + 1) ps' ∧ f'.size ≤ 1048576 ∧ t'.size ≤ 1048576) := hts'
    have HTB2 : Hid (turnB D (.mk k f t lo hi ps) = queryB k' f' t' lo' hi' ps') := HTB.out
    have y0 := BO3.cell 0
    have y1 := BO3.cell 1
    have y2 := BO3.cell 2
    have y3 := BO3.cell 3
    have y4 := BO3.cell 4
    have y5 := BO3.cell 5
    simp at y0 y1 y2 y3 y4 y5
    clear hmk hts' HF4 HFM HTB z0 z1 z2 z3 z4 z5 f0 f1 f2 f3 f4 f5
    go_wp2_with fail
    refine HMK.out.mono ?_
    rintro e w4 ⟨p4, c4, fp, rfl, ⟨hq4, hf4⟩, hb4⟩
    have hA4 : Below w4.heap.size w4 (w4.alloc (.cells #[.int .i64 k', .string f', .string t', .int .i64 lo', .int .i64 hi', .slice p4 ps'.length c4] 29)) := (Below.refl _ _).alloc (Nat.le_refl _) _
    have hw4 := hw3.trans (hb4.mono hw3.size)
    have hw4a := hw4.trans (hA4.mono hw4.size)
    have BZ4 := (BZ3.below hb4 BZ3.lt).alloc (.cells #[.int .i64 k', .string f', .string t', .int .i64 lo', .int .i64 hi', .slice p4 ps'.length c4] 29)
    have BX4 := Blk.new w4 #[.int .i64 k', .string f', .string t', .int .i64 lo', .int .i64 hi', .slice p4 ps'.length c4] 29
    have hq4a := hq4.below hA4
    have hz4 : w.heap.size + 2 ≤ w4.heap.size := by have := hb4.size; omega
    have HFL : Hid (∀ b ∈ fp, w.heap.size + 2 ≤ b) := fun b hb => by have := hf4 b hb; omega
    clear BO3 BZ3 y0 y1 y2 y3 y4 y5 HMK hb4 hw4 hA4 hq4 hf4
    go_wp2_with fail
    refine (queryOkI_any k' f' t' lo' hi' ps' p4 c4 (D + 1) _ (hq4a.at (fun _ _ => Nat.zero_le _)) HZ.out.1 HZ.out.2.1 HZ.out.2.2 (HM.out _ hw4a)).mono ?_
    rintro e w5 ⟨rfl, hb5⟩
    have BZ5 := BZ4.below hb5 BZ4.lt
    have BX5 := BX4.below hb5 BX4.lt
    have hw5 := hw4a.trans (hb5.mono hw4a.size)
    have HQ : Hid (QOwn w5 (D + 1) p4 c4 ps' fp ∧ ∀ b ∈ fp, w.heap.size + 2 ≤ b) := ⟨hq4a.below hb5, HFL.out⟩
    have z0 := BZ5.cell 0
    have z1 := BZ5.cell 1
    have z2 := BZ5.cell 2
    have z3 := BZ5.cell 3
    have z4 := BZ5.cell 4
    have z5 := BZ5.cell 5
    have f0 := BZ5.frozen 0
    have f1 := BZ5.frozen 1
    have f2 := BZ5.frozen 2
    have f3 := BZ5.frozen 3
    have f4 := BZ5.frozen 4
    have f5 := BZ5.frozen 5
    have x0 := BX5.cell 0
    have x1 := BX5.cell 1
    have x2 := BX5.cell 2
    have x3 := BX5.cell 3
    have x4 := BX5.cell 4
    have x5 := BX5.cell 5
    simp at z0 z1 z2 z3 z4 z5 x0 x1 x2 x3 x4 x5
    have hlx : w4.heap.size < w5.heap.size := BX5.lt
    clear BZ4 BX4 BZ5 BX5 hb5 hw4a hq4a HFL HM HA HS HZ
    cases h2 : queryB k' f' t' lo' hi' ps' with
    | false =>
      rw [h2] at HTB2
      rw [HTB2.out, if_neg (by decide)] at HTV
      go_wp2
      refine bodyPost_ret (v := .tuple #[.agg #[.int .i64 0, .string ⟨#[]⟩, .string ⟨#[]⟩, .int .i64 0, .int .i64 0, .slice none 0 0], .bool false]) (by simp [results, Tryd.results26, go_sem, z0, z1, z2, z3, z4, z5]) rfl ⟨none, 0, [], ?_, ?_, ?_⟩
      · rw [HTV.out, HTB2.out]; rfl
      · rw [HTV.out]; exact ⟨.inl ⟨rfl, rfl⟩, fun b hb => by cases hb⟩
      · exact ((((((hw5.setCell (by simp) _).setCell (by simp) _).setCell (by simp) _).setCell (by simp) _).setCell (by simp) _).setCell (by simp) _)
    | true =>
      rw [h2] at HTB2
      rw [HTB2.out, if_pos rfl] at HTV
      go_wp2
      refine bodyPost_ret (v := .tuple #[.agg #[.int .i64 k', .string f', .string t', .int .i64 lo', .int .i64 hi', .slice p4 ps'.length c4], .bool true]) (by simp [results, Tryd.results26, go_sem, z0, z1, z2, z3, z4, z5]) rfl ⟨p4, c4, fp, ?_, ?_, ?_⟩
      · rw [HTV.out, HTB2.out]; rfl
      · rw [HTV.out]
        refine own_base (B := w.heap.size + 2) (by omega) ?_
        exact own_set (own_set (own_set (own_set (own_set (own_set HQ.out (by simp) _) (by simp) _) (by simp) _) (by simp) _) (by simp) _) (by simp) _
      · exact ((((((hw5.setCell (by simp) _).setCell (by simp) _).setCell (by simp) _).setCell (by simp) _).setCell (by simp) _).setCell (by simp) _)
set_option maxRecDepth 100000 in
set_option maxHeartbeats 4000000 in
theorem queryTurnS_any (k : Int) (f t : ByteArray) (lo hi : Int) (ps : List Qy) (a : Option Addr) (c D : Nat) (w : World) (ha : QAt w 0 D a ps) (hsz : QSz 1048576 D ps) (hfs : f.size ≤ 1048576) (hts : t.size ≤ 1048576) :
    Calls Tryd.prog 25 #[.agg #[.int .i64 k, .string f, .string t, .int .i64 lo, .int .i64 hi, .slice a ps.length c]] w fun e w' => ∃ p' c', e = .returned (.tuple #[(turnV D (.mk k f t lo hi ps)).agg p' c', .bool (turnB D (.mk k f t lo hi ps))]) ∧ QAt w' w.heap.size (D + 1) p' (turnV D (.mk k f t lo hi ps)).parts ∧ Below w.heap.size w w' := by
  have hb1 : Below w.heap.size w (w.alloc (.cells #[.int .i64 k, .string f, .string t, .int .i64 lo, .int .i64 hi, .slice a ps.length c] 29)) := (Below.refl _ w).alloc (Nat.le_refl _) _
  have hb2 := hb1.alloc hb1.size (.cells #[.int .i64 0, .string ⟨#[]⟩, .string ⟨#[]⟩, .int .i64 0, .int .i64 0, .slice none 0 0] 29)
  have BO := (Blk.new w #[.int .i64 k, .string f, .string t, .int .i64 lo, .int .i64 hi, .slice a ps.length c] 29).alloc (.cells #[.int .i64 0, .string ⟨#[]⟩, .string ⟨#[]⟩, .int .i64 0, .int .i64 0, .slice none 0 0] 29)
  have BZ := Blk.new (w.alloc (.cells #[.int .i64 k, .string f, .string t, .int .i64 lo, .int .i64 hi, .slice a ps.length c] 29)) #[.int .i64 0, .string ⟨#[]⟩, .string ⟨#[]⟩, .int .i64 0, .int .i64 0, .slice none 0 0] 29
  rw [show (w.alloc (.cells #[.int .i64 k, .string f, .string t, .int .i64 lo, .int .i64 hi, .slice a ps.length c] 29)).heap.size = w.heap.size + 1 by simp] at BZ
  have hs2 : ((w.alloc (.cells #[.int .i64 k, .string f, .string t, .int .i64 lo, .int .i64 hi, .slice a ps.length c] 29)).alloc (.cells #[.int .i64 0, .string ⟨#[]⟩, .string ⟨#[]⟩, .int .i64 0, .int .i64 0, .slice none 0 0] 29)).heap.size = w.heap.size + 2 := by simp
  have HA : Hid (∀ wx, Below w.heap.size w wx → QAt wx 0 D a ps) := fun wx h => ha.below h
  have HS : Hid (QSz 1048576 D ps) := hsz
  have HTB : Hid (turnB D (.mk k f t lo hi ps) = (queryB k f t lo hi ps && qyOk (turnQ D (.mk k f t lo hi ps)))) := rfl
  have HTV : Hid (turnV D (.mk k f t lo hi ps) = if turnB D (.mk k f t lo hi ps) = true then turnQ D (.mk k f t lo hi ps) else qyNone) := rfl
  have HFM : Hid (queryB k f t lo hi ps = true → qformB 4 (.mk k f t lo hi ps) = true) := id
  clear ha hsz
  go_enter Tryd.func25, Tryd.ntmps25
  go_wp2_with fail
  generalize (w.alloc (.cells #[.int .i64 k, .string f, .string t, .int .i64 lo, .int .i64 hi, .slice a ps.length c] 29)).alloc (.cells #[.int .i64 0, .string ⟨#[]⟩, .string ⟨#[]⟩, .int .i64 0, .int .i64 0, .slice none 0 0] 29) = w2 at *
  refine (queryOkS_any k f t lo hi ps a c D _ (HA.out _ hb2) HS.out hfs hts).mono ?_
  rintro e w3 ⟨rfl, hb3⟩
  have BO3 := BO.below hb3 (by omega)
  have BZ3 := BZ.below hb3 (by omega)
  have hw3 := hb2.trans (hb3.mono hb2.size)
  have hz3 : w.heap.size + 2 ≤ w3.heap.size := by have := hb3.size; omega
  have z0 := BZ3.cell 0
  have z1 := BZ3.cell 1
  have z2 := BZ3.cell 2
  have z3 := BZ3.cell 3
  have z4 := BZ3.cell 4
  have z5 := BZ3.cell 5
  have f0 := BZ3.frozen 0
  have f1 := BZ3.frozen 1
  have f2 := BZ3.frozen 2
  have f3 := BZ3.frozen 3
  have f4 := BZ3.frozen 4
  have f5 := BZ3.frozen 5
  simp at z0 z1 z2 z3 z4 z5
  clear BO BZ hb1 hb2 hb3 hs2
  cases h1 : queryB k f t lo hi ps with
  | false =>
    rw [h1, Bool.false_and] at HTB
    rw [HTB.out, if_neg (by decide)] at HTV
    clear BO3 BZ3 HFM HA HS
    go_wp2
    refine bodyPost_ret (v := .tuple #[.agg #[.int .i64 0, .string ⟨#[]⟩, .string ⟨#[]⟩, .int .i64 0, .int .i64 0, .slice none 0 0], .bool false]) (by simp [results, Tryd.results25, go_sem, z0, z1, z2, z3, z4, z5]) rfl ⟨none, 0, ?_, ?_, ?_⟩
    · rw [HTV.out, HTB.out]; rfl
    · rw [HTV.out]; exact fun hp => absurd hp (Nat.not_lt_zero _)
    · exact ((((((hw3.setCell (by simp) _).setCell (by simp) _).setCell (by simp) _).setCell (by simp) _).setCell (by simp) _).setCell (by simp) _)
  | true =>
    have HF4 : Hid (qformB 4 (.mk k f t lo hi ps) = true) := HFM.out h1
    rw [h1, Bool.true_and] at HTB
    have hts' := turn_sz (n := 1048576) (by decide) D 4 (.mk k f t lo hi ps) HF4.out HS.out hfs hts
    have hmk := turnS_any D w3.heap.size 4 k f t lo hi ps a c w3 HF4.out ((HA.out _ hw3).av.of (Nat.le_refl _) fun b _ hlt => ⟨rfl, hlt⟩) (Nat.le_refl _) HS.out
    generalize turnQ D (.mk k f t lo hi ps) = q' at *
    obtain ⟨k', f', t', lo', hi', ps'⟩ := q'
    simp only [Qy.kind, Qy.field, Qy.text, Qy.low, Qy.high, Qy.parts] at hmk hts'
    have HMK : Hid (Calls _ _ _ _ _) := hmk
    have HZ : Hid (QSz 1048576 (D + 1) ps' ∧ f'.size ≤ 1048576 ∧ t'.size ≤ 1048576) := hts'
    have HTB2 : Hid (turnB D (.mk k f t lo hi ps) = queryB k' f' t' lo' hi' ps') := HTB.out
    have y0 := BO3.cell 0
    have y1 := BO3.cell 1
    have y2 := BO3.cell 2
    have y3 := BO3.cell 3
    have y4 := BO3.cell 4
    have y5 := BO3.cell 5
    simp at y0 y1 y2 y3 y4 y5
    clear hmk hts' HF4 HFM HTB z0 z1 z2 z3 z4 z5 f0 f1 f2 f3 f4 f5
    go_wp2_with fail
    refine HMK.out.mono ?_
    rintro e wt ⟨pt, ct, rfl, hqt, hbt⟩
    have hat : QAt wt 0 (D + 1) pt ps' := (hqt.of (S' := fun b => 0 ≤ b) (Nat.le_refl _) fun b _ _ => ⟨rfl, Nat.zero_le _⟩).at
    have hwt := hw3.trans (hbt.mono hw3.size)
    have hzt : w.heap.size + 2 ≤ wt.heap.size := by have := hbt.size; omega
    have BZt := BZ3.below hbt BZ3.lt
    clear BO3 BZ3 y0 y1 y2 y3 y4 y5 HMK hbt hqt
    go_wp2_with fail
    refine (ownS_any (D + 1) k' f' t' lo' hi' ps' pt ct wt hat HZ.out.1).mono ?_
    rintro e w4 ⟨p4, c4, rfl, hq4, hb4⟩
    have hA4 : Below w4.heap.size w4 (w4.alloc (.cells #[.int .i64 k', .string f', .string t', .int .i64 lo', .int .i64 hi', .slice p4 ps'.length c4] 29)) := (Below.refl _ _).alloc (Nat.le_refl _) _
    have hw4 := hwt.trans (hb4.mono hwt.size)
    have hw4a := hw4.trans (hA4.mono hw4.size)
    have BZ4 := (BZt.below hb4 BZt.lt).alloc (.cells #[.int .i64 k', .string f', .string t', .int .i64 lo', .int .i64 hi', .slice p4 ps'.length c4] 29)
    have BX4 := Blk.new w4 #[.int .i64 k', .string f', .string t', .int .i64 lo', .int .i64 hi', .slice p4 ps'.length c4] 29
    have hq4a := hq4.below hA4
    have hz4 : w.heap.size + 2 ≤ w4.heap.size := by have := hb4.size; omega
    have hq4b := hq4a.base hzt
    clear BZt hat hwt hb4 hw4 hA4 hq4 hq4a
    go_wp2_with fail
    refine (queryOkS_any k' f' t' lo' hi' ps' p4 c4 (D + 1) _ (hq4b.base (Nat.zero_le _)) HZ.out.1 HZ.out.2.1 HZ.out.2.2).mono ?_
    rintro e w5 ⟨rfl, hb5⟩
    have BZ5 := BZ4.below hb5 BZ4.lt
    have BX5 := BX4.below hb5 BX4.lt
    have hw5 := hw4a.trans (hb5.mono hw4a.size)
    have HQ : Hid (QAt w5 (w.heap.size + 2) (D + 1) p4 ps') := hq4b.below hb5
    have z0 := BZ5.cell 0
    have z1 := BZ5.cell 1
    have z2 := BZ5.cell 2
    have z3 := BZ5.cell 3
    have z4 := BZ5.cell 4
    have z5 := BZ5.cell 5
    have f0 := BZ5.frozen 0
    have f1 := BZ5.frozen 1
    have f2 := BZ5.frozen 2
    have f3 := BZ5.frozen 3
    have f4 := BZ5.frozen 4
    have f5 := BZ5.frozen 5
    have x0 := BX5.cell 0
    have x1 := BX5.cell 1
    have x2 := BX5.cell 2
    have x3 := BX5.cell 3
    have x4 := BX5.cell 4
    have x5 := BX5.cell 5
    simp at z0 z1 z2 z3 z4 z5 x0 x1 x2 x3 x4 x5
    have hlx : w4.heap.size < w5.heap.size := BX5.lt
    clear BZ4 BX4 BZ5 BX5 hb5 hw4a hq4b HA HS HZ
    cases h2 : queryB k' f' t' lo' hi' ps' with
    | false =>
      rw [h2] at HTB2
      rw [HTB2.out, if_neg (by decide)] at HTV
      go_wp2
      refine bodyPost_ret (v := .tuple #[.agg #[.int .i64 0, .string ⟨#[]⟩, .string ⟨#[]⟩, .int .i64 0, .int .i64 0, .slice none 0 0], .bool false]) (by simp [results, Tryd.results25, go_sem, z0, z1, z2, z3, z4, z5]) rfl ⟨none, 0, ?_, ?_, ?_⟩
      · rw [HTV.out, HTB2.out]; rfl
      · rw [HTV.out]; exact fun hp => absurd hp (Nat.not_lt_zero _)
      · exact ((((((hw5.setCell (by simp) _).setCell (by simp) _).setCell (by simp) _).setCell (by simp) _).setCell (by simp) _).setCell (by simp) _)
    | true =>
      rw [h2] at HTB2
      rw [HTB2.out, if_pos rfl] at HTV
      go_wp2
      refine bodyPost_ret (v := .tuple #[.agg #[.int .i64 k', .string f', .string t', .int .i64 lo', .int .i64 hi', .slice p4 ps'.length c4], .bool true]) (by simp [results, Tryd.results25, go_sem, z0, z1, z2, z3, z4, z5]) rfl ⟨p4, c4, ?_, ?_, ?_⟩
      · rw [HTV.out, HTB2.out]; rfl
      · rw [HTV.out]
        refine QAt.base (B := w.heap.size + 2) (by omega) ?_
        exact ((((((HQ.out.set (by simp) _).set (by simp) _).set (by simp) _).set (by simp) _).set (by simp) _).set (by simp) _)
      · exact ((((((hw5.setCell (by simp) _).setCell (by simp) _).setCell (by simp) _).setCell (by simp) _).setCell (by simp) _).setCell (by simp) _)
end Go.Proofs.YtfakoalkbcnejaaDoor

/- The marks that the exact laws lay into an answer and look for again: markText. -/
namespace Go.Proofs.YtfakoalkbcnejaaDoor
open Go.RowKit

def digU (k : Nat) : UInt8 := UInt8.ofNat (48 + k % 10)
theorem digU_toNat (k : Nat) : ((digU k).toNat : Int) = 48 + (k : Int) % 10 := by
  unfold digU
  rw [UInt8.toNat_ofNat']
  omega
def decF : Nat → Nat → ByteArray → ByteArray
  | 0, _, o => o
  | f + 1, k, o => if k = 0 then o else decF f (k / 10) (⟨#[digU k]⟩ ++ o)
def markT (k : Nat) : ByteArray := ⟨#[109]⟩ ++ decF k k ⟨#[]⟩
theorem decF_step (f j : Nat) (o : ByteArray) (hj : j ≠ 0) (hf : j ≤ f) : ∃ f', j / 10 ≤ f' ∧ decF f j o = decF f' (j / 10) (⟨#[digU j]⟩ ++ o) := by
  cases f with
  | zero => omega
  | succ f' => exact ⟨f', by omega, by rw [decF, if_neg hj]⟩
theorem decF_zero (f : Nat) (o : ByteArray) : decF f 0 o = o := by
  cases f with
  | zero => rfl
  | succ f' => rw [decF, if_pos rfl]

set_option maxHeartbeats 400000 in
theorem markText_any (k : Nat) (w : World) (hk : k ≤ 1099511627776) (hk1 : 1 ≤ k) :
    Calls Tryd.prog 49 #[.int .i64 k] w fun e w' => e = .returned (.string (markT k)) ∧ Below w.heap.size w w' := by
  go_enter Tryd.func49, Tryd.ntmps49
  go_wp2
  go_loopw [0, 3] (fun i o wr => ∃ (j f : Nat) (t : ByteArray), i = .int .i64 j ∧ o = .string t ∧ t.size + j ≤ k ∧ j ≤ f ∧ decF f j t = decF k k ⟨#[]⟩ ∧ Below w.heap.size w wr) (fun i _ _ => (intOf i).toNat)
  case atStart => exact ⟨k, k, ⟨#[]⟩, rfl, rfl, by show 0 + k ≤ k; omega, Nat.le_refl _, rfl, Below.refl _ _⟩
  case round =>
    obtain ⟨j, f, t, rfl, rfl, hsz, hjf, hd, hbel⟩ := hrel
    by_cases hj : j = 0
    · subst hj
      rw [decF_zero] at hd
      have HD : Hid (t = decF k k ⟨#[]⟩) := hd
      clear hd
      go_wp2
      go_ret
      exact ⟨ret_string (by rw [HD.out]; rfl), hbel⟩
    · obtain ⟨f', hf', he⟩ := decF_step f j t hj hjf
      have HD : Hid (decF f' (j / 10) (⟨#[digU j]⟩ ++ t) = decF k k ⟨#[]⟩) := by unfold Hid; rw [← he]; exact hd
      clear hd he
      have hbs := hbel.size
      have hback := fun (W : World) (C : Nat) => run_convert_bytes_back (P := Tryd.prog) (W.alloc (.cells #[.int .u8 (48 + (j : Int) % 10)] 5)) 47 9 5 ⟨W.heap.size, 0, none⟩ C [digU j] Tryd.underlying47 Tryd.underlying5 Tryd.underlying9 (by
        intro i hi
        have hi0 : i = 0 := by simpa using hi
        subst hi0
        rw [addr_add0, World.cell?_alloc_new]
        simp [digU_toNat])
      simp only [List.length_singleton] at hback
      go_wp2
      go_roundw
      case rel => exact ⟨j / 10, f', ⟨#[digU j]⟩ ++ t, by go_num, rfl, by rw [ByteArray.size_append]; show 1 + t.size + j / 10 ≤ k; omega, hf', HD.out, hbel.alloc hbs _⟩
      case measure => simp [intOf]; omega
end Go.Proofs.YtfakoalkbcnejaaDoor

/- markQueryS lays marks into a tree that lies in blocks of its own; heldQueryS finds them. -/
namespace Go.Proofs.YtfakoalkbcnejaaDoor
open Go.RowKit
set_option linter.unusedVariables false

/-- A tree bears the marks from k on. -/
def MarkedQ : Nat → Nat → List Qy → Prop
  | 0, _, _ => True
  | d + 1, k, ps => ∀ i, i < ps.length → (qat ps i).kind = ((k + qsum (cntf d ps) i : Nat) : Int) ∧ (qat ps i).field = markT (k + qsum (cntf d ps) i + 1) ∧ (qat ps i).text = markT (k + qsum (cntf d ps) i + 2) ∧ (qat ps i).low = ((k + qsum (cntf d ps) i + 3 : Nat) : Int) ∧ (qat ps i).high = ((k + qsum (cntf d ps) i + 4 : Nat) : Int) ∧ MarkedQ d (k + qsum (cntf d ps) i + 5) (qat ps i).parts
def MkOne (d m : Nat) (q : Qy) : Prop := q.kind = (m : Int) ∧ q.field = markT (m + 1) ∧ q.text = markT (m + 2) ∧ q.low = ((m + 3 : Nat) : Int) ∧ q.high = ((m + 4 : Nat) : Int) ∧ MarkedQ d (m + 5) q.parts
theorem qat_set (ps : List Qy) (j : Nat) (q : Qy) (hj : j < ps.length) (i : Nat) : qat (ps.set j q) i = if i = j then q else qat ps i := by
  unfold qat
  rw [List.getD_eq_getElem?_getD, List.getD_eq_getElem?_getD, List.getElem?_set]
  by_cases e : i = j
  · subst e
    rw [if_pos rfl, if_pos rfl, if_pos hj]
    rfl
  · rw [if_neg (fun h => e h.symm), if_neg e]
theorem set5_at {xs : List Value} {k : Nat} (v0 v1 v2 v3 v4 : Value) (hk : k * 6 + 5 < xs.length) : ∀ i j, j < 6 → (((((xs.set (k * 6) v0).set (k * 6 + 1) v1).set (k * 6 + 2) v2).set (k * 6 + 3) v3).set (k * 6 + 4) v4)[i * 6 + j]? = if i = k ∧ j < 5 then [v0, v1, v2, v3, v4][j]? else xs[i * 6 + j]? := by
  intro i j hj
  by_cases e : i = k
  · subst e
    rcases (show j = 0 ∨ j = 1 ∨ j = 2 ∨ j = 3 ∨ j = 4 ∨ j = 5 by omega) with rfl | rfl | rfl | rfl | rfl | rfl
    · rw [if_pos (by omega)]; simp [List.getElem?_set]; omega
    · rw [if_pos (by omega)]; simp [List.getElem?_set]; omega
    · rw [if_pos (by omega)]; simp [List.getElem?_set]; omega
    · rw [if_pos (by omega)]; simp [List.getElem?_set]; omega
    · rw [if_pos (by omega)]; simp [List.getElem?_set]; omega
    · rw [if_neg (by omega), List.getElem?_set_ne (by omega), List.getElem?_set_ne (by omega), List.getElem?_set_ne (by omega), List.getElem?_set_ne (by omega), List.getElem?_set_ne (by omega)]
  · rw [if_neg (by omega), List.getElem?_set_ne (by omega), List.getElem?_set_ne (by omega), List.getElem?_set_ne (by omega), List.getElem?_set_ne (by omega), List.getElem?_set_ne (by omega)]
structure MSt (w : World) (d g c k j : Nat) (ps qs : List Qy) (fps : Nat → List Nat) (xs : List Value) : Prop where
  len : qs.length = ps.length
  row : w.ownsRow g 29 6 (.slice (some ⟨g, 0, none⟩) ps.length c) ps.length xs
  el : ∀ i, i < ps.length → ∃ p c', Qx xs i (qat qs i) p c' ∧ QOwn w d p c' (qat qs i).parts (fps i)
  cnt : ∀ i, i < ps.length → qcnt d (qat qs i).parts = qcnt d (qat ps i).parts
  done : ∀ i, i < j → MkOne d (k + qsum (cntf d ps) i) (qat qs i)
theorem MSt.next {wr w6 w7 : World} {d g c k j : Nat} {ps qs pp : List Qy} {fps : Nat → List Nat} {xs : List Value} {p : Option Addr} {c' : Nat} (h : MSt wr d g c k j ps qs fps xs) (hj : j < ps.length) (hnd : (g :: fpAll fps ps.length).Nodup) (hx : Qx xs j (qat qs j) p c') (hg : wr.grownBy w6 (some g))
    (ho : w6.ownsRow g 29 6 (.slice (some ⟨g, 0, none⟩) ps.length c) ps.length (((((xs.set (j * 6) (.int .i64 ((k + qsum (cntf d ps) j : Nat) : Int))).set (j * 6 + 1) (.string (markT (k + qsum (cntf d ps) j + 1)))).set (j * 6 + 2) (.string (markT (k + qsum (cntf d ps) j + 2)))).set (j * 6 + 3) (.int .i64 ((k + qsum (cntf d ps) j + 3 : Nat) : Int))).set (j * 6 + 4) (.int .i64 ((k + qsum (cntf d ps) j + 4 : Nat) : Int))))
    (hq : QOwn w7 d p c' pp (fps j)) (hl : pp.length = (qat qs j).parts.length) (ht : Touch (fps j) w6 w7) (hm : MarkedQ d (k + qsum (cntf d ps) j + 5) pp) (hc : qcnt d pp = qcnt d (qat qs j).parts) :
    MSt w7 d g c k (j + 1) ps (qs.set j (.mk ((k + qsum (cntf d ps) j : Nat) : Int) (markT (k + qsum (cntf d ps) j + 1)) (markT (k + qsum (cntf d ps) j + 2)) ((k + qsum (cntf d ps) j + 3 : Nat) : Int) ((k + qsum (cntf d ps) j + 4 : Nat) : Int) pp)) fps (((((xs.set (j * 6) (.int .i64 ((k + qsum (cntf d ps) j : Nat) : Int))).set (j * 6 + 1) (.string (markT (k + qsum (cntf d ps) j + 1)))).set (j * 6 + 2) (.string (markT (k + qsum (cntf d ps) j + 2)))).set (j * 6 + 3) (.int .i64 ((k + qsum (cntf d ps) j + 3 : Nat) : Int))).set (j * 6 + 4) (.int .i64 ((k + qsum (cntf d ps) j + 4 : Nat) : Int))) := by
  have hjq : j < qs.length := by rw [h.len]; exact hj
  have hxl := h.row.1
  have hgn : ∀ i, i < ps.length → g ∉ fps i := fun i hi hm => (List.nodup_cons.1 hnd).1 (mem_fpAll.2 ⟨i, hi, hm⟩)
  have hap := (List.nodup_cons.1 hnd).2
  have hglt := (ho.lt g rfl).2
  refine ⟨by rw [List.length_set]; exact h.len, row_block ho (ht.2 g hglt (hgn j hj)), fun i hi => ?_, fun i hi => ?_, fun i hi => ?_⟩
  · rw [qat_set _ _ _ hjq]
    by_cases e : i = j
    · subst e
      simp only [if_pos]
      refine ⟨p, c', fun jj hjj => ?_, hq⟩
      rw [set5_at _ _ _ _ _ (by omega) i jj hjj]
      by_cases h5 : jj < 5
      · rw [if_pos ⟨rfl, h5⟩]
        rcases (show jj = 0 ∨ jj = 1 ∨ jj = 2 ∨ jj = 3 ∨ jj = 4 by omega) with rfl | rfl | rfl | rfl | rfl <;> rfl
      · rw [if_neg (by omega), hx jj hjj]
        obtain rfl : jj = 5 := by omega
        show some (Value.slice p (qat qs i).parts.length c') = some (.slice p pp.length c')
        rw [hl]
    · simp only [if_neg e]
      obtain ⟨p', c2, hx', hq'⟩ := h.el i hi
      refine ⟨p', c2, fun jj hjj => ?_, hq'.kept fun b hb => ?_⟩
      · rw [set5_at _ _ _ _ _ (by omega) i jj hjj, if_neg (fun h => e h.1)]
        exact hx' jj hjj
      · have hbl := hq'.lt b hb
        rw [ht.2 b (Nat.lt_of_lt_of_le hbl hg.size) (fpAll_apart hap hi hj e hb), hg.block b hbl (fun e => by cases e; exact hgn i hi hb)]
  · rw [qat_set _ _ _ hjq]
    by_cases e : i = j
    · subst e
      rw [if_pos rfl]
      exact hc.trans (h.cnt i hi)
    · rw [if_neg e]
      exact h.cnt i hi
  · rw [qat_set _ _ _ hjq]
    by_cases e : i = j
    · subst e
      rw [if_pos rfl]
      exact ⟨rfl, rfl, rfl, rfl, rfl, hm⟩
    · rw [if_neg e]
      exact h.done i (by omega)
theorem qsum_ge {f : Nat → Nat} : ∀ {n : Nat}, (∀ i, 1 ≤ f i) → n ≤ qsum f n
  | 0, _ => Nat.le_refl _
  | n + 1, h => by
    have := qsum_ge (n := n) h
    have := h n
    show _ ≤ qsum f n + f n
    omega
theorem QOwn.len_le {w : World} : ∀ {d : Nat} {a : Option Addr} {c : Nat} {ps : List Qy} {fp : List Nat}, QOwn w d a c ps fp → ps.length ≤ qcnt d ps
  | 0, _, _, _, _, h => by rw [h.1]; exact Nat.le_refl _
  | d + 1, _, _, ps, _, h => by
    rw [qcnt_succ]
    exact qsum_ge fun i => by unfold cntf; omega
/-- markQueryS at trees that are at most d deep. -/
def MarkQS (d : Nat) : Prop := ∀ (k : Nat) (ps : List Qy) (a : Option Addr) (c : Nat) (fp : List Nat) (w : World), QOwn w d a c ps fp → 1 ≤ k → k + qcnt d ps ≤ 1099511627 →
  Calls Tryd.prog 48 #[.slice a ps.length c, .int .i64 k] w fun e w' => ∃ ps' : List Qy, e = .returned (.int .i64 ((k + qcnt d ps : Nat) : Int)) ∧ ps'.length = ps.length ∧ QOwn w' d a c ps' fp ∧ MarkedQ d k ps' ∧ qcnt d ps' = qcnt d ps ∧ Touch fp w w'
theorem markQS_nil (d k c : Nat) (a : Option Addr) (w : World) : Calls Tryd.prog 48 #[.slice a 0 c, .int .i64 k] w fun e w' => e = .returned (.int .i64 (k : Int)) ∧ w' = w := by
  go_enter Tryd.func48, Tryd.ntmps48
  go_wp2
  refine wp_loop_rounds 1 ?_
  rw [rounds_succ]
  go_wp2
  go_ret
  exact ⟨rfl, rfl⟩
theorem markQS_zero : MarkQS 0 := by
  intro k ps a c fp w hq _ _
  obtain ⟨rfl, rfl⟩ := hq
  refine (markQS_nil 0 k c a w).mono ?_
  rintro e w' ⟨rfl, rfl⟩
  exact ⟨[], rfl, rfl, ⟨rfl, rfl⟩, trivial, rfl, Touch.refl _ _⟩
set_option maxRecDepth 100000 in
set_option maxHeartbeats 4000000 in
theorem markQS_step {d : Nat} (hF : MarkQS d) : MarkQS (d + 1) := by
  intro k ps a c fp w hq hk1 hkc
  have hpl0 := hq.len_le
  have hpl : ps.length ≤ 1099511627 := by omega
  clear hpl0
  rcases hq with ⟨rfl, rfl⟩ | ⟨g, xs0, fps, h0, rfl, ho, rfl, hnd, hel⟩
  · refine (markQS_nil (d + 1) k c a w).mono ?_
    rintro e w' ⟨rfl, rfl⟩
    exact ⟨[], rfl, rfl, .inl ⟨rfl, rfl⟩, fun i hi => absurd hi (by simp), rfl, Touch.refl _ _⟩
  have HF : Hid (MarkQS d) := hF
  have HND : Hid (g :: fpAll fps ps.length).Nodup := hnd
  have HM0 : Hid (MSt w d g c k 0 ps ps fps xs0) := ⟨rfl, ho, hel, fun _ _ => rfl, fun i hi => by omega⟩
  rw [qcnt_succ] at hkc ⊢
  have HKC : Hid (∀ j, j < ps.length → k + qsum (cntf d ps) j + 5 + qcnt d (qat ps j).parts ≤ 1099511627) := fun j hj => by
    have h1 := qsum_le (f := cntf d ps) hj
    have h2 : cntf d ps j = 5 + qcnt d (qat ps j).parts := rfl
    omega
  clear hF hnd ho hel hkc
  go_enter Tryd.func48, Tryd.ntmps48
  go_wp2
  go_loopw [1, 5] (fun kk i wr => ∃ (j : Nat) (qs : List Qy) (xs : List Value), j ≤ ps.length ∧ kk = .int .i64 ((k + qsum (cntf d ps) j : Nat) : Int) ∧ i = .int .i64 j ∧ MSt wr d g c k j ps qs fps xs ∧ Touch (g :: fpAll fps ps.length) w wr) (fun _ i _ => ps.length - (intOf i).toNat)
  case atStart => exact ⟨0, ps, xs0, Nat.zero_le _, rfl, rfl, HM0.out, Touch.refl _ _⟩
  case round =>
    obtain ⟨j, qs, xs, hj, rfl, rfl, hm, htw⟩ := hrel
    clear HM0
    by_cases hlt : j < ps.length
    · have hji : (j : Int) < (ps.length : Int) := by omega
      have HM : Hid (MSt wr d g c k j ps qs fps xs) := hm
      have HTW : Hid (Touch (g :: fpAll fps ps.length) w wr) := htw
      obtain ⟨p, c', hx, hqo⟩ := hm.el j hlt
      have HX : Hid (Qx xs j (qat qs j) p c') := hx
      have HQO : Hid (QOwn wr d p c' (qat qs j).parts (fps j)) := hqo
      have ho := hm.row
      have hxl := ho.1
      have hcn := hm.cnt j hlt
      have hkj := HKC.out j hlt
      have hgn : g ∉ fps j := fun hm => (List.nodup_cons.1 HND.out).1 (mem_fpAll.2 ⟨j, hlt, hm⟩)
      have HGN : Hid (g ∉ fps j) := hgn
      have hnext := fun w6 w7 pp h1 h2 h3 h4 h5 h6 h7 => HM.out.next (w6 := w6) (w7 := w7) (pp := pp) hlt HND.out HX.out h1 h2 h3 h4 h5 h6 h7
      have HNX : Hid _ := hnext
      have hx5 := hx 5 (by omega)
      have hpl2 := hqo.len_le
      have HS1 : Hid (k + qsum (cntf d ps) (j + 1) = k + qsum (cntf d ps) j + 5 + qcnt d (qat ps j).parts) := by
        show k + (qsum (cntf d ps) j + (5 + qcnt d (qat ps j).parts)) = _
        omega
      have hk1m : 1 ≤ k + qsum (cntf d ps) j := by omega
      generalize k + qsum (cntf d ps) j = m at *
      generalize qat qs j = q at *
      obtain ⟨kd, f', t', lo', hi', pp⟩ := q
      simp only [Qy.parts] at hx5 hpl2 hcn
      have e1 : ((m + 1 : Nat) : Int) = (m : Int) + 1 := by omega
      have e2 : ((m + 2 : Nat) : Int) = (m : Int) + 2 := by omega
      have e3 : ((m + 3 : Nat) : Int) = (m : Int) + 3 := by omega
      have e4 : ((m + 4 : Nat) : Int) = (m : Int) + 4 := by omega
      have e5 : ((m + 5 : Nat) : Int) = (m : Int) + 5 := by omega
      have HMT1 : Hid (∀ w, Calls Tryd.prog 49 #[.int .i64 ((m : Int) + 1)] w fun e w' => e = .returned (.string (markT (m + 1))) ∧ Below w.heap.size w w') := fun w => by
        have := markText_any (m + 1) w (by omega) (by omega)
        rwa [e1] at this
      have HMT2 : Hid (∀ w, Calls Tryd.prog 49 #[.int .i64 ((m : Int) + 2)] w fun e w' => e = .returned (.string (markT (m + 2))) ∧ Below w.heap.size w w') := fun w => by
        have := markText_any (m + 2) w (by omega) (by omega)
        rwa [e2] at this
      have HFM : Hid (∀ w, QOwn w d p c' pp (fps j) → Calls Tryd.prog 48 #[.slice p pp.length c', .int .i64 ((m : Int) + 5)] w fun e w' => ∃ ps' : List Qy, e = .returned (.int .i64 ((m + 5 + qcnt d pp : Nat) : Int)) ∧ ps'.length = pp.length ∧ QOwn w' d p c' ps' (fps j) ∧ MarkedQ d (m + 5) ps' ∧ qcnt d ps' = qcnt d pp ∧ Touch (fps j) w w') := fun w h => by
        have := HF.out (m + 5) pp p c' (fps j) w h (by omega) (by rw [hcn]; exact hkj)
        rwa [e5] at this
      rw [e3, e4] at HNX
      have HLE : Hid (m + 5 + qcnt d pp = k + qsum (cntf d ps) (j + 1)) := by unfold Hid; rw [hcn]; exact HS1.out.symm
      have HKJ : Hid (m + 5 + qcnt d pp ≤ 1099511627) := by unfold Hid; rw [hcn]; exact hkj
      have hmb : m + 5 ≤ 1099511627 := by omega
      clear e1 e2 e3 e4 e5 hcn hkj HS1
      have c0 := ho.cellAt (j * 6) (by omega)
      rw [List.getElem?_eq_getElem (by omega)] at c0
      have f0 := ho.frozenAt (j * 6)
      obtain ⟨ho1, hg1⟩ := ho.stored (j * 6) (.int .i64 (m : Int))
      have HO1 : Hid ((wr.setCell ⟨g, j * 6, none⟩ (.int .i64 (m : Int))).ownsRow g 29 6 (.slice (some ⟨g, 0, none⟩) ps.length c) ps.length (xs.set (j * 6) (.int .i64 (m : Int)))) := ho1
      have HG1 : Hid (wr.grownBy (wr.setCell ⟨g, j * 6, none⟩ (.int .i64 (m : Int))) (some g)) := hg1
      generalize xs[j * 6] = o0 at c0
      clear ho ho1 hg1 hx hqo hm htw hnext
      go_wp2_with fail
      refine (HMT1.out _).mono ?_
      rintro e w2 ⟨rfl, hb2⟩
      have ho2 : (w2).ownsRow g 29 6 (.slice (some ⟨g, 0, none⟩) ps.length c) ps.length (xs.set (j * 6) (.int .i64 (m : Int))) := HO1.out.kept (grown_of_below (r := none) hb2) (.inr (by simp [Value.ownBlock]))
      have hg2 := grown_then HG1.out (grown_of_below hb2)
      have hx2 := ho2.1
      have c1 := ho2.cellAt (j * 6 + 1) (by omega)
      rw [List.getElem?_eq_getElem (by omega)] at c1
      have f1 := ho2.frozenAt (j * 6 + 1)
      obtain ⟨ho3, hg3⟩ := ho2.stored (j * 6 + 1) (.string (markT (m + 1)))
      have HO3 : Hid ((w2.setCell ⟨g, j * 6 + 1, none⟩ (.string (markT (m + 1)))).ownsRow g 29 6 (.slice (some ⟨g, 0, none⟩) ps.length c) ps.length ((xs.set (j * 6) (.int .i64 (m : Int))).set (j * 6 + 1) (.string (markT (m + 1))))) := ho3
      have HG3 : Hid (wr.grownBy (w2.setCell ⟨g, j * 6 + 1, none⟩ (.string (markT (m + 1)))) (some g)) := grown_then hg2 hg3
      generalize (xs.set (j * 6) (.int .i64 (m : Int)))[j * 6 + 1] = o1 at c1
      clear ho2 hb2 hg2 ho3 hg3 c0 f0 HO1 HG1 HMT1 hx2
      go_wp2_with fail
      refine (HMT2.out _).mono ?_
      rintro e w4 ⟨rfl, hb4⟩
      obtain ⟨X3, hX3⟩ : ∃ X3, (xs.set (j * 6) (.int .i64 (m : Int))).set (j * 6 + 1) (.string (markT (m + 1))) = X3 := ⟨_, rfl⟩
      have HX3 : Hid ((xs.set (j * 6) (.int .i64 (m : Int))).set (j * 6 + 1) (.string (markT (m + 1))) = X3) := hX3
      rw [hX3] at HO3
      have ho4 : (w4).ownsRow g 29 6 (.slice (some ⟨g, 0, none⟩) ps.length c) ps.length (X3) := HO3.out.kept (grown_of_below (r := none) hb4) (.inr (by simp [Value.ownBlock]))
      have hg4 := grown_then HG3.out (grown_of_below hb4)
      have hx4 := ho4.1
      have hd : ∀ jj, jj < 6 → ∃ u, w4.cell? ⟨g, j * 6 + jj, none⟩ = some u := fun jj hjj => by
        rw [ho4.cellAt (j * 6 + jj) (by omega)]
        exact ⟨_, List.getElem?_eq_getElem (by omega)⟩
      obtain ⟨o2, d2⟩ := hd 2 (by omega)
      obtain ⟨o3, d3⟩ := hd 3 (by omega)
      obtain ⟨o4, d4⟩ := hd 4 (by omega)
      have d5 : w4.cell? ⟨g, j * 6 + 5, none⟩ = some (.slice p pp.length c') := by
        rw [ho4.cellAt (j * 6 + 5) (by omega), ← hX3, List.getElem?_set_ne (by omega), List.getElem?_set_ne (by omega)]
        exact hx5
      have f2 := ho4.frozenAt (j * 6 + 2)
      have f3 := ho4.frozenAt (j * 6 + 3)
      have f4 := ho4.frozenAt (j * 6 + 4)
      obtain ⟨ho5, hg5⟩ := ho4.stored (j * 6 + 2) (.string (markT (m + 2)))
      obtain ⟨ho6, hg6⟩ := ho5.stored (j * 6 + 3) (.int .i64 ((m : Int) + 3))
      obtain ⟨ho7, hg7⟩ := ho6.stored (j * 6 + 4) (.int .i64 ((m : Int) + 4))
      have hg8 := grown_then (grown_then (grown_then hg4 hg5) hg6) hg7
      have hq8 := HQO.out.kept fun b hb => hg8.block b (HQO.out.lt b hb) (fun e => by cases e; exact HGN.out hb)
      have HQ8 : Hid _ := hq8
      rw [← hX3] at ho7
      have HO7 : Hid _ := ho7
      have HG8 : Hid _ := hg8
      clear ho4 hb4 hg4 hx4 hd ho5 hg5 ho6 hg6 ho7 hg7 hg8 hq8 hX3 HX3 HO3 HG3 c1 f1 HMT2 hx5
      go_wp2_with fail
      refine (HFM.out _ HQ8.out).mono ?_
      rintro e w9 ⟨pp', rfl, hl9, hq9, hm9, hc9, ht9⟩
      have HM9 : Hid _ := HNX.out _ w9 pp' HG8.out HO7.out hq9 hl9 ht9 hm9 hc9
      have HT9 : Hid (Touch (g :: fpAll fps ps.length) w w9) := (HTW.out.trans (Touch.of_grown HG8.out (List.mem_cons_self ..))).trans (ht9.mono fun b hb => List.mem_cons.2 (.inr (mem_fpAll.2 ⟨j, hlt, hb⟩)))
      have HL9 : Hid (((m + 5 + qcnt d pp : Nat) : Int) = ((k + qsum (cntf d ps) (j + 1) : Nat) : Int)) := by unfold Hid; rw [HLE.out]
      rw [HL9.out]
      obtain ⟨m2, hm2⟩ : ∃ m2, k + qsum (cntf d ps) (j + 1) = m2 := ⟨_, rfl⟩
      rw [hm2]
      have HM2 : Hid (k + qsum (cntf d ps) (j + 1) = m2) := hm2
      clear hm2 HL9 HLE HQ8 HO7 HG8 hq9 hm9 ht9 hl9 hc9 d2 d3 d4 d5 f2 f3 f4 HNX HQO HM HTW HX
      go_wp2
      go_roundw
      case rel => exact ⟨j + 1, _, _, by omega, by rw [HM2.out], by go_num, HM9.out, HT9.out⟩
      case measure => simp [intOf]; omega
    · have hjl : j = ps.length := by omega
      subst hjl
      have HQ : Hid (∃ ps' : List Qy, ps'.length = ps.length ∧ QOwn wr (d + 1) (some ⟨g, 0, none⟩) c ps' (g :: fpAll fps ps.length) ∧ MarkedQ (d + 1) k ps' ∧ qcnt (d + 1) ps' = qsum (cntf d ps) ps.length) := by
        have hcf : ∀ i, i < ps.length → cntf d qs i = cntf d ps i := fun i hi => by unfold cntf; rw [hm.cnt i hi]
        refine ⟨qs, hm.len, .inr ⟨g, xs, fps, by rw [hm.len]; exact h0, rfl, by rw [hm.len]; exact hm.row, by rw [hm.len], HND.out, fun i hi => hm.el i (by rw [← hm.len]; exact hi)⟩, fun i hi => ?_, ?_⟩
        · have hi2 : i < ps.length := by rw [← hm.len]; exact hi
          have e : qsum (cntf d qs) i = qsum (cntf d ps) i := qsum_congr fun i' hi' => hcf i' (by omega)
          rw [e]
          exact hm.done i hi2
        · rw [qcnt_succ, hm.len]
          exact qsum_congr hcf
      have HT : Hid (Touch (g :: fpAll fps ps.length) w wr) := htw
      clear hm htw HF HKC
      go_wp2
      go_ret
      obtain ⟨ps', h1, h2, h3, h4⟩ := HQ.out
      exact ⟨ps', rfl, h1, h2, h3, h4, HT.out⟩
theorem markQS_any : ∀ d, MarkQS d
  | 0 => markQS_zero
  | d + 1 => markQS_step (markQS_any d)
/-- markQuery marks the parts. -/
theorem markQ_any (d k : Nat) (kd lo hi : Int) (f t : ByteArray) (ps : List Qy) (a : Option Addr) (c : Nat) (fp : List Nat) (w : World) (hq : QOwn w d a c ps fp) (hk1 : 1 ≤ k) (hkc : k + qcnt d ps ≤ 1099511627) :
    Calls Tryd.prog 22 #[.agg #[.int .i64 kd, .string f, .string t, .int .i64 lo, .int .i64 hi, .slice a ps.length c], .int .i64 k] w fun e w' => ∃ ps' : List Qy, e = .returned (.int .i64 ((k + qcnt d ps : Nat) : Int)) ∧ ps'.length = ps.length ∧ QOwn w' d a c ps' fp ∧ MarkedQ d k ps' ∧ qcnt d ps' = qcnt d ps ∧ Touch fp w w' := by
  have hb0 : Below w.heap.size w (w.alloc (.cells #[.int .i64 kd, .string f, .string t, .int .i64 lo, .int .i64 hi, .slice a ps.length c] 29)) := (Below.refl _ w).alloc (Nat.le_refl _) _
  have HT0 : Hid (Touch fp w (w.alloc (.cells #[.int .i64 kd, .string f, .string t, .int .i64 lo, .int .i64 hi, .slice a ps.length c] 29))) := Touch.of_below hb0
  have HC := markQS_any d k ps a c fp _ (hq.below hb0) hk1 hkc
  generalize k + qcnt d ps = m at *
  clear hq hb0
  go_enter Tryd.func22, Tryd.ntmps22
  go_wp2_with fail
  refine HC.mono ?_
  rintro e w2 ⟨ps', rfl, h1, h2, h3, h4, h5⟩
  have HE : Hid (ps'.length = ps.length ∧ QOwn w2 d a c ps' fp ∧ MarkedQ d k ps' ∧ qcnt d ps' = qcnt d ps ∧ Touch fp w w2) := ⟨h1, h2, h3, h4, HT0.out.trans h5⟩
  clear h1 h2 h3 h4 h5 HC HT0
  go_wp2
  go_ret
  exact ⟨ps', rfl, HE.out⟩
end Go.Proofs.YtfakoalkbcnejaaDoor

/- heldQueryS finds the marks of a tree. -/
namespace Go.Proofs.YtfakoalkbcnejaaDoor
open Go.RowKit
set_option linter.unusedVariables false

/-- heldQueryS at trees that are at most d deep. -/
def HeldQS (d : Nat) : Prop := ∀ (k : Nat) (ps : List Qy) (a : Option Addr) (c : Nat) (w : World), QAt w 0 d a ps → MarkedQ d k ps → 1 ≤ k → k + qcnt d ps ≤ 1099511627 → ps.length ≤ qcnt d ps →
  Calls Tryd.prog 53 #[.slice a ps.length c, .int .i64 k] w fun e w' => e = .returned (.int .i64 ((k + qcnt d ps : Nat) : Int)) ∧ Below w.heap.size w w'
theorem heldQS_zero : HeldQS 0 := by
  intro k ps a c w hq _ _ _ _
  have hp : ps = [] := hq
  subst hp
  go_enter Tryd.func53, Tryd.ntmps53
  go_wp2
  refine wp_loop_rounds 1 ?_
  rw [rounds_succ]
  go_wp2
  go_ret
  exact ⟨rfl, Below.refl _ _⟩
theorem QAt.len_le {w : World} {B : Nat} : ∀ {d : Nat} {a : Option Addr} {ps : List Qy}, QAt w B d a ps → ps.length ≤ qcnt d ps
  | 0, _, ps, h => by
    have e : ps = [] := h
    rw [e]; exact Nat.le_refl _
  | d + 1, _, ps, _ => by
    rw [qcnt_succ]
    exact qsum_ge fun i => by unfold cntf; omega
set_option maxRecDepth 100000 in
set_option maxHeartbeats 4000000 in
theorem heldQS_step {d : Nat} (hF : HeldQS d) : HeldQS (d + 1) := by
  intro k ps a c w hq hmk hk1 hkc hpl0
  have hpl : ps.length ≤ 1099511627 := by omega
  have HF : Hid (HeldQS d) := hF
  have HA : Hid (∀ wx, Below w.heap.size w wx → QAt wx 0 (d + 1) a ps) := fun wx h => hq.below h
  have HMQ : Hid (MarkedQ (d + 1) k ps) := hmk
  rw [qcnt_succ] at hkc ⊢
  have HKC : Hid (∀ j, j < ps.length → k + qsum (cntf d ps) j + 5 + qcnt d (qat ps j).parts ≤ 1099511627) := fun j hj => by
    have h1 := qsum_le (f := cntf d ps) hj
    have h2 : cntf d ps j = 5 + qcnt d (qat ps j).parts := rfl
    omega
  clear hF hq hmk hkc hpl0
  go_enter Tryd.func53, Tryd.ntmps53
  go_wp2
  go_loopw [1, 5] (fun kk i wr => ∃ j : Nat, j ≤ ps.length ∧ kk = .int .i64 ((k + qsum (cntf d ps) j : Nat) : Int) ∧ i = .int .i64 j ∧ Below w.heap.size w wr) (fun _ i _ => ps.length - (intOf i).toNat)
  case atStart => exact ⟨0, Nat.zero_le _, rfl, rfl, Below.refl _ _⟩
  case round =>
    obtain ⟨j, hj, rfl, rfl, hbel⟩ := hrel
    by_cases hlt : j < ps.length
    · have hji : (j : Int) < (ps.length : Int) := by omega
      obtain ⟨g, off, rfl, _, hg, hc⟩ := (HA.out wr hbel) (by omega)
      obtain ⟨p, c', ⟨c0, c1, c2, c3, c4, c5⟩, hqp⟩ := hc j hlt
      obtain ⟨m0, m1, m2, m3, m4, m5⟩ := HMQ.out j hlt
      have hkj := HKC.out j hlt
      have HS1 : Hid (k + qsum (cntf d ps) (j + 1) = k + qsum (cntf d ps) j + 5 + qcnt d (qat ps j).parts) := by
        show k + (qsum (cntf d ps) j + (5 + qcnt d (qat ps j).parts)) = _
        omega
      have hk1m : 1 ≤ k + qsum (cntf d ps) j := by omega
      generalize k + qsum (cntf d ps) j = m at *
      generalize qat ps j = q at *
      obtain ⟨kd, f', t', lo', hi', pp⟩ := q
      simp only [Qy.kind, Qy.field, Qy.text, Qy.low, Qy.high, Qy.parts] at c0 c1 c2 c3 c4 c5 hqp m0 m1 m2 m3 m4 m5
      subst m0 m1 m2 m3 m4
      have HMT1 : Hid (∀ w, Calls Tryd.prog 49 #[.int .i64 ((m : Int) + 1)] w fun e w' => e = .returned (.string (markT (m + 1))) ∧ Below w.heap.size w w') := fun w => by
        have := markText_any (m + 1) w (by omega) (by omega)
        rwa [show ((m + 1 : Nat) : Int) = (m : Int) + 1 by omega] at this
      have HMT2 : Hid (∀ w, Calls Tryd.prog 49 #[.int .i64 ((m : Int) + 2)] w fun e w' => e = .returned (.string (markT (m + 2))) ∧ Below w.heap.size w w') := fun w => by
        have := markText_any (m + 2) w (by omega) (by omega)
        rwa [show ((m + 2 : Nat) : Int) = (m : Int) + 2 by omega] at this
      rw [show ((m + 3 : Nat) : Int) = (m : Int) + 3 by omega] at c3
      rw [show ((m + 4 : Nat) : Int) = (m : Int) + 4 by omega] at c4
      have HFM : Hid (∀ w, QAt w 0 d p pp → Calls Tryd.prog 53 #[.slice p pp.length c', .int .i64 ((m : Int) + 5)] w fun e w' => e = .returned (.int .i64 ((m + 5 + qcnt d pp : Nat) : Int)) ∧ Below w.heap.size w w') := fun w h => by
        have := HF.out (m + 5) pp p c' w h m5 (by omega) hkj h.len_le
        rwa [show ((m + 5 : Nat) : Int) = (m : Int) + 5 by omega] at this
      have HLE : Hid (((m + 5 + qcnt d pp : Nat) : Int) = ((k + qsum (cntf d ps) (j + 1) : Nat) : Int)) := by unfold Hid; rw [HS1.out]; rfl
      have hmb : m + 5 ≤ 1099511627 := by omega
      have HQP : Hid (∀ wx, Below wr.heap.size wr wx → QAt wx 0 d p pp) := fun wx h => hqp.below h
      have HBE : Hid (Below w.heap.size w wr) := hbel
      clear hc hqp m5 hkj HS1 hbel HF HA HMQ
      go_wp2
      go_region_with (go_at_call 49; refine (HMT1.out _).mono ?_; rintro e w2 ⟨rfl, hb2d⟩; have hb2 : Below wr.heap.size wr w2 := ⟨hb2d.os, hb2d.tape, hb2d.output, hb2d.size, hb2d.block⟩; clear hb2d; have s1 := (hb2.cell (p := ⟨g, off + j * 6 + 1, none⟩) hg).trans c1; have s2 := (hb2.cell (p := ⟨g, off + j * 6 + 2, none⟩) hg).trans c2; have s3 := (hb2.cell (p := ⟨g, off + j * 6 + 3, none⟩) hg).trans c3; have s4 := (hb2.cell (p := ⟨g, off + j * 6 + 4, none⟩) hg).trans c4; have s5 := (hb2.cell (p := ⟨g, off + j * 6 + 5, none⟩) hg).trans c5; have hg2 : g < w2.heap.size := Nat.lt_of_lt_of_le hg hb2.size)
      all_goals
        go_wp2
        go_region_with (go_at_call 49; refine (HMT2.out _).mono ?_; rintro e w4 ⟨rfl, hb4d⟩; have hb4 : Below w2.heap.size w2 w4 := ⟨hb4d.os, hb4d.tape, hb4d.output, hb4d.size, hb4d.block⟩; clear hb4d; have r2 := (hb4.cell (p := ⟨g, off + j * 6 + 2, none⟩) hg2).trans s2; have r3 := (hb4.cell (p := ⟨g, off + j * 6 + 3, none⟩) hg2).trans s3; have r4 := (hb4.cell (p := ⟨g, off + j * 6 + 4, none⟩) hg2).trans s4; have r5 := (hb4.cell (p := ⟨g, off + j * 6 + 5, none⟩) hg2).trans s5)
        all_goals
          have hbr4 : Below wr.heap.size wr w4 := below_trans hb2 hb4
          have hq4 := HQP.out _ hbr4
          have HB4 : Hid (Below w.heap.size w w4) := HBE.out.trans (hbr4.mono HBE.out.size)
          clear c0 c1 c2 c3 c4 c5 s1 s2 s3 s4 s5 hb2 hb4 hbr4
          go_wp2_with fail
          refine (HFM.out _ hq4).mono ?_
          rintro e w5 ⟨rfl, hb5⟩
          have HB5 : Hid (Below w.heap.size w w5) := HB4.out.trans (hb5.mono HB4.out.size)
          clear hb5 hq4 r2 r3 r4 r5 HB4
          rw [HLE.out]
          obtain ⟨m2, hm2⟩ : ∃ m2, k + qsum (cntf d ps) (j + 1) = m2 := ⟨_, rfl⟩
          rw [hm2]
          have HM2 : Hid (k + qsum (cntf d ps) (j + 1) = m2) := hm2
          clear hm2 HLE HMT1 HMT2 HFM HBE HQP
          have hm0 : decide ((m2 : Int) < 0) = false := decide_eq_false (by omega)
          go_wp2
          go_roundw
          case rel => exact ⟨j + 1, by omega, by rw [HM2.out], by go_num, HB5.out⟩
          case measure => simp [intOf]; omega
    · have hjl : j = ps.length := by omega
      subst hjl
      clear HF HA HMQ HKC
      go_wp2
      go_ret
      exact ⟨rfl, hbel⟩
theorem heldQS_any : ∀ d, HeldQS d
  | 0 => heldQS_zero
  | d + 1 => heldQS_step (heldQS_any d)
/-- heldQuery finds the marks of the parts. -/
theorem heldQ_any (d k : Nat) (kd lo hi : Int) (f t : ByteArray) (ps : List Qy) (a : Option Addr) (c : Nat) (w : World) (hq : QAt w 0 d a ps) (hm : MarkedQ d k ps) (hk1 : 1 ≤ k) (hkc : k + qcnt d ps ≤ 1099511627) :
    Calls Tryd.prog 27 #[.agg #[.int .i64 kd, .string f, .string t, .int .i64 lo, .int .i64 hi, .slice a ps.length c], .int .i64 k] w fun e w' => e = .returned (.int .i64 ((k + qcnt d ps : Nat) : Int)) ∧ Below w.heap.size w w' := by
  have hb0 : Below w.heap.size w (w.alloc (.cells #[.int .i64 kd, .string f, .string t, .int .i64 lo, .int .i64 hi, .slice a ps.length c] 29)) := (Below.refl _ w).alloc (Nat.le_refl _) _
  have HC := heldQS_any d k ps a c _ (hq.below hb0) hm hk1 hkc hq.len_le
  generalize k + qcnt d ps = m at *
  have hm0 : decide ((m : Int) < 0) = false := decide_eq_false (by omega)
  clear hq hm
  go_enter Tryd.func27, Tryd.ntmps27
  go_wp2_with fail
  refine HC.mono ?_
  rintro e w2 ⟨rfl, hb2⟩
  have hw2 := hb0.trans (hb2.mono hb0.size)
  clear HC hb0 hb2
  go_wp2
  go_ret
  exact ⟨rfl, hw2⟩
end Go.Proofs.YtfakoalkbcnejaaDoor

/- laws.szQuery and laws.eqQuery: a tree is measured; two of the same are the same. -/
namespace Go.Proofs.YtfakoalkbcnejaaDoor
open Go.RowKit
set_option linter.unusedVariables false

def SzQ (d : Nat) : Prop := ∀ (k : Int) (f t : ByteArray) (lo hi : Int) (ps : List Qy) (a : Option Addr) (c : Nat) (left : Int) (w : World), QAt w 0 d a ps → QSz maxLen d ps → f.size ≤ maxLen → t.size ≤ maxLen → 0 ≤ left → left ≤ 1048576 →
  Calls Tryd.prog 9 #[.agg #[.int .i64 k, .string f, .string t, .int .i64 lo, .int .i64 hi, .slice a ps.length c], .int .i64 left] w fun e w' => ∃ r : Int, e = .returned (.int .i64 r) ∧ -1 ≤ r ∧ r ≤ left ∧ (0 ≤ r → f.size ≤ 1048576 ∧ t.size ≤ 1048576 ∧ QSz 1048576 d ps ∧ (qcnt d ps : Int) ≤ 5 * (left - r)) ∧ Below w.heap.size w w'
def SzQS (d : Nat) : Prop := ∀ (ps : List Qy) (a : Option Addr) (c : Nat) (left : Int) (w : World), QAt w 0 d a ps → QSz maxLen d ps → 0 ≤ left → left ≤ 1048576 →
  Calls Tryd.prog 33 #[.slice a ps.length c, .int .i64 left] w fun e w' => ∃ r : Int, e = .returned (.int .i64 r) ∧ -1 ≤ r ∧ r ≤ left ∧ (0 ≤ r → QSz 1048576 d ps ∧ (qcnt d ps : Int) ≤ 5 * (left - r)) ∧ Below w.heap.size w w'
theorem szQS_zero : SzQS 0 := by
  intro ps a c left w ha _ h0 h1
  have hp : ps = [] := ha
  subst hp
  have hd : decide (left < 0) = false := decide_eq_false (by omega)
  go_enter Tryd.func33, Tryd.ntmps33
  go_wp2
  refine wp_loop_rounds 1 ?_
  rw [rounds_succ]
  go_wp2
  go_ret
  exact ⟨left, rfl, by omega, by omega, fun _ => ⟨rfl, by show ((0 : Nat) : Int) ≤ _; omega⟩, Below.refl _ _⟩
set_option maxRecDepth 100000 in
set_option maxHeartbeats 2000000 in
theorem szQS_step {d : Nat} (hT : SzQ d) : SzQS (d + 1) := by
  intro ps a cap left0 w ha hsz h00 h01
  have HT : Hid (SzQ d) := hT
  have HA : Hid (∀ wx, Below w.heap.size w wx → QAt wx 0 (d + 1) a ps) := fun wx h => ha.below h
  have hz := hsz.len
  unfold maxLen at hz
  have HS : Hid (∀ i, i < ps.length → (qat ps i).field.size ≤ maxLen ∧ (qat ps i).text.size ≤ maxLen ∧ QSz maxLen d (qat ps i).parts) := fun i hi => hsz.2 i hi
  clear ha hsz hT
  by_cases hbig : left0 - (ps.length : Int) < 0
  · go_enter Tryd.func33, Tryd.ntmps33
    go_wp2
    go_ret
    exact ⟨-1, rfl, by omega, by omega, fun h => by omega, Below.refl _ _⟩
  have hbd : decide (left0 - (ps.length : Int) < 0) = false := by simpa using hbig
  go_enter Tryd.func33, Tryd.ntmps33
  go_wp2
  go_loopw [1, 5] (fun l i wr => ∃ (k : Nat) (left : Int), k ≤ ps.length ∧ i = .int .i64 k ∧ l = .int .i64 left ∧ 0 ≤ left ∧ left ≤ left0 ∧ (∀ j, j < k → (qat ps j).field.size ≤ 1048576 ∧ (qat ps j).text.size ≤ 1048576 ∧ QSz 1048576 d (qat ps j).parts) ∧ (qsum (cntf d ps) k : Int) ≤ 5 * (left0 - (ps.length : Int) - left) + 5 * (k : Int) ∧ Below w.heap.size w wr) (fun _ i _ => ps.length - (intOf i).toNat)
  case atStart => exact ⟨0, left0 - ps.length, Nat.zero_le _, rfl, rfl, by omega, by omega, fun j hj => by omega, by show ((0 : Nat) : Int) ≤ _; omega, Below.refl _ _⟩
  case round =>
    obtain ⟨k, left, hk, rfl, rfl, hl0, hl1, hj, hqs, hbel⟩ := hrel
    have HQS : Hid ((qsum (cntf d ps) k : Int) ≤ 5 * (left0 - (ps.length : Int) - left) + 5 * (k : Int)) := hqs
    have HQ1 : Hid (qsum (cntf d ps) (k + 1) = qsum (cntf d ps) k + (5 + qcnt d (qat ps k).parts)) := rfl
    clear hqs
    have HJ : Hid (∀ j, j < k → (qat ps j).field.size ≤ 1048576 ∧ (qat ps j).text.size ≤ 1048576 ∧ QSz 1048576 d (qat ps j).parts) := hj
    clear hj
    by_cases hlt : k < ps.length
    · have hkl : (k : Int) < (ps.length : Int) := by omega
      obtain ⟨g, off, rfl, _, hg, hc⟩ := (HA.out wr hbel) (by omega)
      obtain ⟨p, c, ⟨c0, c1, c2, c3, c4, c5⟩, hq⟩ := hc k hlt
      obtain ⟨s1, s2, s3⟩ := HS.out k hlt
      have HJK : Hid ((qat ps k).field.size ≤ 1048576 ∧ (qat ps k).text.size ≤ 1048576 ∧ QSz 1048576 d (qat ps k).parts → ∀ j, j < k + 1 → (qat ps j).field.size ≤ 1048576 ∧ (qat ps j).text.size ≤ 1048576 ∧ QSz 1048576 d (qat ps j).parts) := fun h j hj => by
        by_cases e : j = k
        · subst e; exact h
        · exact HJ.out j (by omega)
      generalize qat ps k = q at *
      obtain ⟨kd, f, t, lo, hi', pp⟩ := q
      simp only [Qy.kind, Qy.field, Qy.text, Qy.low, Qy.high, Qy.parts] at c0 c1 c2 c3 c4 c5 hq s1 s2 s3 HJK
      clear hc
      go_wp2_with fail
      refine (HT.out kd f t lo hi' pp p c left wr hq s3 s1 s2 hl0 (by omega)).mono ?_
      rintro e w2 ⟨r, rfl, hr0, hr1, hr2, hb2⟩
      have hb3 := hbel.trans (hb2.mono hbel.size)
      have HR2 : Hid (0 ≤ r → f.size ≤ 1048576 ∧ t.size ≤ 1048576 ∧ QSz 1048576 d pp) := fun h => ⟨(hr2 h).1, (hr2 h).2.1, (hr2 h).2.2.1⟩
      have HC2 : Hid (0 ≤ r → (qcnt d pp : Int) ≤ 5 * (left - r)) := fun h => (hr2 h).2.2.2
      have HQ3 : Hid (qsum (cntf d ps) (k + 1) = qsum (cntf d ps) k + (5 + qcnt d pp)) := HQ1.out
      clear c0 c1 c2 c3 c4 c5 hq s1 s2 s3 hr2 hb2
      by_cases hneg : r < 0
      · go_wp2
        go_ret
        exact ⟨-1, rfl, by omega, by omega, fun h => by omega, hb3⟩
      · have hnd : decide (r < 0) = false := by simpa using hneg
        go_wp2
        go_roundw
        case rel => exact ⟨k + 1, r, by omega, by go_num, rfl, by omega, by omega, HJK.out (HR2.out (by omega)), by have h1 := HC2.out (by omega); have h2 := HQS.out; have h3 := HQ3.out; omega, hb3⟩
        case measure => simp [intOf]; omega
    · have hkl : k = ps.length := by omega
      subst hkl
      go_wp2
      go_ret
      exact ⟨left, rfl, by omega, hl1, fun _ => ⟨⟨by omega, HJ.out⟩, by have h2 := HQS.out; show (qsum (cntf d ps) ps.length : Int) ≤ _; omega⟩, hbel⟩
set_option maxHeartbeats 1000000 in
theorem szQ_of {d : Nat} (hS : SzQS d) : SzQ d := by
  intro k f t lo hi ps a c left w ha hsz hf ht h0 h1
  have HS : Hid (SzQS d) := hS
  have hb1 : Below w.heap.size w (w.alloc (.cells #[.int .i64 k, .string f, .string t, .int .i64 lo, .int .i64 hi, .slice a ps.length c] 24)) := (Below.refl _ w).alloc (Nat.le_refl _) _
  have ha1 := ha.below hb1
  unfold maxLen at hf ht
  clear hS ha
  by_cases h2 : left - (f.size : Int) < 0
  · go_enter Tryd.func9, Tryd.ntmps9
    go_wp2
    go_ret
    exact ⟨-1, rfl, by omega, by omega, fun h => by omega, hb1⟩
  · have h2d : decide (left - (f.size : Int) < 0) = false := decide_eq_false h2
    by_cases h3 : left - (f.size : Int) - (t.size : Int) < 0
    · go_enter Tryd.func9, Tryd.ntmps9
      go_wp2
      go_ret
      exact ⟨-1, rfl, by omega, by omega, fun h => by omega, hb1⟩
    · have h3d : decide (left - (f.size : Int) - (t.size : Int) < 0) = false := decide_eq_false h3
      go_enter Tryd.func9, Tryd.ntmps9
      go_wp2_with fail
      refine (HS.out ps a c _ _ ha1 hsz (by omega) (by omega)).mono ?_
      rintro e w2 ⟨r, rfl, hr0, hr1, hr2, hb2⟩
      have hbw := hb1.trans (hb2.mono hb1.size)
      have HR2 : Hid (0 ≤ r → QSz 1048576 d ps) := fun h => (hr2 h).1
      have HC2 : Hid (0 ≤ r → (qcnt d ps : Int) ≤ 5 * (left - (f.size : Int) - (t.size : Int) - r)) := fun h => (hr2 h).2
      clear hr2 hb2 ha1 hb1
      by_cases hneg : r < 0
      · go_wp2
        go_ret
        exact ⟨-1, rfl, by omega, by omega, fun h => by omega, hbw⟩
      · have hnd : decide (r < 0) = false := by simpa using hneg
        go_wp2
        go_ret
        exact ⟨r, rfl, by omega, by omega, fun h => ⟨by omega, by omega, HR2.out h, by have := HC2.out h; omega⟩, hbw⟩
/-- A tree is measured. -/
theorem szQ_any : ∀ d, SzQ d ∧ SzQS d
  | 0 => ⟨szQ_of szQS_zero, szQS_zero⟩
  | d + 1 => ⟨szQ_of (szQS_step (szQ_any d).1), szQS_step (szQ_any d).1⟩

def EqQ (d : Nat) : Prop := ∀ (k : Int) (f t : ByteArray) (lo hi : Int) (ps : List Qy) (a b : Option Addr) (c c' : Nat) (w : World), QAt w 0 d a ps → QAt w 0 d b ps → QSz 1048576 d ps →
  Calls Tryd.prog 13 #[.agg #[.int .i64 k, .string f, .string t, .int .i64 lo, .int .i64 hi, .slice a ps.length c], .agg #[.int .i64 k, .string f, .string t, .int .i64 lo, .int .i64 hi, .slice b ps.length c']] w fun e w' => e = .returned (.bool true) ∧ Below w.heap.size w w'
def EqQS (d : Nat) : Prop := ∀ (ps : List Qy) (a b : Option Addr) (c c' : Nat) (w : World), QAt w 0 d a ps → QAt w 0 d b ps → QSz 1048576 d ps →
  Calls Tryd.prog 37 #[.slice a ps.length c, .slice b ps.length c'] w fun e w' => e = .returned (.bool true) ∧ Below w.heap.size w w'
theorem eqQS_zero : EqQS 0 := by
  intro ps a b c c' w ha _ _
  have hp : ps = [] := ha
  subst hp
  go_enter Tryd.func37, Tryd.ntmps37
  go_wp2
  refine wp_loop_rounds 1 ?_
  rw [rounds_succ]
  go_wp2
  go_ret
  exact ⟨rfl, Below.refl _ _⟩
set_option maxRecDepth 100000 in
set_option maxHeartbeats 2000000 in
theorem eqQS_step {d : Nat} (hT : EqQ d) : EqQS (d + 1) := by
  intro ps a b ca cb w ha hb hsz
  have HT : Hid (EqQ d) := hT
  have HA : Hid (∀ wx, Below w.heap.size w wx → QAt wx 0 (d + 1) a ps) := fun wx h => ha.below h
  have HB : Hid (∀ wx, Below w.heap.size w wx → QAt wx 0 (d + 1) b ps) := fun wx h => hb.below h
  have hz := hsz.len
  have HS : Hid (∀ i, i < ps.length → QSz 1048576 d (qat ps i).parts) := fun i hi => (hsz.2 i hi).2.2
  clear ha hb hsz hT
  go_enter Tryd.func37, Tryd.ntmps37
  go_wp2
  go_loopw [5] (fun i wr => ∃ k : Nat, k ≤ ps.length ∧ i = .int .i64 k ∧ Below w.heap.size w wr) (fun i _ => ps.length - (intOf i).toNat)
  case atStart => exact ⟨0, Nat.zero_le _, rfl, Below.refl _ _⟩
  case round =>
    obtain ⟨k, hk, rfl, hbel⟩ := hrel
    by_cases hlt : k < ps.length
    · have hki : (k : Int) < (ps.length : Int) := by omega
      obtain ⟨g1, o1, rfl, _, hg1, hc1⟩ := (HA.out wr hbel) (by omega)
      obtain ⟨g2, o2, rfl, _, hg2, hc2⟩ := (HB.out wr hbel) (by omega)
      obtain ⟨p1, e1, ⟨c0, c1, c2, c3, c4, c5⟩, hq1⟩ := hc1 k hlt
      obtain ⟨p2, e2, ⟨d0, d1, d2, d3, d4, d5⟩, hq2⟩ := hc2 k hlt
      have hss := HS.out k hlt
      generalize qat ps k = q at *
      obtain ⟨kd, f, t, lo, hi', pp⟩ := q
      simp only [Qy.kind, Qy.field, Qy.text, Qy.low, Qy.high, Qy.parts] at c0 c1 c2 c3 c4 c5 d0 d1 d2 d3 d4 d5 hq1 hq2 hss
      clear hc1 hc2
      go_wp2
      go_region_with (go_at_call 13; refine (HT.out kd f t lo hi' pp p1 p2 e1 e2 _ (by exact hq1.below (below_drew (Below.refl _ _))) (by exact hq2.below (below_drew (Below.refl _ _))) hss).mono ?_; rintro e w2 ⟨rfl, hb2d⟩; have hb2 : Below wr.heap.size wr w2 := ⟨hb2d.os, hb2d.tape, hb2d.output, hb2d.size, hb2d.block⟩; clear hb2d)
      all_goals
        go_wp2
        go_roundw
        case rel => exact ⟨k + 1, by omega, by go_num, hbel.trans (hb2.mono hbel.size)⟩
        case measure => simp [intOf]; omega
    · have hkl : k = ps.length := by omega
      subst hkl
      go_wp2
      go_ret
      exact ⟨rfl, hbel⟩
set_option maxHeartbeats 1000000 in
theorem eqQ_of {d : Nat} (hS : EqQS d) : EqQ d := by
  intro k f t lo hi ps a b c c' w ha hb hsz
  have HS : Hid (EqQS d) := hS
  have hb1 : Below w.heap.size w (w.alloc (.cells #[.int .i64 k, .string f, .string t, .int .i64 lo, .int .i64 hi, .slice a ps.length c] 29)) := (Below.refl _ w).alloc (Nat.le_refl _) _
  have hb2 := hb1.alloc hb1.size (.cells #[.int .i64 k, .string f, .string t, .int .i64 lo, .int .i64 hi, .slice b ps.length c'] 29)
  have ha2 := ha.below hb2
  have hbb := hb.below hb2
  clear hS ha hb
  go_enter Tryd.func13, Tryd.ntmps13
  go_wp2_with fail
  refine (HS.out ps a b c c' _ ha2 hbb hsz).mono ?_
  rintro e w3 ⟨rfl, hb3⟩
  have hbw := hb2.trans (hb3.mono hb2.size)
  clear ha2 hbb hb1 hb2 hb3
  go_wp2
  go_ret
  exact ⟨rfl, hbw⟩
theorem eqQ_any : ∀ d, EqQ d ∧ EqQS d
  | 0 => ⟨eqQ_of eqQS_zero, eqQS_zero⟩
  | d + 1 => ⟨eqQ_of (eqQS_step (eqQ_any d).1), eqQS_step (eqQ_any d).1⟩
end Go.Proofs.YtfakoalkbcnejaaDoor

/- The walk of the law FnExactQueryTurn. -/
namespace Go.Proofs.YtfakoalkbcnejaaDoor
open Go.RowKit
set_option linter.unusedVariables false

theorem form_cnt : ∀ (d D : Nat) (q : Qy), qformB d q = true → d ≤ 4 → qcnt D q.parts + 7 ≤ 27 * 4 ^ d
  | d, 0, q, _, _ => by
    have h3 : 1 ≤ 4 ^ d := Nat.pow_pos (by decide)
    show 0 + 7 ≤ _
    omega
  | 0, D + 1, q, h, _ => by cases h
  | d + 1, D + 1, q, h, hd => by
    obtain ⟨k, f, t, lo, hi, ps⟩ := q
    show qcnt (D + 1) ps + 7 ≤ _
    rw [qcnt_succ]
    have hl : ps.length ≤ 4 := by
      by_cases h7 : k = 7 ∨ k = 8
      · exact form_many h h7
      by_cases h9 : k = 9
      · subst h9
        have := form_not h
        omega
      · have := (form_leaf h (by omega) (by omega) h9).1
        omega
    have hj : ∀ j, j ≤ ps.length → qsum (cntf D ps) j ≤ j * (27 * 4 ^ d - 2) := by
      intro j
      induction j with
      | zero => intro _; exact Nat.zero_le _
      | succ j ih =>
        intro hj
        obtain ⟨d', e, h'⟩ := form_part h (i := j) hj
        obtain rfl : d = d' := by omega
        have h1 := form_cnt d D (qat ps j) h' (by omega)
        have h2 := ih (by omega)
        show qsum (cntf D ps) j + (5 + qcnt D (qat ps j).parts) ≤ _
        rw [Nat.add_mul, Nat.one_mul]
        omega
    have h1 := hj ps.length (Nat.le_refl _)
    have h2 : ps.length * (27 * 4 ^ d - 2) ≤ 4 * (27 * 4 ^ d - 2) := Nat.mul_le_mul_right _ hl
    have h3 : 1 ≤ 4 ^ d := Nat.pow_pos (by decide)
    rw [Nat.pow_succ]
    omega
theorem turn_cnt (D : Nat) (q : Qy) : qcnt (D + 1) (turnV D q).parts ≤ 6912 := by
  unfold turnV
  split
  · have h := ‹turnB D q = true›
    unfold turnB at h
    rw [Bool.and_eq_true] at h
    have h2 : qformB 4 (turnQ D q) = true := by
      have := h.2
      unfold qyOk queryB at this
      rwa [Qy.eta] at this
    have := form_cnt 4 (D + 1) _ h2 (Nat.le_refl _)
    omega
  · exact Nat.zero_le _
theorem turnV_sz (D : Nat) (q : Qy) (hs : QSz 1048576 D q.parts) (hf : q.field.size ≤ 1048576) (ht : q.text.size ≤ 1048576) : QSz 1048576 (D + 1) (turnV D q).parts := by
  unfold turnV
  split
  · have h := ‹turnB D q = true›
    unfold turnB at h
    rw [Bool.and_eq_true] at h
    have h2 : qformB 4 q = true := by
      have := h.1
      unfold qyOk queryB at this
      rwa [Qy.eta] at this
    exact (turn_sz (by decide) D 4 q h2 hs hf ht).1
  · exact ⟨Nat.zero_le _, fun i hi => absurd hi (Nat.not_lt_zero _)⟩
theorem touch_blk {fp : List Nat} {w w' : World} {g : Nat} {C : Array Value} {t : TypeId} (h : Touch fp w w') (hb : Blk w g C t) (hg : g ∉ fp) : Blk w' g C t := (h.2 g hb.lt hg).trans hb
set_option maxRecDepth 100000 in
set_option maxHeartbeats 8000000 in
theorem wFnExactQueryTurn (k : Int) (f t : ByteArray) (lo hi : Int) (ps : List Qy) (a : Option Addr) (c D : Nat) (w : World) (hm : MaxL w) (hf : f.size ≤ maxLen) (ht : t.size ≤ maxLen) (ha : QAt w 0 D a ps) (hsz : QSz maxLen D ps) :
    Calls Tryd.prog 6 #[.agg #[.int .i64 k, .string f, .string t, .int .i64 lo, .int .i64 hi, .slice a ps.length c]] w fun e w' => e = .returned (.bool true) ∧ Below w.heap.size w w' := by
  have hb0 : Below w.heap.size w (w.alloc (.cells #[.int .i64 k, .string f, .string t, .int .i64 lo, .int .i64 hi, .slice a ps.length c] 24)) := (Below.refl _ w).alloc (Nat.le_refl _) _
  have B0 := Blk.new w #[.int .i64 k, .string f, .string t, .int .i64 lo, .int .i64 hi, .slice a ps.length c] 24
  have HM : Hid (∀ wx, Below w.heap.size w wx → MaxL wx) := fun wx h => hm.below h
  have HA : Hid (∀ wx, Below w.heap.size w wx → QAt wx 0 D a ps) := fun wx h => ha.below h
  have HS0 : Hid (QSz maxLen D ps) := hsz
  clear hm ha hsz
  go_enter Tryd.func6, Tryd.ntmps6
  go_wp2_with fail
  refine ((szQ_any D).1 k f t lo hi ps a c 1048576 _ (HA.out _ hb0) HS0.out hf ht (by decide) (by decide)).mono ?_
  rintro e u1 ⟨r, rfl, hr0, hr1, hrr, hb1⟩
  have B1 := B0.below hb1 B0.lt
  have hw1 := below_trans hb0 hb1
  clear B0 hb0 hb1 HS0
  by_cases hneg : r < 0
  · go_wp2
    go_ret
    exact ⟨rfl, hw1⟩
  have hnd : decide (r < 0) = false := by simpa using hneg
  obtain ⟨hf1, ht1, hs1, hcn1⟩ := hrr (by omega)
  have HS : Hid (QSz 1048576 D ps) := hs1
  have HCN : Hid (1 + qcnt D ps ≤ 1099511627) := by unfold Hid; omega
  have hcnt0 := turn_cnt D (.mk k f t lo hi ps)
  have hsz0 := turnV_sz D (.mk k f t lo hi ps) hs1 hf1 ht1
  have hcs := fun wx p c (h : QAt wx 0 D p ps) => queryTurnS_any k f t lo hi ps p c D wx h hs1 hf1 ht1
  have hci := fun wx p c (h : QAt wx 0 D p ps) (hm : MaxL wx) => queryTurnI_any k f t lo hi ps p c D wx h hs1 hf1 ht1 hm
  generalize turnV D (.mk k f t lo hi ps) = tv at *
  generalize turnB D (.mk k f t lo hi ps) = tb at *
  obtain ⟨tk, tf, tt, tlo, thi, tps⟩ := tv
  have HCS : Hid (∀ wx p c, QAt wx 0 D p ps → Calls Tryd.prog 25 #[.agg #[.int .i64 k, .string f, .string t, .int .i64 lo, .int .i64 hi, .slice p ps.length c]] wx fun e w' => ∃ p' c', e = .returned (.tuple #[.agg #[.int .i64 tk, .string tf, .string tt, .int .i64 tlo, .int .i64 thi, .slice p' tps.length c'], .bool tb]) ∧ QAt w' wx.heap.size (D + 1) p' tps ∧ Below wx.heap.size wx w') := hcs
  have HCI : Hid (∀ wx p c, QAt wx 0 D p ps → MaxL wx → Calls Tryd.prog 26 #[.agg #[.int .i64 k, .string f, .string t, .int .i64 lo, .int .i64 hi, .slice p ps.length c]] wx fun e w' => ∃ p' c' fp, e = .returned (.tuple #[.agg #[.int .i64 tk, .string tf, .string tt, .int .i64 tlo, .int .i64 thi, .slice p' tps.length c'], .bool tb]) ∧ (QOwn w' (D + 1) p' c' tps fp ∧ ∀ b ∈ fp, wx.heap.size ≤ b) ∧ Below wx.heap.size wx w') := hci
  have HSZ : Hid (QSz 1048576 (D + 1) tps) := hsz0
  have HCT : Hid (qcnt (D + 1) tps ≤ 6912) := hcnt0
  have hbb : (tb != tb) = false := by simp
  clear hs1 hrr hcn1 hcnt0 hsz0 hcs hci
  have k0 := B1.cell 0
  have k1 := B1.cell 1
  have k2 := B1.cell 2
  have k3 := B1.cell 3
  have k4 := B1.cell 4
  have k5 := B1.cell 5
  simp at k0 k1 k2 k3 k4 k5
  go_wp2_with fail
  refine ((toQ_any D).1 k f t lo hi ps a c u1 (HA.out _ hw1) HS.out).mono ?_
  rintro e u2 ⟨p2, c2, rfl, q2, hb2⟩
  go_wp2_with fail
  refine (HCS.out u2 p2 c2 (q2.base (Nat.zero_le _))).mono ?_
  rintro e u3 ⟨p3, c3, rfl, q3, hb3⟩
  have hA3 : Below u3.heap.size u3 (u3.alloc (.cells #[.int .i64 tk, .string tf, .string tt, .int .i64 tlo, .int .i64 thi, .slice p3 tps.length c3] 29)) := (Below.refl _ _).alloc (Nat.le_refl _) _
  have HW3 : Hid (∀ wx, Below u3.heap.size u3 wx → QAt wx 0 (D + 1) p3 tps) := fun wx h => (q3.base (Nat.zero_le _)).below h
  have B3 := (B1.below (below_trans hb2 hb3) B1.lt).alloc (.cells #[.int .i64 tk, .string tf, .string tt, .int .i64 tlo, .int .i64 thi, .slice p3 tps.length c3] 29)
  have W3 := Blk.new u3 #[.int .i64 tk, .string tf, .string tt, .int .i64 tlo, .int .i64 thi, .slice p3 tps.length c3] 29
  have hlB3 : w.heap.size < u3.heap.size := (B1.below (below_trans hb2 hb3) B1.lt).lt
  have hw3 := below_trans (below_trans hw1 (below_trans hb2 hb3)) hA3
  have HB3A : Hid (Below u3.heap.size u3 (u3.alloc (.cells #[.int .i64 tk, .string tf, .string tt, .int .i64 tlo, .int .i64 thi, .slice p3 tps.length c3] 29))) := hA3
  have hs3a : (u3.alloc (.cells #[.int .i64 tk, .string tf, .string tt, .int .i64 tlo, .int .i64 thi, .slice p3 tps.length c3] 29)).heap.size = u3.heap.size + 1 := by simp
  clear k0 k1 k2 k3 k4 k5 B1 hb2 hb3 hw1 q2 q3 hA3
  have k0 := B3.cell 0
  have k1 := B3.cell 1
  have k2 := B3.cell 2
  have k3 := B3.cell 3
  have k4 := B3.cell 4
  have k5 := B3.cell 5
  simp at k0 k1 k2 k3 k4 k5
  go_wp2_with fail
  refine ((toQO_any D).1 k f t lo hi ps a c _ (HA.out _ hw3) HS.out).mono ?_
  rintro e u4 ⟨p4, c4, fp4, rfl, ⟨q4, hfp4⟩, hb4⟩
  have hA4 : Below u4.heap.size u4 (u4.alloc (.cells #[.int .i64 k, .string f, .string t, .int .i64 lo, .int .i64 hi, .slice p4 ps.length c4] 29)) := (Below.refl _ _).alloc (Nat.le_refl _) _
  have q4a := q4.below hA4
  have hu34 : u3.heap.size + 1 ≤ u4.heap.size := by have := hb4.size; omega
  have HF4 : Hid (∀ b ∈ fp4, u3.heap.size + 1 ≤ b ∧ b < u4.heap.size) := fun b hb => ⟨by have := hfp4 b hb; omega, q4.lt b hb⟩
  have B4 := (B3.below hb4 B3.lt).alloc (.cells #[.int .i64 k, .string f, .string t, .int .i64 lo, .int .i64 hi, .slice p4 ps.length c4] 29)
  have W4 := (W3.below hb4 W3.lt).alloc (.cells #[.int .i64 k, .string f, .string t, .int .i64 lo, .int .i64 hi, .slice p4 ps.length c4] 29)
  have X4 := Blk.new u4 #[.int .i64 k, .string f, .string t, .int .i64 lo, .int .i64 hi, .slice p4 ps.length c4] 29
  have h34 : Below u3.heap.size u3 (u4.alloc (.cells #[.int .i64 k, .string f, .string t, .int .i64 lo, .int .i64 hi, .slice p4 ps.length c4] 29)) := HB3A.out.trans ((hb4.trans (hA4.mono hb4.size)).mono HB3A.out.size)
  have hw4 := below_trans hw3 (hb4.trans (hA4.mono hb4.size))
  have hs4a : (u4.alloc (.cells #[.int .i64 k, .string f, .string t, .int .i64 lo, .int .i64 hi, .slice p4 ps.length c4] 29)).heap.size = u4.heap.size + 1 := by simp
  clear k0 k1 k2 k3 k4 k5 B3 W3 hw3 hb4 q4 hfp4 hA4 hs3a
  go_wp2_with fail
  refine (HCI.out _ p4 c4 (q4a.at (fun _ _ => Nat.zero_le _)) (HM.out _ hw4)).mono ?_
  rintro e u5 ⟨p5, c5, fp5, rfl, ⟨q5, hfp5⟩, hb5⟩
  have hA5 : Below u5.heap.size u5 (u5.alloc (.cells #[.int .i64 tk, .string tf, .string tt, .int .i64 tlo, .int .i64 thi, .slice p5 tps.length c5] 29)) := (Below.refl _ _).alloc (Nat.le_refl _) _
  have q5a := q5.below hA5
  have q45 := (q4a.below hb5).below hA5
  have hu45 : u4.heap.size + 1 ≤ u5.heap.size := by have := hb5.size; omega
  have HF5 : Hid (∀ b ∈ fp5, u4.heap.size + 1 ≤ b ∧ b < u5.heap.size) := fun b hb => ⟨by have := hfp5 b hb; omega, q5.lt b hb⟩
  have B5 := (B4.below hb5 B4.lt).alloc (.cells #[.int .i64 tk, .string tf, .string tt, .int .i64 tlo, .int .i64 thi, .slice p5 tps.length c5] 29)
  have W5 := (W4.below hb5 W4.lt).alloc (.cells #[.int .i64 tk, .string tf, .string tt, .int .i64 tlo, .int .i64 thi, .slice p5 tps.length c5] 29)
  have X5 := (X4.below hb5 X4.lt).alloc (.cells #[.int .i64 tk, .string tf, .string tt, .int .i64 tlo, .int .i64 thi, .slice p5 tps.length c5] 29)
  have G5 := Blk.new u5 #[.int .i64 tk, .string tf, .string tt, .int .i64 tlo, .int .i64 thi, .slice p5 tps.length c5] 29
  have h45 := hb5.trans (hA5.mono hb5.size)
  have h35 : Below u3.heap.size u3 (u5.alloc (.cells #[.int .i64 tk, .string tf, .string tt, .int .i64 tlo, .int .i64 thi, .slice p5 tps.length c5] 29)) := h34.trans (h45.mono h34.size)
  have hw5 := below_trans hw4 h45
  clear B4 W4 X4 hw4 hb5 q5 hfp5 hA5 hs4a h34 h45 q4a
  have y0 := W5.cell 0
  have y1 := W5.cell 1
  have y2 := W5.cell 2
  have y3 := W5.cell 3
  have y4 := W5.cell 4
  have y5 := W5.cell 5
  simp at y0 y1 y2 y3 y4 y5
  have z0 := G5.cell 0
  have z1 := G5.cell 1
  have z2 := G5.cell 2
  have z3 := G5.cell 3
  have z4 := G5.cell 4
  have z5 := G5.cell 5
  simp at z0 z1 z2 z3 z4 z5
  go_wp2_with fail
  refine ((eqQ_any (D + 1)).1 tk tf tt tlo thi tps p5 p3 c5 c3 _ (q5a.at (fun _ _ => Nat.zero_le _)) (HW3.out _ h35) HSZ.out).mono ?_
  rintro e u6 ⟨rfl, hb6⟩
  have HQ6 : Hid (QOwn u6 D p4 c4 ps fp4) := q45.below hb6
  have HG6 : Hid (QOwn u6 (D + 1) p5 c5 tps fp5) := q5a.below hb6
  have B6 := B5.below hb6 B5.lt
  have W6 := W5.below hb6 W5.lt
  have X6 := X5.below hb6 X5.lt
  have G6 := G5.below hb6 G5.lt
  have h36 : Below u3.heap.size u3 u6 := h35.trans (hb6.mono h35.size)
  have hw6 := below_trans hw5 hb6
  have hu56 : u5.heap.size < u6.heap.size := G6.lt
  clear y0 y1 y2 y3 y4 y5 z0 z1 z2 z3 z4 z5 B5 W5 X5 G5 hw5 hb6 q5a q45 h35
  have k0 := B6.cell 0
  have k1 := B6.cell 1
  have k2 := B6.cell 2
  have k3 := B6.cell 3
  have k4 := B6.cell 4
  have k5 := B6.cell 5
  simp at k0 k1 k2 k3 k4 k5
  have x0 := X6.cell 0
  have x1 := X6.cell 1
  have x2 := X6.cell 2
  have x3 := X6.cell 3
  have x4 := X6.cell 4
  have x5 := X6.cell 5
  simp at x0 x1 x2 x3 x4 x5
  have r6 := (HA.out _ hw6).drew
  have hlB := B6.lt
  have hlX := X6.lt
  go_wp2_with fail
  go_region_with (first
    | (go_at_call 11; refine ((toQ_any D).1 k f t lo hi ps a c _ (by exact r6) HS.out).mono ?_; rintro e u7 ⟨p7, c7, rfl, q7, hb7d⟩; have hb7 : Below u6.heap.size u6 u7 := ⟨hb7d.os, hb7d.tape, hb7d.output, hb7d.size, hb7d.block⟩; clear hb7d; obtain ⟨hcl7, hfz7⟩ := bcell hb7; have q7b := (HQ6.out.below hb7).at (B := 0) (fun _ _ => Nat.zero_le _); have q7a := q7.base (Nat.zero_le _))
    | (go_at_call 13; refine ((eqQ_any D).1 k f t lo hi ps p4 p7 c4 c7 _ (by exact q7b) (by exact q7a) HS.out).mono ?_; rintro e u8 ⟨rfl, hb8d⟩; have hb8 : Below u7.heap.size u7 u8 := ⟨hb8d.os, hb8d.tape, hb8d.output, hb8d.size, hb8d.block⟩; clear hb8d))
  all_goals
    have hb68 : Below u6.heap.size u6 u8 := below_trans hb7 hb8
    have HQ8 : Hid (QOwn u8 D p4 c4 ps fp4) := HQ6.out.below hb68
    have HG8 : Hid (QOwn u8 (D + 1) p5 c5 tps fp5) := HG6.out.below hb68
    have B8 := B6.below hb68 B6.lt
    have W8 := W6.below hb68 W6.lt
    have X8 := X6.below hb68 X6.lt
    have G8 := G6.below hb68 G6.lt
    have h38 : Below u3.heap.size u3 u8 := h36.trans (hb68.mono h36.size)
    have hw8 := below_trans hw6 hb68
    have hu58 : u5.heap.size < u8.heap.size := G8.lt
    clear B6 W6 X6 G6 hw6 h36 HQ6 HG6 k0 k1 k2 k3 k4 k5 x0 x1 x2 x3 x4 x5 q7a q7b q7 r6 hcl7 hfz7 hb7 hb8 hb68 hlB hlX
    have x0 := X8.cell 0
    have x1 := X8.cell 1
    have x2 := X8.cell 2
    have x3 := X8.cell 3
    have x4 := X8.cell 4
    have x5 := X8.cell 5
    simp at x0 x1 x2 x3 x4 x5
    have HMK : Hid (Calls Tryd.prog 22 #[.agg #[.int .i64 k, .string f, .string t, .int .i64 lo, .int .i64 hi, .slice p4 ps.length c4], .int .i64 1] u8 fun e w' => ∃ n : Nat, e = .returned (.int .i64 (n : Int)) ∧ Touch fp4 u8 w') := by
      refine (markQ_any D 1 k lo hi f t ps p4 c4 fp4 u8 HQ8.out (Nat.le_refl _) HCN.out).mono ?_
      rintro e w' ⟨_, rfl, _, _, _, _, h⟩
      exact ⟨_, rfl, h⟩
    go_wp2_with fail
    refine HMK.out.mono ?_
    rintro e u9 ⟨n9, rfl, ht9⟩
    have h89 : Below (u3.heap.size + 1) u8 u9 := ht9.below (fun b hb => (HF4.out b hb).1) (by omega)
    have h39 : Below u3.heap.size u3 u9 := h38.trans ⟨h89.os, h89.tape, h89.output, h89.size, fun b hb => h89.block b (by omega)⟩
    have hw9 : Below w.heap.size w u9 := hw8.trans ⟨h89.os, h89.tape, h89.output, h89.size, fun b hb => h89.block b (by omega)⟩
    have B9 := B8.below h89 (by omega)
    have W9 := W8.below h89 (by omega)
    have G9 := touch_blk ht9 G8 (fun hm => by have := (HF4.out _ hm).2; omega)
    have HG9 : Hid (QOwn u9 (D + 1) p5 c5 tps fp5) := HG8.out.kept fun b hb => ht9.2 b (HG8.out.lt b hb) (fun hm => by have h1 := (HF4.out b hm).2; have h2 := (HF5.out b hb).1; omega)
    have hn9 : decide ((n9 : Int) < 0) = false := decide_eq_false (by omega)
    have hu59 : u5.heap.size < u9.heap.size := G9.lt
    clear HQ8 HG8 B8 W8 X8 G8 h38 hw8 x0 x1 x2 x3 x4 x5 HMK ht9 h89 hu58
    have y0 := W9.cell 0
    have y1 := W9.cell 1
    have y2 := W9.cell 2
    have y3 := W9.cell 3
    have y4 := W9.cell 4
    have y5 := W9.cell 5
    simp at y0 y1 y2 y3 y4 y5
    have z0 := G9.cell 0
    have z1 := G9.cell 1
    have z2 := G9.cell 2
    have z3 := G9.cell 3
    have z4 := G9.cell 4
    have z5 := G9.cell 5
    simp at z0 z1 z2 z3 z4 z5
    go_wp2_with fail
    refine ((eqQ_any (D + 1)).1 tk tf tt tlo thi tps p5 p3 c5 c3 _ (HG9.out.at (fun _ _ => Nat.zero_le _)) (HW3.out _ h39) HSZ.out).mono ?_
    rintro e u10 ⟨rfl, hb10⟩
    have HG10 : Hid (QOwn u10 (D + 1) p5 c5 tps fp5) := HG9.out.below hb10
    have B10 := B9.below hb10 B9.lt
    have W10 := W9.below hb10 W9.lt
    have G10 := G9.below hb10 G9.lt
    have h310 : Below u3.heap.size u3 u10 := h39.trans (hb10.mono h39.size)
    have hw10 := below_trans hw9 hb10
    have hu510 : u5.heap.size < u10.heap.size := G10.lt
    clear HG9 B9 W9 G9 h39 hw9 hb10 y0 y1 y2 y3 y4 y5 z0 z1 z2 z3 z4 z5 hu59
    have z0 := G10.cell 0
    have z1 := G10.cell 1
    have z2 := G10.cell 2
    have z3 := G10.cell 3
    have z4 := G10.cell 4
    have z5 := G10.cell 5
    simp at z0 z1 z2 z3 z4 z5
    have hmk := markQ_any (D + 1) 1 tk tlo thi tf tt tps p5 c5 fp5 u10 HG10.out (Nat.le_refl _) (by have := HCT.out; omega)
    have HMK : Hid (Calls _ _ _ _ _) := hmk
    clear hmk
    go_wp2_with fail
    refine HMK.out.mono ?_
    rintro e u11 ⟨pm, rfl, hlm, hqm, hmm, hcm, ht11⟩
    have h1011 : Below (u4.heap.size + 1) u10 u11 := ht11.below (fun b hb => (HF5.out b hb).1) (by omega)
    have h311 : Below u3.heap.size u3 u11 := h310.trans ⟨h1011.os, h1011.tape, h1011.output, h1011.size, fun b hb => h1011.block b (by omega)⟩
    have hw11 : Below w.heap.size w u11 := hw10.trans ⟨h1011.os, h1011.tape, h1011.output, h1011.size, fun b hb => h1011.block b (by omega)⟩
    have B11 := B10.below h1011 (by omega)
    have W11 := W10.below h1011 (by omega)
    have G11 := touch_blk ht11 G10 (fun hm => by have := (HF5.out _ hm).2; omega)
    obtain ⟨mm, hmme⟩ : ∃ mm : Int, ((1 + qcnt (D + 1) tps : Nat) : Int) = mm := ⟨_, rfl⟩
    have hm0 : decide (mm < 0) = false := decide_eq_false (by omega)
    have hmq : (mm != mm) = false := by simp
    have HHD : Hid (∀ wx, QAt wx 0 (D + 1) p5 pm → Calls Tryd.prog 27 #[.agg #[.int .i64 tk, .string tf, .string tt, .int .i64 tlo, .int .i64 thi, .slice p5 tps.length c5], .int .i64 1] wx fun e w' => e = .returned (.int .i64 mm) ∧ Below wx.heap.size wx w') := fun wx h => by
      have := heldQ_any (D + 1) 1 tk tlo thi tf tt pm p5 c5 wx h hmm (Nat.le_refl _) (by rw [hcm]; have := HCT.out; omega)
      rw [hcm, hmme, hlm] at this
      exact this
    have HP11 : Hid (∀ wx, Below u11.heap.size u11 wx → QAt wx 0 (D + 1) p5 pm) := fun wx h => (hqm.at (B := 0) (fun _ _ => Nat.zero_le _)).below h
    rw [hmme]
    clear HMK HG10 B10 W10 G10 h310 hw10 hlm hqm hmm hcm ht11 h1011 hmme z0 z1 z2 z3 z4 z5 hu510
    have z0 := G11.cell 0
    have z1 := G11.cell 1
    have z2 := G11.cell 2
    have z3 := G11.cell 3
    have z4 := G11.cell 4
    have z5 := G11.cell 5
    simp at z0 z1 z2 z3 z4 z5
    go_wp2_with fail
    refine (HHD.out _ (HP11.out _ (Below.refl _ _))).mono ?_
    rintro e u12 ⟨rfl, hb12⟩
    have HB1112 : Hid (Below u11.heap.size u11 u12) := hb12
    have B12 := B11.below hb12 B11.lt
    have W12 := W11.below hb12 W11.lt
    have G12 := G11.below hb12 G11.lt
    have h312 : Below u3.heap.size u3 u12 := h311.trans (hb12.mono h311.size)
    have hw12 := below_trans hw11 hb12
    clear B11 W11 G11 h311 hw11 hb12 z0 z1 z2 z3 z4 z5
    have k0 := B12.cell 0
    have k1 := B12.cell 1
    have k2 := B12.cell 2
    have k3 := B12.cell 3
    have k4 := B12.cell 4
    have k5 := B12.cell 5
    simp at k0 k1 k2 k3 k4 k5
    go_wp2_with fail
    refine ((toQ_any D).1 k f t lo hi ps a c u12 (HA.out _ hw12) HS.out).mono ?_
    rintro e u13 ⟨p13, c13, rfl, q13, hb13⟩
    have hw13 := below_trans hw12 hb13
    go_wp2_with fail
    refine (HCI.out u13 p13 c13 (q13.base (Nat.zero_le _)) (HM.out _ hw13)).mono ?_
    rintro e u14 ⟨p14, c14, fp14, rfl, ⟨q14, _⟩, hb14⟩
    have hA14 : Below u14.heap.size u14 (u14.alloc (.cells #[.int .i64 tk, .string tf, .string tt, .int .i64 tlo, .int .i64 thi, .slice p14 tps.length c14] 29)) := (Below.refl _ _).alloc (Nat.le_refl _) _
    have hb1214 : Below u12.heap.size u12 (u14.alloc (.cells #[.int .i64 tk, .string tf, .string tt, .int .i64 tlo, .int .i64 thi, .slice p14 tps.length c14] 29)) := below_trans (below_trans hb13 hb14) hA14
    have W14 := W12.below hb1214 W12.lt
    have G14 := G12.below hb1214 G12.lt
    have H14 := Blk.new u14 #[.int .i64 tk, .string tf, .string tt, .int .i64 tlo, .int .i64 thi, .slice p14 tps.length c14] 29
    have h314 : Below u3.heap.size u3 (u14.alloc (.cells #[.int .i64 tk, .string tf, .string tt, .int .i64 tlo, .int .i64 thi, .slice p14 tps.length c14] 29)) := h312.trans (hb1214.mono h312.size)
    have hw14 := below_trans hw12 hb1214
    have q14a := (q14.below hA14).at (B := 0) (fun _ _ => Nat.zero_le _)
    have HB14 : Hid (Below u11.heap.size u11 (u14.alloc (.cells #[.int .i64 tk, .string tf, .string tt, .int .i64 tlo, .int .i64 thi, .slice p14 tps.length c14] 29))) := below_trans HB1112.out hb1214
    clear B12 W12 G12 h312 hw12 hw13 hb13 hb14 hA14 hb1214 q13 q14 k0 k1 k2 k3 k4 k5
    have y0 := W14.cell 0
    have y1 := W14.cell 1
    have y2 := W14.cell 2
    have y3 := W14.cell 3
    have y4 := W14.cell 4
    have y5 := W14.cell 5
    simp at y0 y1 y2 y3 y4 y5
    have x0 := H14.cell 0
    have x1 := H14.cell 1
    have x2 := H14.cell 2
    have x3 := H14.cell 3
    have x4 := H14.cell 4
    have x5 := H14.cell 5
    simp at x0 x1 x2 x3 x4 x5
    go_wp2_with fail
    refine ((eqQ_any (D + 1)).1 tk tf tt tlo thi tps p14 p3 c14 c3 _ q14a (HW3.out _ h314) HSZ.out).mono ?_
    rintro e u15 ⟨rfl, hb15⟩
    have G15 := G14.below hb15 G14.lt
    have hw15 := below_trans hw14 hb15
    have HB15 : Hid (Below u11.heap.size u11 u15) := below_trans HB14.out hb15
    clear W14 G14 H14 h314 hw14 hb15 q14a HB14 y0 y1 y2 y3 y4 y5 x0 x1 x2 x3 x4 x5
    have z0 := G15.cell 0
    have z1 := G15.cell 1
    have z2 := G15.cell 2
    have z3 := G15.cell 3
    have z4 := G15.cell 4
    have z5 := G15.cell 5
    simp at z0 z1 z2 z3 z4 z5
    go_wp2_with fail
    refine (HHD.out _ (HP11.out _ HB15.out)).mono ?_
    rintro e u16 ⟨rfl, hb16⟩
    have hw16 := below_trans hw15 hb16
    clear hw15 hb16 HHD G15 z0 z1 z2 z3 z4 z5
    go_wp2
    go_ret
    exact ⟨rfl, hw16⟩
end Go.Proofs.YtfakoalkbcnejaaDoor

/- The wrap of a card whose walk needs the world's shape. -/
namespace Go.Proofs.YtfakoalkbcnejaaDoor
variable {H : Type} {enc : TypeId × Value → H}
theorem wrap_shaped {a : Assume} {C : Checked} {os : Os} {f : FuncId} {fn : Func} {s : ChangeSpec} {conds : List PathCond} {apart fresh handsOn again : Bool} {X : World → Array Value → Prop}
    (hX : ∀ (w w' : World) (args : Array Value), w.heap = w'.heap → X w args → X w' args)
    (own : ownKnob C.prog.godebug = none) (started : os.Started) (noInit : C.prog.inits.idxOf? f = none) (hfn : C.prog.funcs[f]? = some fn)
    (witness : ∃ (w : World) (tape : Tape) (i : Input), w.os = os ∧ (w.forCall tape i).Shaped C.prog ∧ i.vars = [] ∧ Input.okWide C.prog (w.forCall tape i) .any w.heap.size f i ∧
      ((s.pre enc C.prog fn conds apart (w.forCall tape i).memory i.args ∧ X (w.forCall tape i).memory i.args) ∧ sizedMet enc C.prog fn (OpenSpec.ofChange s) apart (w.forCall tape i).memory i.args) ∧ a.holds C.prog (lone (Frame.enter C.prog f i.args .normal) [] (w.forCall tape i)))
    (walk : ∀ (W : World) (base : Nat) (args : Array Value) (ds gs : List (DataW H)) (before : List MemPlace),
      (∀ (j : Nat) t v, fn.params[j]? = some t → args[j]? = some v → Value.okWide C.prog W .any base t v) →
      DataW.Whole enc C.prog fn.params.toList s.vars apart W args.toList ds gs before → X W args → W.ShapedOpen C.prog →
      Calls C.prog f args W fun e W' => ∃ v, e = .returned v ∧ s.post enc C.prog fn apart fresh handsOn again W args v W') :
    ReturnsInHanded a C os f .any (fun w args => (s.pre enc C.prog fn conds apart w args ∧ X w args) ∧ sizedMet enc C.prog fn (OpenSpec.ofChange s) apart w args) (s.post enc C.prog fn apart fresh handsOn again) := by
  refine returnsInHanded_of_calls own started noInit witness ?_
  intro w tape i _ hsh _ hok hpre _
  obtain ⟨_, _, _, fn', hfn', _, _, _, _, hval⟩ := hok
  obtain rfl : fn' = fn := Option.some.inj (hfn'.symm.trans hfn)
  obtain ⟨⟨⟨ds, gs, before, hw, _⟩, hx⟩, _⟩ := hpre
  refine (walk (w.forCall tape i) w.heap.size i.args ds gs before hval (DataW.Whole.of_heap (w' := w.forCall tape i) (by rfl) hw) (hX _ _ _ (by rfl) hx) hsh).mono fun e W' ⟨v, he, hp⟩ => ?_
  subst he
  exact ChangeSpec.post_blind hp
end Go.Proofs.YtfakoalkbcnejaaDoor
