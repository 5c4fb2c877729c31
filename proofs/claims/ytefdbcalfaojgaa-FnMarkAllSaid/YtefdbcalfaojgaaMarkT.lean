/- Texts with marks: mathematics; the iterator over words for a body that turns blocks of the call's own; impl.Mark. -/
import Derived.Test.YtefdbcalfaojgaaSought
import Derived.Test.YtefdbcalfaojgaaTermsS
import Derived.Test.YtefdbcalfaojgaaWordsMore
import Derived.Test.YtefdbcalfaojgaaSnip
import Derived.Test.YtefdbcalfaojgaaTextOk
import Derived.Test.YtefdbcalfaojgaaShelf
import Derived.Lib.OthersKept
namespace Go.Proofs.Ytefdbcalfaojgaa
open Go.RowKit Go.Shelf
attribute [local go_sem] Oper.semAt_some

abbrev openS : ByteArray := ⟨#[91]⟩
abbrev shutS : ByteArray := ⟨#[93]⟩
/-- What is written behind so many words, and the place behind the last word that was marked. -/
def mk (s : ByteArray) (ts : List ByteArray) : Nat → ByteArray × Nat
  | 0 => (⟨#[]⟩, 0)
  | k + 1 => if sAt s ts k then ((mk s ts k).1 ++ (s.extract (mk s ts k).2 (wat (wordsOn s 0) k).1 ++ openS ++ s.extract (wat (wordsOn s 0) k).1 (wat (wordsOn s 0) k).2 ++ shutS), (wat (wordsOn s 0) k).2) else mk s ts k
def markA (s : ByteArray) (ts : List ByteArray) : ByteArray := (mk s ts (wordsOn s 0).length).1 ++ s.extract (mk s ts (wordsOn s 0).length).2 s.size
def markB (s : ByteArray) (ts : List ByteArray) : ByteArray := if textB s then markA s ts else ⟨#[]⟩
theorem mk_yes (s : ByteArray) (ts : List ByteArray) (k : Nat) (h : sAt s ts k = true) : mk s ts (k + 1) = ((mk s ts k).1 ++ (s.extract (mk s ts k).2 (wat (wordsOn s 0) k).1 ++ openS ++ s.extract (wat (wordsOn s 0) k).1 (wat (wordsOn s 0) k).2 ++ shutS), (wat (wordsOn s 0) k).2) := by rw [mk, if_pos h]
theorem mk_no (s : ByteArray) (ts : List ByteArray) (k : Nat) (h : sAt s ts k = false) : mk s ts (k + 1) = mk s ts k := by rw [mk, if_neg (by rw [h]; decide)]
/-- The place lies ahead of the next word. -/
theorem mk_at (s : ByteArray) (ts : List ByteArray) (k : Nat) (hk : k ≤ (wordsOn s 0).length) : (mk s ts k).2 ≤ s.size ∧ (k < (wordsOn s 0).length → (mk s ts k).2 ≤ (wat (wordsOn s 0) k).1) := by
  induction k with
  | zero => exact ⟨Nat.zero_le _, fun _ => Nat.zero_le _⟩
  | succ k ih =>
    have hb := wat_bd s k (by omega)
    have hn : k + 1 < (wordsOn s 0).length → (wat (wordsOn s 0) k).2 < (wat (wordsOn s 0) (k + 1)).1 := fun h => by
      have := wordsOn_apart s s.size 0 (by omega) k h
      rw [← wat_get _ _ (by omega), ← wat_get _ _ (by omega)] at this
      exact this
    cases hs : sAt s ts k with
    | true => rw [mk_yes s ts k hs]; exact ⟨hb.2, fun h => by have := hn h; show (wat (wordsOn s 0) k).2 ≤ _; omega⟩
    | false =>
      rw [mk_no s ts k hs]
      have h1 := ih (by omega)
      exact ⟨h1.1, fun h => by have := hn h; have := h1.2 (by omega); omega⟩
theorem mk_size (s : ByteArray) (ts : List ByteArray) (k : Nat) : (mk s ts k).1.size ≤ (2 * s.size + 2) * k := by
  induction k with
  | zero => exact Nat.le_refl _
  | succ k ih =>
    cases hs : sAt s ts k with
    | true =>
      rw [mk_yes s ts k hs]
      have e1 : openS.size = 1 := rfl
      have e2 : shutS.size = 1 := rfl
      show ((mk s ts k).1 ++ _).size ≤ _
      rw [ByteArray.size_append, ByteArray.size_append, ByteArray.size_append, ByteArray.size_append, ByteArray.size_extract, ByteArray.size_extract, e1, e2, Nat.mul_add]
      omega
    | false => rw [mk_no s ts k hs, Nat.mul_add]; omega

set_option maxRecDepth 100000 in
set_option maxHeartbeats 1000000 in
theorem each1_j (n : Nat) (hn : 1 ≤ n) (l Bn : Nat) (s : ByteArray) (hs : s.size ≤ 1048576) (J : List (Nat × Nat) → World → Prop)
    (W : World) (hJ : ∀ pre A B, J pre A → Below A.heap.size A B → J pre B) (hJc : ∀ pre A, J pre A → A.cell? ⟨Bn, 0, none⟩ = some (.string s))
    (hY : ∀ pre x W, J pre W → (pre ++ [x]) <+: wordsOn s 0 → YieldAt Fence.wide (n - 1) Try.prog l #[wordVal s x] W fun e W' => e = .returned (.bool true) ∧ J (pre ++ [x]) W')
    (h0 : J [] W) :
    CallsIn Fence.wide n Try.prog 37 #[.func (.yield l) #[] #[], .pointer (some ⟨Bn, 0, none⟩)] W fun e W' => (∃ v, e = .returned v) ∧ J (wordsOn s 0) W' := by
  refine callsIn_of_wp Try.func37 rfl trivial ?_ rfl
  simp only [Try.ntmps37, List.size_toArray, List.length_cons, List.length_nil, Nat.reduceAdd, Nat.reduceSub, Array.replicate_succ, Array.replicate_zero, List.push_toArray, List.append_toArray, List.nil_append, List.cons_append]
  gi_wp2
  gi_loopw [3] (fun t wr => ∃ (k : Nat) (pre : List (Nat × Nat)), t = .int .i64 k ∧ k ≤ s.size + 1 ∧ pre ++ wordsOn s k = wordsOn s 0 ∧ J pre wr) (fun t _ => s.size + 1 - (intOf t).toNat)
  case atStart => exact ⟨0, [], rfl, Nat.zero_le _, rfl, h0⟩
  case round =>
    obtain ⟨k, pre, rfl, hk, hpre, hJr⟩ := hrel
    have hcr := hJc pre wr hJr
    have HP : Hid (pre ++ wordsOn s k = wordsOn s 0) := hpre
    clear hpre
    by_cases hlt : k < s.size
    · have hE := (wordEnd_end s k (by omega)).size
      have hE2 := (wordEnd_end s k (by omega)).le
      have HN : Hid (wordEnd s k = k → wordsOn s k = wordsOn s (k + 1)) := wordsOn_none s k hlt
      have HW : Hid (¬ wordEnd s k = k → wordsOn s k = (k, wordEnd s k) :: wordsOn s (wordEnd s k + 1)) := fun h => by
        rw [wordsOn_word s k hlt h, wordsOn_skip s _ hE (wordEnd_again s k (by omega))]
      by_cases hEk : wordEnd s k = k
      · have hb0 : ((wordEnd s k : Int) == (k : Int)) = true := by simp; omega
        have hw := HN.out hEk
        have HP2 : Hid (pre ++ wordsOn s (k + 1) = wordsOn s 0) := by unfold Hid; rw [← hw]; exact HP.out
        clear hw hEk
        gi_wp2_with (refine ⟨trivial, ?_⟩; gi_at_call 38; refine (callsIn_wide.2 (wordEnd_any s k _ (by omega) (by omega))).mono ?_; rintro e _ ⟨rfl, rfl⟩)
        go_roundw
        case rel => exact ⟨k + 1, pre, by go_num, by omega, HP2.out, hJr⟩
        case measure => simp [intOf]; omega
      · have hb0 : ((wordEnd s k : Int) == (k : Int)) = false := by simp; omega
        have HP2 : Hid ((pre ++ [(k, wordEnd s k)]) ++ wordsOn s (wordEnd s k + 1) = wordsOn s 0) := by unfold Hid; rw [← HP.out, HW.out hEk]; simp
        have HPF : Hid ((pre ++ [(k, wordEnd s k)]) <+: wordsOn s 0) := ⟨_, HP2.out⟩
        clear hEk
        gi_wp2_with (first | (refine ⟨trivial, ?_⟩; gi_at_call 38; refine (callsIn_wide.2 (wordEnd_any s k _ (by omega) (by omega))).mono ?_; rintro e _ ⟨rfl, rfl⟩) | (refine ⟨trivial, ?_⟩; gi_at_call 39; refine (callsIn_wide.2 (clone_any _ _ (by simp; omega))).mono ?_; rintro e W2 ⟨rfl, hb2⟩; have hJ2 := hJ pre wr W2 hJr hb2; obtain ⟨fn, tmps, assign, body, hy, hR⟩ := hY pre (k, wordEnd s k) W2 hJ2 HPF.out; simp only [wordVal] at hy))
        refine hR.mono ?_
        rintro e W3 ⟨rfl, hJ3⟩
        clear hR hy hb2 hJ2
        gi_wp2
        go_roundw
        case rel => exact ⟨wordEnd s k + 1, pre ++ [(k, wordEnd s k)], by go_num, by omega, HP2.out, hJ3⟩
        case measure => simp [intOf]; omega
    · have hk2 : wordsOn s k = [] := wordsOn_past s k hlt
      have he : pre = wordsOn s 0 := by rw [← HP.out, hk2, List.append_nil]
      clear hk2
      rw [he] at hJr
      gi_wp2
      go_end0
      exact ⟨⟨_, rfl⟩, hJr⟩

theorem builder_own {T e : TypeId} {B b : Nat} {p : Value} {bs : List Value} {W W' : World} {row : Option Nat} (h : Lib.BuilderAtF T e B b p bs W) (hg : W.grownBy W' row) (hr : ∀ r, row = some r → ∃ o : Obj, W.heap[r]? = some o ∧ o.isCells = false) : Lib.BuilderAtF T e B b p bs W' := by
  have hlt := h.lt
  obtain ⟨hB, v, hb, hown, hne⟩ := h
  refine ⟨hB, v, (hg.block b hlt (fun e => ?_)).trans hb, hown.kept hg ?_, hne⟩
  · obtain ⟨o, ho, hc⟩ := hr b e.symm
    rw [hb] at ho; cases ho; cases hc
  · rcases hown.2 with hn | ⟨g, cap, cur, fz, hv, hbg, hgb, rest⟩
    · left; rw [hn.1]; rfl
    · right
      intro e
      rw [hv] at e
      obtain ⟨o, ho, hc⟩ := hr g (by rw [← e]; rfl)
      rw [hgb] at ho; cases ho; cases hc
theorem isBuilder_own {T e : TypeId} {B b : Nat} {bs : List Value} {W W' : World} {row : Option Nat} (h : Lib.IsBuilderF T e B b bs W) (hg : W.grownBy W' row) (hr : ∀ r, row = some r → ∃ o : Obj, W.heap[r]? = some o ∧ o.isCells = false) : Lib.IsBuilderF T e B b bs W' :=
  h.elim (fun x => .inl (builder_own x hg hr)) (fun x => .inr (builder_own x hg hr))
end Go.Proofs.Ytefdbcalfaojgaa
