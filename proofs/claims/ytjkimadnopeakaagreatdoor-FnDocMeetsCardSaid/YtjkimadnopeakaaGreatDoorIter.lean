/- impl.eachWord as an iterator over all words; slices.Collect over it; impl.Words. -/
import Derived.Test.YtjkimadnopeakaaGreatDoorMg0FnExactMeets
import Derived.Test.YtjkimadnopeakaaGreatDoorWords
import Derived.RangeFuncNested
import Derived.RangeFuncLeaves
import Derived.Shelf.Abstract
import Derived.OwnWalkIn
import Derived.TacticsInMore
import Derived.LoopNIn
import Derived.LoopIn
namespace Go.Proofs.YtjkimadnopeakaaGreatDoor
open Go.RowKit Go.Shelf
attribute [local go_sem] Oper.semAt_some

def wordVal (s : ByteArray) (x : Nat × Nat) : Value := .agg #[.string (s.extract x.1 x.2), .int .i64 x.1, .int .i64 x.2]
set_option maxRecDepth 100000 in
set_option maxHeartbeats 1000000 in
theorem each1_in (n : Nat) (hn : 1 ≤ n) (l Bn n₀ : Nat) (s : ByteArray) (hs : s.size ≤ 1048576) (hBn : Bn < n₀) (J Jx : List (Nat × Nat) → World → Prop)
    (W : World) (hn0 : n₀ ≤ W.heap.size) (hJ : ∀ pre A B, J pre A → Below A.heap.size A B → J pre B)
    (hY : ∀ pre x W, J pre W → pre.length < (wordsOn s 0).length → YieldAt Fence.wide (n - 1) Tryz.prog l #[wordVal s x] W fun e W' =>
      (e = .returned (.bool true) ∧ J (pre ++ [x]) W' ∧ Below n₀ W W') ∨ (e = .returned (.bool false) ∧ Jx (pre ++ [x]) W'))
    (hc : W.cell? ⟨Bn, 0, none⟩ = some (.string s)) (h0 : J [] W) :
    CallsIn Fence.wide n Tryz.prog 112 #[.func (.yield l) #[] #[], .pointer (some ⟨Bn, 0, none⟩)] W fun e W' => (∃ v, e = .returned v) ∧
      ((∃ ys, ys = wordsOn s 0 ∧ J ys W') ∨ (∃ pre, pre <+: wordsOn s 0 ∧ Jx pre W')) := by
  refine callsIn_of_wp Tryz.func112 rfl trivial ?_ rfl
  simp only [Tryz.ntmps112, List.size_toArray, List.length_cons, List.length_nil, Nat.reduceAdd, Nat.reduceSub, Array.replicate_succ, Array.replicate_zero, List.push_toArray, List.append_toArray, List.nil_append, List.cons_append]
  gi_wp2
  gi_loopw [3] (fun t wr => ∃ (k : Nat) (pre : List (Nat × Nat)), t = .int .i64 k ∧ k ≤ s.size + 1 ∧ pre ++ wordsOn s k = wordsOn s 0 ∧ J pre wr ∧ Below n₀ W wr) (fun t _ => s.size + 1 - (intOf t).toNat)
  case atStart => exact ⟨0, [], rfl, Nat.zero_le _, rfl, h0, Below.refl _ _⟩
  case round =>
    obtain ⟨k, pre, rfl, hk, hpre, hJr, hbr⟩ := hrel
    have hcr : wr.cell? ⟨Bn, 0, none⟩ = some (.string s) := by rw [hbr.cell (p := ⟨Bn, 0, none⟩) hBn]; exact hc
    have HP : Hid (pre ++ wordsOn s k = wordsOn s 0) := hpre
    clear hpre
    by_cases hlt : k < s.size
    · have hE := (wordEnd_end s k (by omega)).size
      have hE2 := (wordEnd_end s k (by omega)).le
      have HN : Hid (wordEnd s k = k → wordsOn s k = wordsOn s (k + 1)) := wordsOn_none s k hlt
      have HW : Hid (¬ wordEnd s k = k → wordsOn s k = (k, wordEnd s k) :: wordsOn s (wordEnd s k + 1)) := fun h => by
        rw [wordsOn_word s k hlt h, wordsOn_skip s _ hE (wordEnd_again s k (by omega))]
      by_cases hEk : wordEnd s k = k
      · have hb0 : ((wordEnd s k : Int) == (k : Int)) = true := by simp; omega
        have hw := HN.out hEk
        have HP2 : Hid (pre ++ wordsOn s (k + 1) = wordsOn s 0) := by unfold Hid; rw [← hw]; exact HP.out
        clear hw hEk
        gi_wp2_with (refine ⟨trivial, ?_⟩; gi_at_call 113; refine (callsIn_wide.2 (wordEnd_any s k _ (by omega) (by omega))).mono ?_; rintro e _ ⟨rfl, rfl⟩)
        go_roundw
        case rel => exact ⟨k + 1, pre, by go_num, by omega, HP2.out, hJr, hbr⟩
        case measure => simp [intOf]; omega
      · have hb0 : ((wordEnd s k : Int) == (k : Int)) = false := by simp; omega
        have HP2 : Hid ((pre ++ [(k, wordEnd s k)]) ++ wordsOn s (wordEnd s k + 1) = wordsOn s 0) := by unfold Hid; rw [← HP.out, HW.out hEk]; simp
        have hlen : pre.length < (wordsOn s 0).length := by rw [← HP2.out]; simp
        have hpf : (pre ++ [(k, wordEnd s k)]) <+: wordsOn s 0 := ⟨_, HP2.out⟩
        have HPF : Hid ((pre ++ [(k, wordEnd s k)]) <+: wordsOn s 0) := hpf
        clear hEk hpf
        gi_wp2_with (first | (refine ⟨trivial, ?_⟩; gi_at_call 113; refine (callsIn_wide.2 (wordEnd_any s k _ (by omega) (by omega))).mono ?_; rintro e _ ⟨rfl, rfl⟩) | (refine ⟨trivial, ?_⟩; gi_at_call 114; refine (callsIn_wide.2 (clone_any _ _ (by simp; omega))).mono ?_; rintro e W2 ⟨rfl, hb2⟩; have hJ2 := hJ pre wr W2 hJr hb2; obtain ⟨fn, tmps, assign, body, hy, hR⟩ := hY pre (k, wordEnd s k) W2 hJ2 hlen; simp only [wordVal] at hy))
        refine hR.mono ?_
        rintro e W3 (⟨rfl, hJ3, hk3⟩ | ⟨rfl, hJx3⟩)
        · have hb4 : Below n₀ W W3 := (hbr.trans (hb2.mono (by have := hbr.size; omega))).trans hk3
          clear hR hy hb2 hk3 hJ2
          gi_wp2
          go_roundw
          case rel => exact ⟨wordEnd s k + 1, pre ++ [(k, wordEnd s k)], by go_num, by omega, HP2.out, hJ3, hb4⟩
          case measure => simp [intOf]; omega
        · clear hR hy
          gi_wp2
          refine bodyPost_ret (results_none rfl _ _ _) rfl ?_
          exact ⟨⟨_, rfl⟩, .inr ⟨_, HPF.out, hJx3⟩⟩
    · have hk2 : wordsOn s k = [] := wordsOn_past s k hlt
      have he : pre = wordsOn s 0 := by rw [← HP.out, hk2, List.append_nil]
      clear hk2
      gi_wp2
      go_end0
      exact ⟨⟨_, rfl⟩, .inl ⟨pre, he, hJr⟩⟩

theorem each_stops (n : Nat) (hn : 1 ≤ n) (Bn n₀ : Nat) (s : ByteArray) (hs : s.size ≤ 1048576) (w : World) (hBn : Bn < n₀) (hn₀ : n₀ ≤ w.heap.size) (hc : w.cell? ⟨Bn, 0, none⟩ = some (.string s)) :
    SeqStopsK Fence.wide n Tryz.prog 112 #[.pointer (some ⟨Bn, 0, none⟩)] (fun x : Nat × Nat => #[wordVal s x]) (Below n₀) (fun ys => ys = wordsOn s 0) (fun pre => pre <+: wordsOn s 0) (wordsOn s 0).length w :=
  fun l J Jx W hW hJ _ hY h0 => each1_in n hn l Bn n₀ s hs hBn J Jx W (by have := hW.size; omega) (fun pre A B h hb => hJ pre A B none h (grown_none hb) (fun r e => by cases e)) hY ((hW.cell (p := ⟨Bn, 0, none⟩) (by show Bn < _; omega)).trans hc) h0

/-- The block of a word. -/
def Word3 (W : World) (B : Nat) (s : ByteArray) (x : Nat × Nat) : Prop := W.heap[B]? = some (.cells #[.string (s.extract x.1 x.2), .int .i64 x.1, .int .i64 x.2] 140 (0, 0))
theorem word3_own (B : Nat) (s : ByteArray) : Own (fun x W => Word3 W B s x) := fun x X Y row hs hg hrow =>
  (hg.block B (Array.getElem?_eq_some_iff.1 hs).1 (fun e' => by obtain ⟨o, ho, hc⟩ := hrow B e'.symm; rw [show X.heap[B]? = _ from hs] at ho; cases ho; cases hc)).trans hs
theorem Word3.c0 {W : World} {B : Nat} {s : ByteArray} {x : Nat × Nat} (h : Word3 W B s x) : W.cell? ⟨B, 0, none⟩ = some (.string (s.extract x.1 x.2)) := by simp [World.cell?, show W.heap[B]? = _ from h]
theorem Word3.c1 {W : World} {B : Nat} {s : ByteArray} {x : Nat × Nat} (h : Word3 W B s x) : W.cell? ⟨B, 1, none⟩ = some (.int .i64 x.1) := by simp [World.cell?, show W.heap[B]? = _ from h]
theorem Word3.c2 {W : World} {B : Nat} {s : ByteArray} {x : Nat × Nat} (h : Word3 W B s x) : W.cell? ⟨B, 2, none⟩ = some (.int .i64 x.2) := by simp [World.cell?, show W.heap[B]? = _ from h]

theorem eachWord_any (s : ByteArray) (w : World) :
    Calls Tryz.prog 68 #[.string s] w fun e w' => e = .returned (.func (.func 112) #[] #[.pointer (some ⟨w.heap.size, 0, none⟩)]) ∧ w' = w.alloc (.cells #[.string s] 9) := by
  go_enter Tryz.func68, Tryz.ntmps68
  go_wp2
  go_ret
  exact ⟨rfl, rfl⟩

end Go.Proofs.YtjkimadnopeakaaGreatDoor
