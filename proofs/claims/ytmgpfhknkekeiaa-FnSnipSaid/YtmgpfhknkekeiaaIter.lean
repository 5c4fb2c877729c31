/- impl.eachWord as an iterator over all words; slices.Collect over it; impl.Words. -/
import Derived.Test.YtmgpfhknkekeiaaCommon
import Derived.Test.YtmgpfhknkekeiaaWords
import Derived.Test.YtmgpfhknkekeiaaClone
import Derived.RangeFuncNested
import Derived.RangeFuncLeaves
import Derived.Shelf.Abstract
import Derived.OwnWalkIn
import Derived.TacticsInMore
import Derived.LoopNIn
import Derived.LoopIn
namespace Go.Proofs.Ytmgpfhknkekeiaa
open Go.RowKit Go.Shelf
attribute [local go_sem] Oper.semAt_some

def wordVal (s : ByteArray) (x : Nat × Nat) : Value := .agg #[.string (s.extract x.1 x.2), .int .i64 x.1, .int .i64 x.2]
set_option maxRecDepth 100000 in
set_option maxHeartbeats 1000000 in
theorem each1_in (n : Nat) (hn : 1 ≤ n) (l Bn n₀ : Nat) (s : ByteArray) (hs : s.size ≤ 1048576) (hBn : Bn < n₀) (J Jx : List (Nat × Nat) → World → Prop)
    (W : World) (hn0 : n₀ ≤ W.heap.size) (hJ : ∀ pre A B, J pre A → Below A.heap.size A B → J pre B)
    (hY : ∀ pre x W, J pre W → pre.length < (wordsOn s 0).length → YieldAt Fence.wide (n - 1) Try.prog l #[wordVal s x] W fun e W' =>
      (e = .returned (.bool true) ∧ J (pre ++ [x]) W' ∧ Below n₀ W W') ∨ (e = .returned (.bool false) ∧ Jx (pre ++ [x]) W'))
    (hc : W.cell? ⟨Bn, 0, none⟩ = some (.string s)) (h0 : J [] W) :
    CallsIn Fence.wide n Try.prog 60 #[.func (.yield l) #[] #[], .pointer (some ⟨Bn, 0, none⟩)] W fun e W' => (∃ v, e = .returned v) ∧
      ((∃ ys, ys = wordsOn s 0 ∧ J ys W') ∨ (∃ pre, pre <+: wordsOn s 0 ∧ Jx pre W')) := by
  refine callsIn_of_wp Try.func60 rfl trivial ?_ rfl
  simp only [Try.ntmps60, List.size_toArray, List.length_cons, List.length_nil, Nat.reduceAdd, Nat.reduceSub, Array.replicate_succ, Array.replicate_zero, List.push_toArray, List.append_toArray, List.nil_append, List.cons_append]
  gi_wp2
  gi_loopw [3] (fun t wr => ∃ (k : Nat) (pre : List (Nat × Nat)), t = .int .i64 k ∧ k ≤ s.size + 1 ∧ pre ++ wordsOn s k = wordsOn s 0 ∧ J pre wr ∧ Below n₀ W wr) (fun t _ => s.size + 1 - (intOf t).toNat)
  case atStart => exact ⟨0, [], rfl, Nat.zero_le _, rfl, h0, Below.refl _ _⟩
  case round =>
    obtain ⟨k, pre, rfl, hk, hpre, hJr, hbr⟩ := hrel
    have hcr : wr.cell? ⟨Bn, 0, none⟩ = some (.string s) := by rw [hbr.cell (p := ⟨Bn, 0, none⟩) hBn]; exact hc
    have HP : Hid (pre ++ wordsOn s k = wordsOn s 0) := hpre
    clear hpre
    by_cases hlt : k < s.size
    · have hE := (wordEnd_end s k (by omega)).size
      have hE2 := (wordEnd_end s k (by omega)).le
      have HN : Hid (wordEnd s k = k → wordsOn s k = wordsOn s (k + 1)) := wordsOn_none s k hlt
      have HW : Hid (¬ wordEnd s k = k → wordsOn s k = (k, wordEnd s k) :: wordsOn s (wordEnd s k + 1)) := fun h => by
        rw [wordsOn_word s k hlt h, wordsOn_skip s _ hE (wordEnd_again s k (by omega))]
      by_cases hEk : wordEnd s k = k
      · have hb0 : ((wordEnd s k : Int) == (k : Int)) = true := by simp; omega
        have hw := HN.out hEk
        have HP2 : Hid (pre ++ wordsOn s (k + 1) = wordsOn s 0) := by unfold Hid; rw [← hw]; exact HP.out
        clear hw hEk
        gi_wp2_with (refine ⟨trivial, ?_⟩; gi_at_call 61; refine (callsIn_wide.2 (wordEnd_any s k _ (by omega) (by omega))).mono ?_; rintro e _ ⟨rfl, rfl⟩)
        go_roundw
        case rel => exact ⟨k + 1, pre, by go_num, by omega, HP2.out, hJr, hbr⟩
        case measure => simp [intOf]; omega
      · have hb0 : ((wordEnd s k : Int) == (k : Int)) = false := by simp; omega
        have HP2 : Hid ((pre ++ [(k, wordEnd s k)]) ++ wordsOn s (wordEnd s k + 1) = wordsOn s 0) := by unfold Hid; rw [← HP.out, HW.out hEk]; simp
        have hlen : pre.length < (wordsOn s 0).length := by rw [← HP2.out]; simp
        have hpf : (pre ++ [(k, wordEnd s k)]) <+: wordsOn s 0 := ⟨_, HP2.out⟩
        have HPF : Hid ((pre ++ [(k, wordEnd s k)]) <+: wordsOn s 0) := hpf
        clear hEk hpf
        gi_wp2_with (first | (refine ⟨trivial, ?_⟩; gi_at_call 61; refine (callsIn_wide.2 (wordEnd_any s k _ (by omega) (by omega))).mono ?_; rintro e _ ⟨rfl, rfl⟩) | (refine ⟨trivial, ?_⟩; gi_at_call 54; refine (callsIn_wide.2 (clone_any _ _ (by simp; omega))).mono ?_; rintro e W2 ⟨rfl, hb2⟩; have hJ2 := hJ pre wr W2 hJr hb2; obtain ⟨fn, tmps, assign, body, hy, hR⟩ := hY pre (k, wordEnd s k) W2 hJ2 hlen; simp only [wordVal] at hy))
        refine hR.mono ?_
        rintro e W3 (⟨rfl, hJ3, hk3⟩ | ⟨rfl, hJx3⟩)
        · have hb4 : Below n₀ W W3 := (hbr.trans (hb2.mono (by have := hbr.size; omega))).trans hk3
          clear hR hy hb2 hk3 hJ2
          gi_wp2
          go_roundw
          case rel => exact ⟨wordEnd s k + 1, pre ++ [(k, wordEnd s k)], by go_num, by omega, HP2.out, hJ3, hb4⟩
          case measure => simp [intOf]; omega
        · clear hR hy
          gi_wp2
          refine bodyPost_ret (results_none rfl _ _ _) rfl ?_
          exact ⟨⟨_, rfl⟩, .inr ⟨_, HPF.out, hJx3⟩⟩
    · have hk2 : wordsOn s k = [] := wordsOn_past s k hlt
      have he : pre = wordsOn s 0 := by rw [← HP.out, hk2, List.append_nil]
      clear hk2
      gi_wp2
      go_end0
      exact ⟨⟨_, rfl⟩, .inl ⟨pre, he, hJr⟩⟩

theorem each_stops (n : Nat) (hn : 1 ≤ n) (Bn n₀ : Nat) (s : ByteArray) (hs : s.size ≤ 1048576) (w : World) (hBn : Bn < n₀) (hn₀ : n₀ ≤ w.heap.size) (hc : w.cell? ⟨Bn, 0, none⟩ = some (.string s)) :
    SeqStopsK Fence.wide n Try.prog 60 #[.pointer (some ⟨Bn, 0, none⟩)] (fun x : Nat × Nat => #[wordVal s x]) (Below n₀) (fun ys => ys = wordsOn s 0) (fun pre => pre <+: wordsOn s 0) (wordsOn s 0).length w :=
  fun l J Jx W hW hJ _ hY h0 => each1_in n hn l Bn n₀ s hs hBn J Jx W (by have := hW.size; omega) (fun pre A B h hb => hJ pre A B none h (grown_none hb) (fun r e => by cases e)) hY ((hW.cell (p := ⟨Bn, 0, none⟩) (by show Bn < _; omega)).trans hc) h0

/-- The block of a word. -/
def Word3 (W : World) (B : Nat) (s : ByteArray) (x : Nat × Nat) : Prop := W.heap[B]? = some (.cells #[.string (s.extract x.1 x.2), .int .i64 x.1, .int .i64 x.2] 43 (0, 0))
theorem word3_own (B : Nat) (s : ByteArray) : Own (fun x W => Word3 W B s x) := fun x X Y row hs hg hrow =>
  (hg.block B (Array.getElem?_eq_some_iff.1 hs).1 (fun e' => by obtain ⟨o, ho, hc⟩ := hrow B e'.symm; rw [show X.heap[B]? = _ from hs] at ho; cases ho; cases hc)).trans hs
theorem Word3.c0 {W : World} {B : Nat} {s : ByteArray} {x : Nat × Nat} (h : Word3 W B s x) : W.cell? ⟨B, 0, none⟩ = some (.string (s.extract x.1 x.2)) := by simp [World.cell?, show W.heap[B]? = _ from h]
theorem Word3.c1 {W : World} {B : Nat} {s : ByteArray} {x : Nat × Nat} (h : Word3 W B s x) : W.cell? ⟨B, 1, none⟩ = some (.int .i64 x.1) := by simp [World.cell?, show W.heap[B]? = _ from h]
theorem Word3.c2 {W : World} {B : Nat} {s : ByteArray} {x : Nat × Nat} (h : Word3 W B s x) : W.cell? ⟨B, 2, none⟩ = some (.int .i64 x.2) := by simp [World.cell?, show W.heap[B]? = _ from h]

set_option maxRecDepth 100000 in
set_option maxHeartbeats 2000000 in
theorem appendWords_any (s : ByteArray) (hs : s.size ≤ 1048576) (Bn : Nat) (w : World) (hBn : Bn < w.heap.size) (hc : w.cell? ⟨Bn, 0, none⟩ = some (.string s)) :
    Calls Try.prog 70 #[.slice none 0 0, .func (.func 60) #[] #[.pointer (some ⟨Bn, 0, none⟩)]] w fun e W' => ∃ v, e = .returned v ∧
      W'.ownsRow w.heap.size 43 3 v (wordsOn s 0).length (wordCells s (wordsOn s 0)) ∧ (v = .slice none 0 0 ↔ wordsOn s 0 = []) ∧ Below w.heap.size w W' := by
  obtain ⟨i0, hi, hz0, hz1, hz2⟩ := info_parts infoWord
  have hN := wordsOn_len s s.size 0 (by omega)
  refine (callsIn_wide (n := 4)).1 ?_
  refine callsIn_of_wp_marks Try.func70 rfl trivial ?_ rfl
  simp only [Try.ntmps70, List.size_toArray, List.length_cons, List.length_nil, Nat.reduceAdd, Nat.reduceSub, Array.replicate_succ, Array.replicate_zero, List.push_toArray, List.append_toArray, List.nil_append, List.cons_append]
  gi_wp2
  have bO := Boxed.new w 39 (.slice none 0 0)
  have hB0 : Below w.heap.size w (w.alloc (.cells #[.slice none 0 0] 39)) := (Below.refl _ w).alloc (Nat.le_refl _) _
  have hc1 : (w.alloc (.cells #[.slice none 0 0] 39)).cell? ⟨Bn, 0, none⟩ = some (.string s) := by rw [World.cell?_alloc_lt _ _ _ hBn]; exact hc
  have hsz : (w.alloc (.cells #[.slice none 0 0] 39)).heap.size = w.heap.size + 1 := by simp
  obtain ⟨W0, hW0⟩ : ∃ W0, w.alloc (.cells #[.slice none 0 0] 39) = W0 := ⟨_, rfl⟩
  rw [hW0] at bO hB0 hc1 hsz ⊢
  clear hW0
  refine wpIn_rangeFunc_ownH (F := Fence.wide) (n := 4) rfl (by omega) (gf := 60) (lb := #[.pointer (some ⟨Bn, 0, none⟩)]) rfl trivial (enters_of Try.func60 (by kernel_rfl) rfl)
    (each_stops (4 - 1) (by omega) Bn w.heap.size s hs W0 hBn (by omega) hc1) belowK_t (belowK_b (by omega)) (Below.refl _ _) (fun _ => rfl)
    (fun pre W => (∃ v, Boxed W w.heap.size 39 v ∧ W.ownsRow w.heap.size 43 3 v pre.length (wordCells s pre) ∧ (v = .slice none 0 0 ↔ pre = [])) ∧ Below w.heap.size w W)
    (fun _ _ _ => False)
    (OwnFrom.and (Own.from (holdsRow_own w.heap.size w.heap.size 39 43 3 (fun pre => pre.length) (fun pre => wordCells s pre) (fun pre v => v = .slice none 0 0 ↔ pre = [])) _) (ownFrom_below (Nat.le_refl _) (by omega)))
    (fun _ _ _ _ _ hs _ _ => hs)
    ⟨⟨_, bO, World.ownsRow_nil _ _ _ _, by simp⟩, hB0⟩
    (fun x a' W => ∃ Bx, w.heap.size < Bx ∧ Word3 W Bx s x ∧ a' = { tmps := #[.slice none 0 0, .func (.func 60) #[] #[.pointer (some ⟨Bn, 0, none⟩)], .pointer (some ⟨w.heap.size, 0, none⟩), undef, .slice none 0 0, .pointer (some ⟨Bx, 0, none⟩), .func (.func 60) #[] #[.pointer (some ⟨Bn, 0, none⟩)], wordVal s x, undef, undef, undef, undef, undef], defers := [] })
    (fun x a' _ X Y row hs hg hr => by obtain ⟨Bx, h1, h2, h3⟩ := hs; exact ⟨Bx, h1, word3_own Bx s x X Y row h2 hg (fun r e => (hr r e).2), h3⟩)
    ?assign ?body ?done ?stop
  case assign =>
    rintro l pre x W K ⟨⟨v, bV, hrow, hnil⟩, hB1⟩ hK
    simp only [wordVal]
    gi_wp2
    exact hK _ _ ((KeepsOthers.alloc _ _).from _) ((Below.refl _ W).alloc hB1.size _) ⟨⟨v, bV.alloc _, hrow.alloc _, hnil⟩, hB1.alloc hB1.size _⟩ ⟨W.heap.size, bV.lt, heap_alloc_new W _, rfl⟩
  case body =>
    rintro l pre x a' W hl ⟨r, hr⟩ ⟨⟨v, bV, hrow, hnil⟩, hB1⟩ ⟨Bx, hBx, bX, rfl⟩ hlt
    have cV := bV.cell
    have fV := bV.frozen
    have x0 := bX.c0
    have x1 := bX.c1
    have x2 := bX.c2
    simp only [wordVal]
    clear bX hr
    gi_wp2_with (gi_at_builtin; refine wpListIn_append_own _ rfl _ _ 39 rfl w.heap.size 43 i0 (.agg #[.string ⟨#[]⟩, .int .i64 0, .int .i64 0]) 3 32 Try.underlying39 hi hz0 hz1 hz2 rfl (by decide) _ _ _ rfl (hrow.alloc _) ⟨W.heap.size, 0, none⟩ 1 1 [.string (s.extract x.1 x.2), .int .i64 x.1, .int .i64 x.2] rfl rfl (cells_new _ _ _) (word_one _ _ _) (by unfold maxLen; omega) (by omega) (by have := hB1.size; simp; omega) ?_; intro v' w1 hown' hgrow _; obtain ⟨g', cap', rfl⟩ := ownsRow_succ hown'; obtain ⟨hv1, hv2, hr2, hk2, hb2⟩ := bV.appended (by decide) hrow hB1.size (Nat.le_refl _) hown' hgrow; have hc1 := hv1.cell; have hf1 := hv1.frozen)
    rw [← wordCells_snoc] at hr2
    exact ⟨hk2.from _, hb2, ⟨_, hv2, by rw [List.length_append]; exact hr2, by simp⟩, hB1.trans hb2⟩
  case done =>
    rintro D ys W hD rfl ⟨⟨v, bV, hrow, hnil⟩, hB1⟩ hK
    have cV := bV.cell
    gi_wp2
    refine ⟨by simp, .inl ⟨_, _, rfl, run_takeDeferred hK, ?_⟩⟩
    exact ⟨_, results_tmp rfl _ _ _, v, rfl, ownsRow_putObj hrow _ hK rfl, hnil, hB1.trans (belowK_b (w := w) (Nat.le_refl _) W D _ _ (by omega) hK rfl rfl)⟩
  case stop =>
    rintro D c pre W _ _ h _
    exact h.elim

theorem eachWord_any (s : ByteArray) (w : World) :
    Calls Try.prog 42 #[.string s] w fun e w' => e = .returned (.func (.func 60) #[] #[.pointer (some ⟨w.heap.size, 0, none⟩)]) ∧ w' = w.alloc (.cells #[.string s] 9) := by
  go_enter Try.func42, Try.ntmps42
  go_wp2
  go_ret
  exact ⟨rfl, rfl⟩

theorem wordsI_any (s : ByteArray) (w : World) (hs : s.size ≤ 1048576) :
    Calls Try.prog 26 #[.string s] w fun e W' => ∃ v, e = .returned v ∧
      W'.ownsRow w.heap.size 43 3 v (wordsOn s 0).length (wordCells s (wordsOn s 0)) ∧ (v = .slice none 0 0 ↔ wordsOn s 0 = []) ∧ Below w.heap.size w W' := by
  have hcol : ∀ (Bn : Nat) (w : World), Bn < w.heap.size → w.cell? ⟨Bn, 0, none⟩ = some (.string s) → Calls Try.prog 55 #[.func (.func 60) #[] #[.pointer (some ⟨Bn, 0, none⟩)]] w fun e W' => ∃ v, e = .returned v ∧
      W'.ownsRow w.heap.size 43 3 v (wordsOn s 0).length (wordCells s (wordsOn s 0)) ∧ (v = .slice none 0 0 ↔ wordsOn s 0 = []) ∧ Below w.heap.size w W' := by
    intro Bn w hB hc
    go_enter Try.func55, Try.ntmps55
    go_wp2_with fail
    refine (appendWords_any s hs Bn _ hB hc).mono ?_
    rintro e w1 ⟨v, rfl, h1, h2, h3⟩
    have H2 : Hid (v = .slice none 0 0 ↔ wordsOn s 0 = []) := h2
    clear h2
    go_wp2
    go_ret
    exact ⟨v, rfl, h1, H2.out, h3⟩
  have HC := hcol
  clear hcol
  go_enter Try.func26, Try.ntmps26
  go_wp2_with fail
  refine (eachWord_any s _).mono ?_
  rintro e w1 ⟨rfl, rfl⟩
  go_wp2_with fail
  refine (HC w.heap.size _ (by simp) (by simp)).mono ?_
  rintro e w2 ⟨v, rfl, h1, h2, h3⟩
  have H2 : Hid (v = .slice none 0 0 ↔ wordsOn s 0 = []) := h2
  have H1 := ownsRow_mono (b' := w.heap.size) h1 (by simp)
  have H3 : Below w.heap.size w w2 := ((Below.refl _ w).alloc (Nat.le_refl _) _).trans (h3.mono (by simp))
  clear h2 h1 h3 HC
  go_wp2
  go_ret
  exact ⟨v, rfl, H1, H2.out, H3⟩
end Go.Proofs.Ytmgpfhknkekeiaa
