/- Whatever bytes come in, the law FnFarThree returns true (drawn texts: Far answers as its model, and is at most the way by a third text); no condition. The frame round the walk is the kit's own shell. -/
import Derived.Test.YtlpclfeppddlfaaRows
import Derived.Test.YtlpclfeppddlfaaDrawFar
import Derived.Test.YtlpclfeppddlfaaFarLaw
import Derived.Test.YtlpclfeppddlfaaFarS
import Derived.WalkKit
import Derived.ProofKit
import Derived.OpenShut
import Derived.ShutString
import Derived.ChangeOld
import Derived.Below
namespace Go.Proofs.Ytlpclfeppddlfaa.fnFarThree
open Go.ChangeShapes Go.WideShapes Go.ChangeAt Go.RowKit
open Go.ChangeMaps (open_string shut_string)
set_option linter.unusedVariables false

theorem own : ownKnob Try.prog.godebug = none := by kernel_rfl
theorem laidOut : laidOutB Try.prog = true := by kernel_rfl

def IsRow (k : IntKind) (w : World) (a : Option Addr) (len cap : Nat) (zs : List Int) : Prop :=
  (a = none ∧ len = 0 ∧ cap = 0 ∧ zs = []) ∨
  ∃ x, a = some x ∧ len ≤ cap ∧ cap ≤ maxLen ∧ zs.length = cap ∧ (∀ i, i < zs.length → w.cell? (x.add i) = some (.int k (zs.getD i 0))) ∧ ∀ n ∈ zs, (Lit.int k n).wf = true

theorem walk (a0 : Option Addr) (len0 cap0 : Nat) (z0 : List Int) (a1 : Option Addr) (len1 cap1 : Nat) (z1 : List Int) (w : World) (w0 : IsRow .u8 w a0 len0 cap0 z0) (w1 : IsRow .u8 w a1 len1 cap1 z1) :
    Calls Try.prog 4 #[.slice a0 len0 cap0, .slice a1 len1 cap1] w fun e w' => e = .returned (.bool true) ∧ Below w.heap.size w w' := by
  have b0 : BytesIn w a0 len0 cap0 := bytes_in w0
  have b1 : BytesIn w a1 len1 cap1 := bytes_in w1
  clear w0 w1
  have m0 := b0.le
  have m1 := b0.max
  have m2 := b1.le
  have m3 := b1.max
  unfold maxLen at m1 m3
  by_cases hbig0 : 1048576 < (len0 : Int)
  · go_enter Try.func4, Try.ntmps4
    go_wp2
    go_ret
    exact ⟨rfl, Below.refl _ _⟩
  by_cases hbig1 : 1048576 < (len1 : Int)
  · go_enter Try.func4, Try.ntmps4
    go_wp2
    go_ret
    exact ⟨rfl, Below.refl _ _⟩
  go_enter Try.func4, Try.ntmps4
  go_wp2_with fail
  refine (drawFar_any _ _ _ _ b0).mono ?_
  rintro e u1 ⟨s, t, rfl, hs, ht, hb1⟩
  have b2 := b1.below hb1
  clear b0 b1
  go_wp2_with fail
  refine (drawFar_any _ _ _ _ b2).mono ?_
  rintro e u2 ⟨c, d, rfl, hc, hd, hb2⟩
  clear b2
  go_wp2_with fail
  refine (farI_any s t _ (by omega) (by omega)).mono ?_
  rintro e u3 ⟨rfl, hb3⟩
  go_wp2_with fail
  refine (farI_any s c _ (by omega) (by omega)).mono ?_
  rintro e u4 ⟨rfl, hb4⟩
  go_wp2_with fail
  refine (farI_any c t _ (by omega) (by omega)).mono ?_
  rintro e u5 ⟨rfl, hb5⟩
  go_wp2_with fail
  refine (farS_any s t _ (by omega) (by omega)).mono ?_
  rintro e u6 ⟨rfl, hb6⟩
  have hball : Below w.heap.size w u6 := below_trans hb1 (below_trans hb2 (below_trans hb3 (below_trans hb4 (below_trans hb5 hb6))))
  clear hb1 hb2 hb3 hb4 hb5 hb6
  cases h1 : textB s with
  | false =>
    have e1 : farB s t = -1 := farB_neg s t (by simp [h1])
    rw [e1]
    go_wp2_with fail
    refine (farS_any s t _ (by omega) (by omega)).mono ?_
    rintro e u7 ⟨rfl, hb7⟩
    rw [e1]
    go_wp2
    go_ret
    exact ⟨rfl, below_trans hball hb7⟩
  | true =>
    cases h2 : textB t with
    | false =>
      have e1 : farB s t = -1 := farB_neg s t (by simp [h2])
      rw [e1]
      go_wp2_with fail
      refine (farS_any s t _ (by omega) (by omega)).mono ?_
      rintro e u7 ⟨rfl, hb7⟩
      rw [e1]
      go_wp2
      go_ret
      exact ⟨rfl, below_trans hball hb7⟩
    | true =>
      obtain ⟨q1, q2, q3, q4⟩ := farB_bd s t h1 h2
      have p1 : decide (farB s t < 0) = false := by simp; omega
      cases h3 : textB c with
      | false =>
        have e1 : farB s c = -1 := farB_neg s c (by simp [h3])
        rw [e1]
        generalize hn : farB s t = n at *
        go_wp2_with fail
        refine (farS_any s t _ (by omega) (by omega)).mono ?_
        rintro e u7 ⟨rfl, hb7⟩
        rw [hn]
        go_wp2
        go_ret
        exact ⟨rfl, below_trans hball hb7⟩
      | true =>
        have htri := farB_tri s t c h1 h2 h3
        have r1 := (farB_bd s c h1 h3).1
        have r2 := (farB_bd c t h3 h2).1
        obtain ⟨_, r3, _, _⟩ := farB_bd s c h1 h3
        obtain ⟨_, r4, _, _⟩ := farB_bd c t h3 h2
        have p2 : decide (farB s c < 0) = false := by simp; omega
        have p3 : decide (farB c t < 0) = false := by simp; omega
        generalize hn : farB s t = n at *
        generalize farB s c = x at *
        generalize farB c t = y at *
        have r5 : x ≤ 1000 := by omega
        have r6 : y ≤ 1000 := by omega
        clear r3 r4 q2
        go_wp2
        go_ret
        exact ⟨rfl, hball⟩

set_option maxRecDepth 100000 in
theorem lifted (os : Os) (started : os.Started) (H : Type) (enc : TypeId × Value → H) :
    ReturnsInHanded {} Try.checked os 4 .any (Rows.fnFarThreeSpec.pre6 enc Try.prog Try.f4 Rows.fnFarThreeRow.domain false) (Rows.fnFarThreeSpec.post enc Try.prog Try.f4 false true false false) := by
  refine returnsInHanded_of_change (C := Try.checked) own started (by kernel_rfl) Try.func4
    (ChangeSpec.witness6 (enc := enc) (C := Try.checked) false ⟨#[], #[.slice none 0 0, .slice none 0 0], []⟩ 8 (by kernel_rfl) (by kernel_rfl) (by kernel_rfl) (by kernel_rfl)) ?_
  intro W base args ds gs before hval0 hW hcnd _
  have hval : ∀ (j : Nat) t v, Try.f4.params[j]? = some t → args[j]? = some v → Value.okWide Try.prog W .any base t v := hval0
  have hW' := hW
  obtain ⟨p, q, hA0, hV, rfl, hfz, hnd⟩ := hW
  have hA : DataW.TrodAll enc Try.prog W 0 (fun _ => true) true Try.f4.params.toList args.toList ds p := hA0
  rw [Try.params4] at hA hval
  obtain ⟨v0, vs0, d0, ds0, p0, q0, hargs, rfl, rfl, h0, r0⟩ := trodAll_cons hA
  obtain ⟨v1, vs1, d1, ds1, p1, q1, rfl, rfl, rfl, h1, r1⟩ := trodAll_cons r0
  obtain ⟨rfl, rfl, rfl⟩ := trodAll_nil r1
  obtain rfl : args = #[v0, v1] := by cases args; simp_all
  obtain ⟨rfl, rfl⟩ := trodVars_none hV
  obtain ⟨a0, len0, cap0, rfl⟩ := okWide_slice Try.underlying22 (hval 0 22 v0 rfl rfl)
  have k0 := h0
  have lt0 : ∀ x ∈ p0, x.block < W.heap.size := by obtain ⟨m, hm⟩ := k0; exact DataW.trod_lt m _ _ _ hm
  obtain ⟨z0, w0⟩ : ∃ zs, IsRow .u8 W a0 len0 cap0 zs := by
    obtain ⟨fuel, hf⟩ := h0
    rcases open_ints Try.underlying22 Try.underlying5 (by kernel_rfl) hf with ⟨hcs, _⟩ | ⟨x, l, c, zs, hcs, _, hl, hm, hz, _, hcell, hwz⟩
    · simp [Value.cells] at hcs
      obtain ⟨rfl, rfl, rfl⟩ := hcs
      exact ⟨[], .inl ⟨rfl, rfl, rfl, rfl⟩⟩
    · simp [Value.cells] at hcs
      obtain ⟨rfl, rfl, rfl⟩ := hcs
      exact ⟨zs, .inr ⟨_, rfl, hl, hm, by simpa using hz, hcell, hwz⟩⟩
  obtain ⟨a1, len1, cap1, rfl⟩ := okWide_slice Try.underlying22 (hval 1 22 v1 rfl rfl)
  have k1 := h1
  have lt1 : ∀ x ∈ p1, x.block < W.heap.size := by obtain ⟨m, hm⟩ := k1; exact DataW.trod_lt m _ _ _ hm
  obtain ⟨z1, w1⟩ : ∃ zs, IsRow .u8 W a1 len1 cap1 zs := by
    obtain ⟨fuel, hf⟩ := h1
    rcases open_ints Try.underlying22 Try.underlying5 (by kernel_rfl) hf with ⟨hcs, _⟩ | ⟨x, l, c, zs, hcs, _, hl, hm, hz, _, hcell, hwz⟩
    · simp [Value.cells] at hcs
      obtain ⟨rfl, rfl, rfl⟩ := hcs
      exact ⟨[], .inl ⟨rfl, rfl, rfl, rfl⟩⟩
    · simp [Value.cells] at hcs
      obtain ⟨rfl, rfl, rfl⟩ := hcs
      exact ⟨zs, .inr ⟨_, rfl, hl, hm, by simpa using hz, hcell, hwz⟩⟩
  clear hA0 hval0
  refine (walk a0 len0 cap0 z0 a1 len1 cap1 z1 W w0 w1).mono fun e W' ⟨he, bel⟩ => ?_
  subst he
  exact ⟨_, rfl, _, _, _, [], _, [], hW', trodAll_mk1 (shut_bool Try.underlying4 _), (trodAll_cons_mk (Below.trod laidOut (by kernel_rfl) (of_decide_eq_true (by kernel_rfl)) k0 bel lt0) (trodAll_cons_mk (Below.trod laidOut (by kernel_rfl) (of_decide_eq_true (by kernel_rfl)) k1 bel lt1) trodAll_mk0)), rfl, bel.frame _, fun h => by cases h⟩

theorem over : Rows.fnFarThreeRow.holds Try.pinned (OpenSpec.ofChange Rows.fnFarThreeSpec) :=
  OpenClaim.holds_of_wide 4 Try.f4 rfl rfl rfl rfl rfl rfl rfl ⟨rfl, rfl, rfl, rfl, rfl⟩ rfl rfl rfl rfl rfl (by kernel_rfl) Try.func4 (by kernel_rfl)
    (of_decide_eq_true (by kernel_rfl)) (by unfold Func.isWrapper; first | (rw [if_pos (by decide +kernel)]; kernel_rfl) | (rw [if_neg (by decide +kernel)]; exact ⟨rfl, rfl⟩))
    (fun os started H enc _ => lifted os started H enc)

end Go.Proofs.Ytlpclfeppddlfaa.fnFarThree
namespace Go.Proofs.Ytlpclfeppddlfaa
theorem fnFarThree_proved : Rows.FnFarThreeSaid := fnFarThree.over
#print axioms fnFarThree_proved
end Go.Proofs.Ytlpclfeppddlfaa
