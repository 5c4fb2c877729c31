/- Whatever bytes come in, the law FnFarOne returns true (two drawn texts: Far answers as its model; with a byte more it is one more or less at most, with the same byte at both the same); no condition. The frame round the walk is the kit's own shell. -/
import Derived.Test.YtlpclfeppddlfaaRows
import Derived.Test.YtlpclfeppddlfaaDrawFar
import Derived.Test.YtlpclfeppddlfaaFarLaw
import Derived.Test.YtlpclfeppddlfaaFarS
import Derived.WalkKit
import Derived.ProofKit
import Derived.OpenShut
import Derived.ShutString
import Derived.ChangeOld
import Derived.Below
namespace Go.Proofs.Ytlpclfeppddlfaa.fnFarOne
open Go.ChangeShapes Go.WideShapes Go.ChangeAt Go.RowKit
open Go.ChangeMaps (open_string shut_string)
set_option linter.unusedVariables false

theorem own : ownKnob Try.prog.godebug = none := by kernel_rfl
theorem laidOut : laidOutB Try.prog = true := by kernel_rfl

def IsRow (k : IntKind) (w : World) (a : Option Addr) (len cap : Nat) (zs : List Int) : Prop :=
  (a = none ∧ len = 0 ∧ cap = 0 ∧ zs = []) ∨
  ∃ x, a = some x ∧ len ≤ cap ∧ cap ≤ maxLen ∧ zs.length = cap ∧ (∀ i, i < zs.length → w.cell? (x.add i) = some (.int k (zs.getD i 0))) ∧ ∀ n ∈ zs, (Lit.int k n).wf = true

theorem walk (a0 : Option Addr) (len0 cap0 : Nat) (z0 : List Int) (w : World) (w0 : IsRow .u8 w a0 len0 cap0 z0) :
    Calls Try.prog 5 #[.slice a0 len0 cap0] w fun e w' => e = .returned (.bool true) ∧ Below w.heap.size w w' := by
  have b0 : BytesIn w a0 len0 cap0 := bytes_in w0
  clear w0
  have m0 := b0.le
  have m1 := b0.max
  unfold maxLen at m1
  by_cases hbig0 : 1048576 < (len0 : Int)
  · go_enter Try.func5, Try.ntmps5
    go_wp2
    go_ret
    exact ⟨rfl, Below.refl _ _⟩
  go_enter Try.func5, Try.ntmps5
  go_wp2_with fail
  refine (drawFar_any _ _ _ _ b0).mono ?_
  rintro e u1 ⟨s, t, rfl, hs, ht, hb1⟩
  clear b0
  go_wp2_with fail
  refine (farI_any s t _ (by omega) (by omega)).mono ?_
  rintro e u2 ⟨rfl, hb2⟩
  go_wp2_with fail
  refine (farS_any s t _ (by omega) (by omega)).mono ?_
  rintro e u3 ⟨rfl, hb3⟩
  have hball : Below w.heap.size w u3 := below_trans hb1 (below_trans hb2 hb3)
  clear hb1 hb2 hb3
  by_cases hyes : textB s = true ∧ textB t = true ∧ s.size < 60 ∧ t.size < 60
  · obtain ⟨h1, h2, s1, s2⟩ := hyes
    obtain ⟨o1, o2, o3, o4, o5⟩ := farB_one s t h1 h2 s1 s2
    have q1 := (farB_bd s t h1 h2).1
    obtain ⟨_, q2, _, _⟩ := farB_bd s t h1 h2
    have q5 : decide (farB s t < 0) = false := by simp; omega
    have g1 : decide (60 ≤ (s.size : Int)) = false := by simp; omega
    have g2 : decide (60 ≤ (t.size : Int)) = false := by simp; omega
    have q6 : farB s t ≤ 1000 := by omega
    have O3 : Hid (farB (s ++ qS) (t ++ qS) = farB s t) := o3
    have O4 : Hid (farB (qS ++ s) (qS ++ t) = farB s t) := o4
    have O5 : Hid (farB s (s ++ qS) = 1) := o5
    have z1 : (s ++ qS).size ≤ 200 := by rw [ByteArray.size_append]; show _ + 1 ≤ _; omega
    have z2 : (t ++ qS).size ≤ 200 := by rw [ByteArray.size_append]; show _ + 1 ≤ _; omega
    have z3 : (qS ++ s).size ≤ 200 := by rw [ByteArray.size_append]; show 1 + _ ≤ _; omega
    have z4 : (qS ++ t).size ≤ 200 := by rw [ByteArray.size_append]; show 1 + _ ≤ _; omega
    clear o3 o4 o5 q2
    generalize hn : farB s t = n at *
    go_wp2_with fail
    refine (farI_any (s ++ qS) t _ (by omega) (by omega)).mono ?_
    rintro e u4 ⟨rfl, hb4⟩
    generalize farB (s ++ qS) t = x at *
    go_wp2_with fail
    refine (farI_any (s ++ qS) (t ++ qS) _ (by omega) (by omega)).mono ?_
    rintro e u5 ⟨rfl, hb5⟩
    rw [O3.out]
    go_wp2_with fail
    refine (farI_any (qS ++ s) (qS ++ t) _ (by omega) (by omega)).mono ?_
    rintro e u6 ⟨rfl, hb6⟩
    rw [O4.out]
    go_wp2_with fail
    refine (farI_any s (s ++ qS) _ (by omega) (by omega)).mono ?_
    rintro e u7 ⟨rfl, hb7⟩
    rw [O5.out]
    have hball7 : Below w.heap.size w u7 := below_trans hball (below_trans hb4 (below_trans hb5 (below_trans hb6 hb7)))
    clear hb4 hb5 hb6 hb7
    go_wp2
    go_ret
    exact ⟨rfl, hball7⟩
  · have hall : decide (farB s t < 0) = true ∨ (decide (farB s t < 0) = false ∧ ((60 : Int) ≤ (s.size : Int) ∨ (decide (60 ≤ (s.size : Int)) = false ∧ (60 : Int) ≤ (t.size : Int)))) := by
      cases h1 : textB s && textB t with
      | false => exact .inl (by rw [farB_neg s t h1]; decide)
      | true =>
        rw [Bool.and_eq_true] at h1
        have q1 := (farB_bd s t h1.1 h1.2).1
        refine .inr ⟨by simp; omega, ?_⟩
        by_cases e1 : s.size < 60
        · refine .inr ⟨by simp; omega, ?_⟩
          have : ¬ t.size < 60 := fun e2 => hyes ⟨h1.1, h1.2, e1, e2⟩
          omega
        · exact .inl (by omega)
    generalize hn : farB s t = n at *
    rcases hall with h | ⟨h, h' | ⟨h', h''⟩⟩
    all_goals
      go_wp2_with fail
      refine (farS_any s t _ (by omega) (by omega)).mono ?_
      rintro e u7 ⟨rfl, hb7⟩
      rw [hn]
      go_wp2
      go_ret
      exact ⟨rfl, below_trans hball hb7⟩

set_option maxRecDepth 100000 in
theorem lifted (os : Os) (started : os.Started) (H : Type) (enc : TypeId × Value → H) :
    ReturnsInHanded {} Try.checked os 5 .any (Rows.fnFarOneSpec.pre6 enc Try.prog Try.f5 Rows.fnFarOneRow.domain false) (Rows.fnFarOneSpec.post enc Try.prog Try.f5 false true false false) := by
  refine returnsInHanded_of_change (C := Try.checked) own started (by kernel_rfl) Try.func5
    (ChangeSpec.witness6 (enc := enc) (C := Try.checked) false ⟨#[], #[.slice none 0 0], []⟩ 8 (by kernel_rfl) (by kernel_rfl) (by kernel_rfl) (by kernel_rfl)) ?_
  intro W base args ds gs before hval0 hW hcnd _
  have hval : ∀ (j : Nat) t v, Try.f5.params[j]? = some t → args[j]? = some v → Value.okWide Try.prog W .any base t v := hval0
  have hW' := hW
  obtain ⟨p, q, hA0, hV, rfl, hfz, hnd⟩ := hW
  have hA : DataW.TrodAll enc Try.prog W 0 (fun _ => true) true Try.f5.params.toList args.toList ds p := hA0
  rw [Try.params5] at hA hval
  obtain ⟨v0, vs0, d0, ds0, p0, q0, hargs, rfl, rfl, h0, r0⟩ := trodAll_cons hA
  obtain ⟨rfl, rfl, rfl⟩ := trodAll_nil r0
  obtain rfl : args = #[v0] := by cases args; simp_all
  obtain ⟨rfl, rfl⟩ := trodVars_none hV
  obtain ⟨a0, len0, cap0, rfl⟩ := okWide_slice Try.underlying22 (hval 0 22 v0 rfl rfl)
  have k0 := h0
  have lt0 : ∀ x ∈ p0, x.block < W.heap.size := by obtain ⟨m, hm⟩ := k0; exact DataW.trod_lt m _ _ _ hm
  obtain ⟨z0, w0⟩ : ∃ zs, IsRow .u8 W a0 len0 cap0 zs := by
    obtain ⟨fuel, hf⟩ := h0
    rcases open_ints Try.underlying22 Try.underlying5 (by kernel_rfl) hf with ⟨hcs, _⟩ | ⟨x, l, c, zs, hcs, _, hl, hm, hz, _, hcell, hwz⟩
    · simp [Value.cells] at hcs
      obtain ⟨rfl, rfl, rfl⟩ := hcs
      exact ⟨[], .inl ⟨rfl, rfl, rfl, rfl⟩⟩
    · simp [Value.cells] at hcs
      obtain ⟨rfl, rfl, rfl⟩ := hcs
      exact ⟨zs, .inr ⟨_, rfl, hl, hm, by simpa using hz, hcell, hwz⟩⟩
  clear hA0 hval0
  refine (walk a0 len0 cap0 z0 W w0).mono fun e W' ⟨he, bel⟩ => ?_
  subst he
  exact ⟨_, rfl, _, _, _, [], _, [], hW', trodAll_mk1 (shut_bool Try.underlying4 _), (trodAll_cons_mk (Below.trod laidOut (by kernel_rfl) (of_decide_eq_true (by kernel_rfl)) k0 bel lt0) trodAll_mk0), rfl, bel.frame _, fun h => by cases h⟩

theorem over : Rows.fnFarOneRow.holds Try.pinned (OpenSpec.ofChange Rows.fnFarOneSpec) :=
  OpenClaim.holds_of_wide 5 Try.f5 rfl rfl rfl rfl rfl rfl rfl ⟨rfl, rfl, rfl, rfl, rfl⟩ rfl rfl rfl rfl rfl (by kernel_rfl) Try.func5 (by kernel_rfl)
    (of_decide_eq_true (by kernel_rfl)) (by unfold Func.isWrapper; first | (rw [if_pos (by decide +kernel)]; kernel_rfl) | (rw [if_neg (by decide +kernel)]; exact ⟨rfl, rfl⟩))
    (fun os started H enc _ => lifted os started H enc)

end Go.Proofs.Ytlpclfeppddlfaa.fnFarOne
namespace Go.Proofs.Ytlpclfeppddlfaa
theorem fnFarOne_proved : Rows.FnFarOneSaid := fnFarOne.over
#print axioms fnFarOne_proved
end Go.Proofs.Ytlpclfeppddlfaa
