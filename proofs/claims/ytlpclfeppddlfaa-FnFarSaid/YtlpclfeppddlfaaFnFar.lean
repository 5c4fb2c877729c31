/- Whatever bytes come in, the law FnFar returns true (two drawn texts: Far answers as its model, the same either way round, 0 just of the same text, between the two bounds); no condition. The frame round the walk is the kit's own shell. -/
import Derived.Test.YtlpclfeppddlfaaRows
import Derived.Test.YtlpclfeppddlfaaDrawFar
import Derived.Test.YtlpclfeppddlfaaFarLaw
import Derived.Test.YtlpclfeppddlfaaFarS
import Derived.WalkKit
import Derived.ProofKit
import Derived.OpenShut
import Derived.ShutString
import Derived.ChangeOld
import Derived.Below
namespace Go.Proofs.Ytlpclfeppddlfaa.fnFar
open Go.ChangeShapes Go.WideShapes Go.ChangeAt Go.RowKit
open Go.ChangeMaps (open_string shut_string)
set_option linter.unusedVariables false

theorem own : ownKnob Try.prog.godebug = none := by kernel_rfl
theorem laidOut : laidOutB Try.prog = true := by kernel_rfl

def IsRow (k : IntKind) (w : World) (a : Option Addr) (len cap : Nat) (zs : List Int) : Prop :=
  (a = none ∧ len = 0 ∧ cap = 0 ∧ zs = []) ∨
  ∃ x, a = some x ∧ len ≤ cap ∧ cap ≤ maxLen ∧ zs.length = cap ∧ (∀ i, i < zs.length → w.cell? (x.add i) = some (.int k (zs.getD i 0))) ∧ ∀ n ∈ zs, (Lit.int k n).wf = true

theorem walk (a0 : Option Addr) (len0 cap0 : Nat) (z0 : List Int) (w : World) (w0 : IsRow .u8 w a0 len0 cap0 z0) :
    Calls Try.prog 3 #[.slice a0 len0 cap0] w fun e w' => e = .returned (.bool true) ∧ Below w.heap.size w w' := by
  have b0 : BytesIn w a0 len0 cap0 := bytes_in w0
  clear w0
  have m0 := b0.le
  have m1 := b0.max
  unfold maxLen at m1
  by_cases hbig0 : 1048576 < (len0 : Int)
  · go_enter Try.func3, Try.ntmps3
    go_wp2
    go_ret
    exact ⟨rfl, Below.refl _ _⟩
  go_enter Try.func3, Try.ntmps3
  go_wp2_with fail
  refine (drawFar_any _ _ _ _ b0).mono ?_
  rintro e u1 ⟨s, t, rfl, hs, ht, hb1⟩
  clear b0
  go_wp2_with fail
  refine (farI_any s t _ (by omega) (by omega)).mono ?_
  rintro e u2 ⟨rfl, hb2⟩
  go_wp2_with fail
  refine (farS_any s t _ (by omega) (by omega)).mono ?_
  rintro e u3 ⟨rfl, hb3⟩
  cases hx : textB s && textB t with
  | false =>
    rw [farB_neg s t hx]
    go_wp2_with fail
    refine (farS_any s t _ (by omega) (by omega)).mono ?_
    rintro e u4 ⟨rfl, hb4⟩
    rw [farB_neg s t hx]
    have hball : Below w.heap.size w u4 := below_trans hb1 (below_trans hb2 (below_trans hb3 hb4))
    clear hb1 hb2 hb3 hb4
    go_wp2
    go_ret
    exact ⟨rfl, hball⟩
  | true =>
    rw [Bool.and_eq_true] at hx
    have hz := farB_zero s t hx.1 hx.2
    obtain ⟨q1, q2, q3, q4⟩ := farB_bd s t hx.1 hx.2
    have HY : Hid (farB t s = farB s t) := farB_symm s t
    have HN : Hid (farB s ⟨#[]⟩ = s.size) := farB_nil s hx.1
    have q5 : decide (farB s t < 0) = false := by simp; omega
    generalize hn : farB s t = n at *
    by_cases hl : (s.size : Int) < (t.size : Int)
    · have l1 : n ≤ (t.size : Int) := by omega
      go_wp2_with fail
      refine (farI_any t s _ (by omega) (by omega)).mono ?_
      rintro e u4 ⟨rfl, hb4⟩
      rw [HY.out]
      go_wp2_with fail
      refine (farI_any s ⟨#[]⟩ _ (by omega) (by decide)).mono ?_
      rintro e u5 ⟨rfl, hb5⟩
      rw [HN.out]
      have hball : Below w.heap.size w u5 := below_trans hb1 (below_trans hb2 (below_trans hb3 (below_trans hb4 hb5)))
      clear hb1 hb2 hb3 hb4 hb5
      go_wp2
      go_ret
      exact ⟨rfl, hball⟩
    · have l1 : n ≤ (s.size : Int) := by omega
      go_wp2_with fail
      refine (farI_any t s _ (by omega) (by omega)).mono ?_
      rintro e u4 ⟨rfl, hb4⟩
      rw [HY.out]
      go_wp2_with fail
      refine (farI_any s ⟨#[]⟩ _ (by omega) (by decide)).mono ?_
      rintro e u5 ⟨rfl, hb5⟩
      rw [HN.out]
      have hball : Below w.heap.size w u5 := below_trans hb1 (below_trans hb2 (below_trans hb3 (below_trans hb4 hb5)))
      clear hb1 hb2 hb3 hb4 hb5
      go_wp2
      go_ret
      exact ⟨rfl, hball⟩

set_option maxRecDepth 100000 in
theorem lifted (os : Os) (started : os.Started) (H : Type) (enc : TypeId × Value → H) :
    ReturnsInHanded {} Try.checked os 3 .any (Rows.fnFarSpec.pre6 enc Try.prog Try.f3 Rows.fnFarRow.domain false) (Rows.fnFarSpec.post enc Try.prog Try.f3 false true false false) := by
  refine returnsInHanded_of_change (C := Try.checked) own started (by kernel_rfl) Try.func3
    (ChangeSpec.witness6 (enc := enc) (C := Try.checked) false ⟨#[], #[.slice none 0 0], []⟩ 8 (by kernel_rfl) (by kernel_rfl) (by kernel_rfl) (by kernel_rfl)) ?_
  intro W base args ds gs before hval0 hW hcnd _
  have hval : ∀ (j : Nat) t v, Try.f3.params[j]? = some t → args[j]? = some v → Value.okWide Try.prog W .any base t v := hval0
  have hW' := hW
  obtain ⟨p, q, hA0, hV, rfl, hfz, hnd⟩ := hW
  have hA : DataW.TrodAll enc Try.prog W 0 (fun _ => true) true Try.f3.params.toList args.toList ds p := hA0
  rw [Try.params3] at hA hval
  obtain ⟨v0, vs0, d0, ds0, p0, q0, hargs, rfl, rfl, h0, r0⟩ := trodAll_cons hA
  obtain ⟨rfl, rfl, rfl⟩ := trodAll_nil r0
  obtain rfl : args = #[v0] := by cases args; simp_all
  obtain ⟨rfl, rfl⟩ := trodVars_none hV
  obtain ⟨a0, len0, cap0, rfl⟩ := okWide_slice Try.underlying22 (hval 0 22 v0 rfl rfl)
  have k0 := h0
  have lt0 : ∀ x ∈ p0, x.block < W.heap.size := by obtain ⟨m, hm⟩ := k0; exact DataW.trod_lt m _ _ _ hm
  obtain ⟨z0, w0⟩ : ∃ zs, IsRow .u8 W a0 len0 cap0 zs := by
    obtain ⟨fuel, hf⟩ := h0
    rcases open_ints Try.underlying22 Try.underlying5 (by kernel_rfl) hf with ⟨hcs, _⟩ | ⟨x, l, c, zs, hcs, _, hl, hm, hz, _, hcell, hwz⟩
    · simp [Value.cells] at hcs
      obtain ⟨rfl, rfl, rfl⟩ := hcs
      exact ⟨[], .inl ⟨rfl, rfl, rfl, rfl⟩⟩
    · simp [Value.cells] at hcs
      obtain ⟨rfl, rfl, rfl⟩ := hcs
      exact ⟨zs, .inr ⟨_, rfl, hl, hm, by simpa using hz, hcell, hwz⟩⟩
  clear hA0 hval0
  refine (walk a0 len0 cap0 z0 W w0).mono fun e W' ⟨he, bel⟩ => ?_
  subst he
  exact ⟨_, rfl, _, _, _, [], _, [], hW', trodAll_mk1 (shut_bool Try.underlying4 _), (trodAll_cons_mk (Below.trod laidOut (by kernel_rfl) (of_decide_eq_true (by kernel_rfl)) k0 bel lt0) trodAll_mk0), rfl, bel.frame _, fun h => by cases h⟩

theorem over : Rows.fnFarRow.holds Try.pinned (OpenSpec.ofChange Rows.fnFarSpec) :=
  OpenClaim.holds_of_wide 3 Try.f3 rfl rfl rfl rfl rfl rfl rfl ⟨rfl, rfl, rfl, rfl, rfl⟩ rfl rfl rfl rfl rfl (by kernel_rfl) Try.func3 (by kernel_rfl)
    (of_decide_eq_true (by kernel_rfl)) (by unfold Func.isWrapper; first | (rw [if_pos (by decide +kernel)]; kernel_rfl) | (rw [if_neg (by decide +kernel)]; exact ⟨rfl, rfl⟩))
    (fun os started H enc _ => lifted os started H enc)

end Go.Proofs.Ytlpclfeppddlfaa.fnFar
namespace Go.Proofs.Ytlpclfeppddlfaa
theorem fnFar_proved : Rows.FnFarSaid := fnFar.over
#print axioms fnFar_proved
end Go.Proofs.Ytlpclfeppddlfaa
