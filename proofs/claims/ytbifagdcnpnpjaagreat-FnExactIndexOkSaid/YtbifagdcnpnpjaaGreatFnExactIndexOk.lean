/- Whatever index comes in, the law FnExactIndexOk returns true: IndexOk answers as its model and writes into no argument; no condition (of the variable that the row does not list, any value serves). -/
import Derived.Test.YtbifagdcnpnpjaaGreatRows
import Derived.Test.YtbifagdcnpnpjaaGreatWIdxOk
import Derived.Test.YtbifagdcnpnpjaaGreatOpenIdx
import Derived.Test.YtbifagdcnpnpjaaGreatWrapP
import Derived.WalkKit
import Derived.ProofKit
import Derived.OpenShut
import Derived.ShutString
import Derived.ChangeOld
import Derived.Below
namespace Go.Proofs.YtbifagdcnpnpjaaGreat.fnExactIndexOk
open Go.ChangeShapes Go.WideShapes Go.ChangeAt Go.RowKit
open Go.ChangeMaps (open_string shut_string)
set_option linter.unusedVariables false

theorem own : ownKnob Tryz.prog.godebug = none := by kernel_rfl
theorem laidOut : laidOutB Tryz.prog = true := by kernel_rfl

set_option maxRecDepth 100000 in
theorem lifted (os : Os) (started : os.Started) (H : Type) (enc : TypeId × Value → H) :
    ReturnsInHanded {} Tryz.checked os 3 .any (Rows.fnExactIndexOkSpec.pre6 enc Tryz.prog Tryz.f3 Rows.fnExactIndexOkRow.domain false) (Rows.fnExactIndexOkSpec.post enc Tryz.prog Tryz.f3 false true false false) := by
  refine wrap_plain (C := Tryz.checked) own started (by kernel_rfl) Tryz.func3
    (ChangeSpec.witness6 (enc := enc) (C := Tryz.checked) false ⟨#[], #[.agg #[.slice none 0 0, .slice none 0 0, .slice none 0 0, .int .i64 0]], []⟩ 8 (by kernel_rfl) (by kernel_rfl) (by kernel_rfl) (by kernel_rfl)) ?_
  intro W base args ds gs before hval0 hW hsh
  have hval : ∀ (j : Nat) t v, Tryz.f3.params[j]? = some t → args[j]? = some v → Value.okWide Tryz.prog W .any base t v := hval0
  have hW' := hW
  obtain ⟨p, q, hA0, hV, rfl, hfz, hnd⟩ := hW
  have hA : DataW.TrodAll enc Tryz.prog W 0 (fun _ => true) true Tryz.f3.params.toList args.toList ds p := hA0
  rw [Tryz.params3] at hA hval
  obtain ⟨v0, vs0, d0, ds0, p0, q0, hargs, rfl, rfl, h0, r0⟩ := trodAll_cons hA
  obtain ⟨rfl, rfl, rfl⟩ := trodAll_nil r0
  obtain rfl : args = #[v0] := by cases args; simp_all
  obtain ⟨rfl, rfl⟩ := trodVars_none hV
  have k0 := h0
  have lt0 : ∀ x ∈ p0, x.block < W.heap.size := by obtain ⟨m, hm⟩ := k0; exact DataW.trod_lt m _ _ _ hm
  obtain ⟨cc0, rfl, _⟩ := okWide_struct Tryz.underlying26 (hval 0 26 v0 rfl rfl)
  obtain ⟨pf0, cf0, pr0, cr0, pe0, ce0, x0, ec0, hbig0, hat0⟩ := open_index h0
  obtain rfl : cc0 = idxC pf0 cf0 pr0 cr0 pe0 ce0 x0 := by
    have e : cc0.toList = [.slice pf0 x0.fields.length cf0, .slice pr0 x0.rows.length cr0, .slice pe0 x0.ents.length ce0, .int .i64 x0.next] := ec0
    exact Array.toList_inj.1 e
  clear hA0 hval0
  refine (wFnExactIndexOk pf0 cf0 pr0 cr0 pe0 ce0 x0 W (Tryz.laysM146.s1_3 W hsh) hbig0 hat0).mono fun e W' ⟨he, bel⟩ => ?_
  subst he
  exact ⟨_, rfl, _, _, _, [], _, [], hW', trodAll_mk1 (shut_bool Tryz.underlying4 _), (trodAll_cons_mk (Below.trod laidOut (by kernel_rfl) (of_decide_eq_true (by kernel_rfl)) k0 bel lt0) trodAll_mk0), rfl, bel.frame _, fun h => by cases h⟩

theorem over : Rows.fnExactIndexOkRow.holds Tryz.pinned (OpenSpec.ofChange Rows.fnExactIndexOkSpec) :=
  OpenClaim.holds_of_wide 3 Tryz.f3 rfl rfl rfl rfl rfl rfl rfl ⟨rfl, rfl, rfl, rfl, rfl⟩ rfl rfl rfl rfl rfl (by kernel_rfl) Tryz.func3 (by kernel_rfl)
    (of_decide_eq_true (by kernel_rfl)) (by unfold Func.isWrapper; first | (rw [if_pos (by decide +kernel)]; kernel_rfl) | (rw [if_neg (by decide +kernel)]; exact ⟨rfl, rfl⟩))
    (fun os started H enc _ => lifted os started H enc)
end Go.Proofs.YtbifagdcnpnpjaaGreat.fnExactIndexOk
namespace Go.Proofs.YtbifagdcnpnpjaaGreat
theorem fnExactIndexOk_proved : Rows.FnExactIndexOkSaid := fnExactIndexOk.over
#print axioms fnExactIndexOk_proved
end Go.Proofs.YtbifagdcnpnpjaaGreat
