/- Whatever text comes in, the law FnExactTerms returns true: Terms answers as its model, and its answer owns its memory; no condition. The frame round the walk is the kit's own shell. -/
import Derived.Test.YtbkehpoigaeboaaRows
import Derived.Test.YtbkehpoigaeboaaTermsS
import Derived.Test.YtbkehpoigaeboaaStrEq
import Derived.Test.YtbkehpoigaeboaaMarkStr
import Derived.Test.YtbkehpoigaeboaaFoldMore
import Derived.WalkKit
import Derived.ProofKit
import Derived.OpenShut
import Derived.ShutString
import Derived.ChangeOld
import Derived.Below
namespace Go.Proofs.Ytbkehpoigaeboaa.fnExactTerms
open Go.ChangeShapes Go.WideShapes Go.ChangeAt Go.RowKit
open Go.ChangeMaps (open_string shut_string)
set_option linter.unusedVariables false

theorem own : ownKnob Try.prog.godebug = none := by kernel_rfl

theorem walk (a0 : ByteArray) (w0 : a0.size ≤ maxLen) (w : World) :
    Calls Try.prog 11 #[.string a0] w fun e w' => e = .returned (.bool true) ∧ Below w.heap.size w w' := by
  by_cases hbig : 1048576 < (a0.size : Int)
  · go_enter Try.func11, Try.ntmps11
    go_wp2
    go_ret
    exact ⟨rfl, Below.refl _ _⟩
  have hN := termsL_le a0
  go_enter Try.func11, Try.ntmps11
  go_wp2_with fail
  refine (termsS_any a0 _ (by omega)).mono ?_
  rintro e u1 ⟨v0, rfl, ho0, hb1⟩
  obtain ⟨p0, c0, rfl, hr0⟩ := owns_strRow ho0
  clear ho0
  go_wp2_with fail
  refine (termsI2_any a0 _ (by omega)).mono ?_
  rintro e u2 ⟨v1, rfl, ho1, hb2⟩
  obtain ⟨p1, c1, rfl, hr1⟩ := owns_strRow ho1
  have r0 := hr0.below hb2
  go_wp2_with fail
  refine (eqStringS_same p1 p0 c1 c0 (termsL a0) _ (by omega) hr1 r0).mono ?_
  rintro e u3 ⟨rfl, hb3⟩
  have ho3 := ho1.kept (grown_of_below (r := none) hb3) (by cases p1 <;> simp [Value.ownBlock])
  have hb13 : Below u1.heap.size u1 u3 := below_trans hb2 hb3
  clear hr1 r0 ho1
  go_wp2_with fail
  refine (markStringS_any u1.heap.size _ (termsL a0).length 1 _ _ (by simp) (by omega) (by omega) (by omega) ho3).mono ?_
  rintro e u4 ⟨rfl, ho4, hg4⟩
  have hb14 : Below u1.heap.size u1 u4 := hb13.grown hg4 hb13.size (fun j hj => (ho3.lt j hj).1)
  have hm4 : u4.ownsRow u1.heap.size 9 1 (.slice p1 (termsL a0).length c1) (marksB 1 (termsL a0).length).length ((marksB 1 (termsL a0).length).map Value.string) := by rw [marksB_len]; exact ho4
  obtain ⟨p1', c1', hv1, hr4⟩ := owns_strRow hm4
  simp only [Value.slice.injEq] at hv1
  obtain ⟨rfl, hlx, rfl⟩ := hv1
  clear hlx
  have r04 := hr0.below hb14
  clear hm4 ho4 hg4 ho3 hr0
  go_wp2_with fail
  refine (heldStringS_any p1 c1 (termsL a0).length 1 _ (by omega) (by omega) (by omega) hr4).mono ?_
  rintro e u5 ⟨rfl, hb5⟩
  go_wp2_with fail
  refine (termsI2_any a0 _ (by omega)).mono ?_
  rintro e u6 ⟨v2, rfl, ho6, hb6⟩
  obtain ⟨p2, c2, rfl, hr6⟩ := owns_strRow ho6
  have r06 := r04.below (below_trans hb5 hb6)
  clear ho6
  go_wp2_with fail
  refine (eqStringS_same p2 p0 c2 c0 (termsL a0) _ (by omega) hr6 r06).mono ?_
  rintro e u7 ⟨rfl, hb7⟩
  have r47 := hr4.below (below_trans hb5 (below_trans hb6 hb7))
  clear hr6 r06 hr4 r04
  go_wp2_with fail
  refine (heldStringS_any p1 c1 (termsL a0).length 1 _ (by omega) (by omega) (by omega) r47).mono ?_
  rintro e u8 ⟨rfl, hb8⟩
  go_wp2
  go_ret
  exact ⟨rfl, below_trans (hb1.trans (hb14.mono hb1.size)) (below_trans hb5 (below_trans hb6 (below_trans hb7 hb8)))⟩

set_option maxRecDepth 100000 in
theorem lifted (os : Os) (started : os.Started) (H : Type) (enc : TypeId × Value → H) :
    ReturnsInHanded {} Try.checked os 11 .any (Rows.fnExactTermsSpec.pre6 enc Try.prog Try.f11 Rows.fnExactTermsRow.domain false) (Rows.fnExactTermsSpec.post enc Try.prog Try.f11 false true false false) := by
  refine returnsInHanded_of_change (C := Try.checked) own started (by kernel_rfl) Try.func11
    (ChangeSpec.witness6 (enc := enc) (C := Try.checked) false ⟨#[], #[.string ByteArray.empty], []⟩ 8 (by kernel_rfl) (by kernel_rfl) (by kernel_rfl) (by kernel_rfl)) ?_
  intro W base args ds gs before hval0 hW hcnd _
  have hval : ∀ (j : Nat) t v, Try.f11.params[j]? = some t → args[j]? = some v → Value.okWide Try.prog W .any base t v := hval0
  have hW' := hW
  obtain ⟨p, q, hA0, hV, rfl, hfz, hnd⟩ := hW
  have hA : DataW.TrodAll enc Try.prog W 0 (fun _ => true) true Try.f11.params.toList args.toList ds p := hA0
  rw [Try.params11] at hA hval
  obtain ⟨v0, vs0, d0, ds0, p0, q0, hargs, rfl, rfl, h0, r0⟩ := trodAll_cons hA
  obtain ⟨rfl, rfl, rfl⟩ := trodAll_nil r0
  obtain rfl : args = #[v0] := by cases args; simp_all
  obtain ⟨rfl, rfl⟩ := trodVars_none hV
  obtain ⟨a0, rfl, rfl, rfl, w0⟩ := open_string Try.underlying9 (hval 0 9 v0 rfl rfl) h0
  clear hA0 hval0
  refine (walk a0 w0 W).mono fun e W' ⟨he, bel⟩ => ?_
  subst he
  exact ⟨_, rfl, _, _, _, [], _, [], hW', trodAll_mk1 (shut_bool Try.underlying4 _), (trodAll_cons_mk (shut_string Try.underlying9 w0) trodAll_mk0), rfl, bel.frame _, fun h => by cases h⟩

theorem over : Rows.fnExactTermsRow.holds Try.pinned (OpenSpec.ofChange Rows.fnExactTermsSpec) :=
  OpenClaim.holds_of_wide 11 Try.f11 rfl rfl rfl rfl rfl rfl rfl ⟨rfl, rfl, rfl, rfl, rfl⟩ rfl rfl rfl rfl rfl (by kernel_rfl) Try.func11 (by kernel_rfl)
    (of_decide_eq_true (by kernel_rfl)) (by unfold Func.isWrapper; first | (rw [if_pos (by decide +kernel)]; kernel_rfl) | (rw [if_neg (by decide +kernel)]; exact ⟨rfl, rfl⟩))
    (fun os started H enc _ => lifted os started H enc)

end Go.Proofs.Ytbkehpoigaeboaa.fnExactTerms
namespace Go.Proofs.Ytbkehpoigaeboaa
theorem fnExactTerms_proved : Rows.FnExactTermsSaid := fnExactTerms.over
#print axioms fnExactTerms_proved
end Go.Proofs.Ytbkehpoigaeboaa
