/- impl.SetLess and spec.SetLess answer the same. -/
import Derived.Test.YtbmdfhognldkjaaSetAnd
import Derived.Test.YtbmdfhognldkjaaOwnedLess
namespace Go.Proofs.Ytbmdfhognldkjaa
open Go.RowKit

theorem toldLess (zs ys : List Int) (hz : setB zs = true) (hy : setB ys = true) : toldL (fun p q => p && !q) (mg zs ys) = andB zs ys false := by
  rw [← told_andB false zs ys hz hy]
  unfold toldL told
  simp
theorem setLessI_any (a b : Option Addr) (ca cb : Nat) (zs ys : List Int) (w : World) (hz : zs.length ≤ 1048576) (hy : ys.length ≤ 1048576) (hr : IntRow w a zs) (hs : IntRow w b ys) :
    Calls Try.prog 25 #[.slice a zs.length ca, .slice b ys.length cb] w fun e w' => ∃ v, e = .returned v ∧ w'.ownsRow w.heap.size 3 1 v (andB zs ys false).length ((andB zs ys false).map (Value.int .i64)) ∧ Below w.heap.size w w' := by
  cases h1 : setB zs with
  | false =>
    have HE : Hid (andB zs ys false = []) := andB_none zs ys false (by rw [h1]; rfl)
    go_enter Try.func25, Try.ntmps25
    go_wp2_with fail
    refine (setI_any a ca zs _ (by omega) hr).mono ?_
    rintro e w1 ⟨rfl, rfl⟩
    rw [h1]
    clear hr hs
    go_wp2
    go_ret
    exact ⟨_, rfl, by rw [HE.out]; exact World.ownsRow_nil _ _ _ _, Below.refl _ _⟩
  | true =>
    cases h2 : setB ys with
    | false =>
      have HE : Hid (andB zs ys false = []) := andB_none zs ys false (by rw [h1, h2]; rfl)
      go_enter Try.func25, Try.ntmps25
      go_wp2_with fail
      refine (setI_any a ca zs _ (by omega) hr).mono ?_
      rintro e w1 ⟨rfl, rfl⟩
      rw [h1]
      go_wp2_with fail
      refine (setI_any b cb ys _ (by omega) hs).mono ?_
      rintro e w1 ⟨rfl, rfl⟩
      rw [h2]
      clear hr hs
      go_wp2
      go_ret
      exact ⟨_, rfl, by rw [HE.out]; exact World.ownsRow_nil _ _ _ _, Below.refl _ _⟩
    | true =>
      have HE : Hid (toldL (fun p q => p && !q) (mg zs ys) = andB zs ys false) := toldLess zs ys h1 h2
      go_enter Try.func25, Try.ntmps25
      go_wp2_with fail
      refine (setI_any a ca zs _ (by omega) hr).mono ?_
      rintro e w1 ⟨rfl, rfl⟩
      rw [h1]
      go_wp2_with fail
      refine (setI_any b cb ys _ (by omega) hs).mono ?_
      rintro e w1 ⟨rfl, rfl⟩
      rw [h2]
      go_wp2_with fail
      refine (ownedLess_any a b ca cb zs ys _ hz hy hr.low hs.low).mono ?_
      rintro e w2 ⟨v, rfl, ho, hb⟩
      rw [HE.out] at ho
      clear hr hs
      go_wp2
      go_ret
      exact ⟨_, rfl, ho, hb⟩
end Go.Proofs.Ytbmdfhognldkjaa
