/- impl.SetAnd and spec.SetAnd answer the same. -/
import Derived.Test.YtbmdfhognldkjaaOwnedAnd
namespace Go.Proofs.Ytbmdfhognldkjaa
open Go.RowKit

theorem IntRow.low {w : World} {a : Option Addr} {zs : List Int} (h : IntRow w a zs) : RowLow w.heap.size w a zs := fun hp => by
  obtain ⟨g, off, e, hg, hc⟩ := h hp
  exact ⟨g, off, e, hg, hg, hc⟩
theorem toldAnd (zs ys : List Int) (hz : setB zs = true) (hy : setB ys = true) : toldL (fun p q => p && q) (mg zs ys) = andB zs ys true := by
  rw [← told_andB true zs ys hz hy]
  unfold toldL told
  simp
theorem andB_none (zs ys : List Int) (both : Bool) (h : (setB zs && setB ys) = false) : andB zs ys both = [] := by
  unfold andB
  rw [h]
  rfl

theorem setAndI_any (a b : Option Addr) (ca cb : Nat) (zs ys : List Int) (w : World) (hz : zs.length ≤ 1048576) (hy : ys.length ≤ 1048576) (hr : IntRow w a zs) (hs : IntRow w b ys) :
    Calls Try.prog 15 #[.slice a zs.length ca, .slice b ys.length cb] w fun e w' => ∃ v, e = .returned v ∧ w'.ownsRow w.heap.size 3 1 v (andB zs ys true).length ((andB zs ys true).map (Value.int .i64)) ∧ Below w.heap.size w w' := by
  cases h1 : setB zs with
  | false =>
    have HE : Hid (andB zs ys true = []) := andB_none zs ys true (by rw [h1]; rfl)
    go_enter Try.func15, Try.ntmps15
    go_wp2_with fail
    refine (setI_any a ca zs _ (by omega) hr).mono ?_
    rintro e w1 ⟨rfl, rfl⟩
    rw [h1]
    clear hr hs
    go_wp2
    go_ret
    exact ⟨_, rfl, by rw [HE.out]; exact World.ownsRow_nil _ _ _ _, Below.refl _ _⟩
  | true =>
    cases h2 : setB ys with
    | false =>
      have HE : Hid (andB zs ys true = []) := andB_none zs ys true (by rw [h1, h2]; rfl)
      go_enter Try.func15, Try.ntmps15
      go_wp2_with fail
      refine (setI_any a ca zs _ (by omega) hr).mono ?_
      rintro e w1 ⟨rfl, rfl⟩
      rw [h1]
      go_wp2_with fail
      refine (setI_any b cb ys _ (by omega) hs).mono ?_
      rintro e w1 ⟨rfl, rfl⟩
      rw [h2]
      clear hr hs
      go_wp2
      go_ret
      exact ⟨_, rfl, by rw [HE.out]; exact World.ownsRow_nil _ _ _ _, Below.refl _ _⟩
    | true =>
      have HE : Hid (toldL (fun p q => p && q) (mg zs ys) = andB zs ys true) := toldAnd zs ys h1 h2
      go_enter Try.func15, Try.ntmps15
      go_wp2_with fail
      refine (setI_any a ca zs _ (by omega) hr).mono ?_
      rintro e w1 ⟨rfl, rfl⟩
      rw [h1]
      go_wp2_with fail
      refine (setI_any b cb ys _ (by omega) hs).mono ?_
      rintro e w1 ⟨rfl, rfl⟩
      rw [h2]
      go_wp2_with fail
      refine (ownedAnd_any a b ca cb zs ys _ hz hy hr.low hs.low).mono ?_
      rintro e w2 ⟨v, rfl, ho, hb⟩
      rw [HE.out] at ho
      clear hr hs
      go_wp2
      go_ret
      exact ⟨_, rfl, ho, hb⟩
end Go.Proofs.Ytbmdfhognldkjaa
