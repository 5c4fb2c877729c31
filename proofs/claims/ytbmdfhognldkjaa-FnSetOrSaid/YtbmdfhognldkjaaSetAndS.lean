/- spec.SetAnd. -/
import Derived.Test.YtbmdfhognldkjaaSetSpec
namespace Go.Proofs.Ytbmdfhognldkjaa
open Go.RowKit
theorem setAndS_any (a b : Option Addr) (ca cb : Nat) (zs ys : List Int) (w : World) (hz : zs.length ≤ 1048576) (hy : ys.length ≤ 1048576) (hr : IntRow w a zs) (hs : IntRow w b ys) :
    Calls Try.prog 17 #[.slice a zs.length ca, .slice b ys.length cb] w fun e w' => ∃ v, e = .returned v ∧ w'.ownsRow w.heap.size 3 1 v (andB zs ys true).length ((andB zs ys true).map (Value.int .i64)) ∧ Below w.heap.size w w' := by
  have lit : ∀ u : World, (u.alloc (.cells #[] 3)).ownsRow u.heap.size 3 1 (.slice (some ⟨u.heap.size, 0, none⟩) 0 0) 0 [] := fun u => World.ownsRow_lit u #[] 0 (Nat.le_refl _) (by decide) rfl
  have mono : ∀ {u : World} {c c' : Nat} {v : Value} {n : Nat} {xs : List Value}, u.ownsRow c 3 1 v n xs → c' ≤ c → u.ownsRow c' 3 1 v n xs := fun {u c c' v n xs} h hb => by
    refine ⟨h.1, ?_⟩
    rcases h.2 with h2 | ⟨g, cap, cur, hv, hg, r⟩
    · exact .inl h2
    · exact .inr ⟨g, cap, cur, hv, Nat.le_trans hb hg, r⟩
  have HLIT : Hid (∀ u : World, (u.alloc (.cells #[] 3)).ownsRow u.heap.size 3 1 (.slice (some ⟨u.heap.size, 0, none⟩) 0 0) 0 []) := lit
  clear lit
  cases h1 : setB zs with
  | false =>
    have HE : Hid (andB zs ys true = []) := by unfold Hid andB; rw [h1]; rfl
    go_enter Try.func17, Try.ntmps17
    go_wp2_with fail
    refine (setS_any a ca zs _ (by omega) hr).mono ?_
    rintro e w1 ⟨rfl, hb1⟩
    rw [h1]
    clear hr hs
    go_wp2
    go_ret
    exact ⟨_, rfl, by rw [HE.out]; exact mono (HLIT.out w1) hb1.size, hb1.alloc hb1.size _⟩
  | true =>
    cases h2 : setB ys with
    | false =>
      have HE : Hid (andB zs ys true = []) := by unfold Hid andB; rw [h1, h2]; rfl
      go_enter Try.func17, Try.ntmps17
      go_wp2_with fail
      refine (setS_any a ca zs _ (by omega) hr).mono ?_
      rintro e w1 ⟨rfl, hb1⟩
      rw [h1]
      go_wp2_with fail
      refine (setS_any b cb ys _ (by omega) (hs.below hb1)).mono ?_
      rintro e w2 ⟨rfl, hb2⟩
      rw [h2]
      have hb := below_trans hb1 hb2
      clear hr hs hb1 hb2
      go_wp2
      go_ret
      exact ⟨_, rfl, by rw [HE.out]; exact mono (HLIT.out w2) hb.size, hb.alloc hb.size _⟩
    | true =>
      have HE : Hid (andTo zs ys true zs.length = andB zs ys true) := by unfold Hid andB; rw [h1, h2]; rfl
      go_enter Try.func17, Try.ntmps17
      go_wp2_with fail
      refine (setS_any a ca zs _ (by omega) hr).mono ?_
      rintro e w1 ⟨rfl, hb1⟩
      rw [h1]
      go_wp2_with fail
      refine (setS_any b cb ys _ (by omega) (hs.below hb1)).mono ?_
      rintro e w2 ⟨rfl, hb2⟩
      rw [h2]
      have hb := below_trans hb1 hb2
      clear hb1 hb2
      go_wp2_with fail
      refine (l3And_any a b ca cb zs ys true _ (by omega) (by omega) (hr.below hb) (hs.below hb)).mono ?_
      rintro e w3 ⟨v, rfl, ho, hb3⟩
      rw [HE.out] at ho
      clear hr hs
      go_wp2
      go_ret
      exact ⟨_, rfl, mono ho hb.size, below_trans hb hb3⟩
end Go.Proofs.Ytbmdfhognldkjaa
