/- impl.ownedBy and what it asks: the small contracts. -/
import Derived.Test.YtbmdfhognldkjaaNextAny
namespace Go.Proofs.Ytbmdfhognldkjaa
open Go.RowKit Go.Shelf
attribute [local go_sem] Oper.semAt_some

theorem sideBySide_any (a b : Option Addr) (la lb ca cb : Nat) (w : World) :
    Calls Try.prog 50 #[.slice a la ca, .slice b lb cb] w fun e w' => e = .returned (.func (.func 52) #[] #[.pointer (some ⟨w.heap.size, 0, none⟩), .pointer (some ⟨w.heap.size + 1, 0, none⟩)]) ∧ w' = (w.alloc (.cells #[.slice a la ca] 23)).alloc (.cells #[.slice b lb cb] 23) := by
  go_enter Try.func50, Try.ntmps50
  go_wp2
  go_ret
  exact ⟨rfl, rfl⟩
theorem askAnd_any (p q : Bool) (w : World) :
    Calls Try.prog 38 #[.agg #[.bool p, .bool q]] w fun e w' => e = .returned (.bool (p && q)) ∧ Below w.heap.size w w' := by
  cases p <;> cases q
  all_goals
    go_enter Try.func38, Try.ntmps38
    go_wp2
    go_ret
    exact ⟨rfl, (Below.refl _ w).alloc (Nat.le_refl _) _⟩
theorem askLess_any (p q : Bool) (w : World) :
    Calls Try.prog 45 #[.agg #[.bool p, .bool q]] w fun e w' => e = .returned (.bool (p && !q)) ∧ Below w.heap.size w w' := by
  cases p <;> cases q
  all_goals
    go_enter Try.func45, Try.ntmps45
    go_wp2
    go_ret
    exact ⟨rfl, (Below.refl _ w).alloc (Nat.le_refl _) _⟩
theorem askOr_any (p q : Bool) (w : World) :
    Calls Try.prog 43 #[.agg #[.bool p, .bool q]] w fun e w' => e = .returned (.bool (p || q)) ∧ Below w.heap.size w w' := by
  cases p <;> cases q
  all_goals
    go_enter Try.func43, Try.ntmps43
    go_wp2
    go_ret
    exact ⟨rfl, (Below.refl _ w).alloc (Nat.le_refl _) _⟩
end Go.Proofs.Ytbmdfhognldkjaa
