/- oneByOne hands out a list, number by number: its state lies in a box. -/
import Derived.Test.YtbmdfhognldkjaaSetHas
import Derived.RangeFuncNested
import Derived.RangeFuncLeaves
namespace Go.Proofs.Ytbmdfhognldkjaa
open Go.RowKit

theorem oneByOne_any (a : Option Addr) (len cap : Nat) (w : World) :
    Calls Try.prog 53 #[.slice a len cap] w fun e w' => e = .returned (.func (.func 54) #[] #[.pointer (some ⟨w.heap.size + 1, 0, none⟩), .pointer (some ⟨w.heap.size, 0, none⟩)]) ∧ Boxed w' w.heap.size 23 (.slice a len cap) ∧ Boxed w' (w.heap.size + 1) 3 (.int .i64 0) ∧ w'.heap.size = w.heap.size + 2 ∧ Below w.heap.size w w' := by
  go_enter Try.func53, Try.ntmps53
  go_wp2
  go_ret
  have b1 := Boxed.new w 23 (.slice a len cap)
  have b2 := Boxed.new (w.alloc (.cells #[.slice a len cap] 23)) 3 (.int .i64 0)
  rw [World.size_alloc] at b2
  refine ⟨rfl, ?_, ?_, ?_, ?_⟩
  · exact b1.alloc _
  · exact b2
  · simp
  · exact ((Below.refl _ w).alloc (Nat.le_refl _) _).alloc (by simp) _

theorem next_some (Ba Bl : Nat) (a : Option Addr) (cap k : Nat) (zs : List Int) (w : World) (hz : zs.length ≤ 1099511627776) (hr : IntRow w a zs) (hk : k < zs.length)
    (hA : Boxed w Ba 3 (.int .i64 k)) (hL : Boxed w Bl 23 (.slice a zs.length cap)) (hne : Bl ≠ Ba) (hg : ∀ g off, a = some ⟨g, off, none⟩ → g ≠ Ba) :
    Calls Try.prog 54 #[.pointer (some ⟨Ba, 0, none⟩), .pointer (some ⟨Bl, 0, none⟩)] w fun e w' => e = .returned (.tuple #[.int .i64 (nth zs k), .bool true]) ∧ w' = w.setCell ⟨Ba, 0, none⟩ (.int .i64 ((k + 1 : Nat) : Int)) := by
  obtain ⟨g, off, rfl, hgl, hc⟩ := hr (by omega)
  have c1 := hc k hk
  have hga := hg g off rfl
  have cA := hA.cell
  have cL := hL.cell
  have fA := hA.frozen
  have cL2 : (w.setCell ⟨Ba, 0, none⟩ (.int .i64 ((k : Int) + 1))).cell? ⟨Bl, 0, none⟩ = some (.slice (some ⟨g, off, none⟩) zs.length cap) := by
    rw [← cL]; exact World.cell?_of_block (Below.heap_setCell _ _ _ _ (by exact hne))
  have cG2 : (w.setCell ⟨Ba, 0, none⟩ (.int .i64 ((k : Int) + 1))).cell? ⟨g, off + k, none⟩ = some (.int .i64 (nth zs k)) := by
    rw [← c1]; exact World.cell?_of_block (Below.heap_setCell _ _ _ _ (by exact hga))
  have cA2 : (w.setCell ⟨Ba, 0, none⟩ (.int .i64 ((k : Int) + 1))).cell? ⟨Ba, 0, none⟩ = some (.int .i64 ((k : Int) + 1)) := (hA.set _).cell
  have hkI : ((k : Int) == (zs.length : Int)) = false := by simp; omega
  generalize nth zs k = z at *
  clear hr hc hg hA hL
  go_enter Try.func54, Try.ntmps54
  go_wp2
  go_ret2
  exact ⟨rfl, by push_cast; rfl⟩

theorem next_none (Ba Bl : Nat) (a : Option Addr) (cap : Nat) (zs : List Int) (w : World)
    (hA : Boxed w Ba 3 (.int .i64 zs.length)) (hL : Boxed w Bl 23 (.slice a zs.length cap)) :
    Calls Try.prog 54 #[.pointer (some ⟨Ba, 0, none⟩), .pointer (some ⟨Bl, 0, none⟩)] w fun e w' => e = .returned (.tuple #[.int .i64 0, .bool false]) ∧ w' = w := by
  have cA := hA.cell
  have cL := hL.cell
  clear hA hL
  go_enter Try.func54, Try.ntmps54
  go_wp2
  go_ret2
  exact ⟨rfl, rfl⟩
end Go.Proofs.Ytbmdfhognldkjaa
