/- markIntS lays marks into a row of ints that the call owns; heldIntS finds them. -/
import Derived.Test.YthaobhghbopgkaaDoorCommon
import Derived.Test.YthaobhghbopgkaaDoorBase
namespace Go.Proofs.YthaobhghbopgkaaDoor
open Go.RowKit

def marksI (k n : Nat) : List Int := (List.range n).map fun i => ((k + i : Nat) : Int)
theorem marksI_len (k n : Nat) : (marksI k n).length = n := by simp [marksI]
theorem marksI_at (k n i : Nat) (h : i < n) : nth (marksI k n) i = ((k + i : Nat) : Int) := by
  unfold nth
  rw [List.getD_eq_getElem?_getD, List.getElem?_eq_getElem (by rw [marksI_len]; exact h)]
  simp [marksI]
def mixI (k i : Nat) (xs : List Value) : List Value := (marksI k i).map (Value.int .i64) ++ xs.drop i
theorem mixI_step (k i : Nat) (xs : List Value) (h : i < xs.length) : (mixI k i xs).set i (.int .i64 ((k + i : Nat) : Int)) = mixI k (i + 1) xs := by
  unfold mixI
  rw [List.set_append_right _ _ (by simp [marksI_len])]
  have hm : marksI k (i + 1) = marksI k i ++ [((k + i : Nat) : Int)] := by simp [marksI, List.range_succ]
  rw [hm, List.drop_eq_getElem_cons h]
  simp only [List.length_map, marksI_len, Nat.sub_self, List.set_cons_zero, List.map_append, List.map_cons, List.map_nil, List.append_assoc, List.cons_append, List.nil_append]
set_option maxHeartbeats 400000 in
theorem markIntS_any (base : Nat) (v : Value) (n k : Nat) (xs : List Value) (w : World) (hx : xs.length = n) (hn : n ≤ 1099511627) (hk : k ≤ 1099511627) (hown : w.ownsRow base 3 1 v n xs) :
    Calls Tryd.prog 16 #[v, .int .i64 k] w fun e w' => e = .returned (.int .i64 ((k + n : Nat) : Int)) ∧ w'.ownsRow base 3 1 v n ((marksI k n).map (Value.int .i64)) ∧ w.grownBy w' v.ownBlock := by
  rcases hown.2 with ⟨rfl, rfl⟩ | ⟨g, cap, cur, rfl, _, hg, _⟩
  · clear hown
    go_enter Tryd.func16, Tryd.ntmps16
    go_wp2
    refine wp_loop_rounds 1 ?_
    rw [rounds_succ]
    go_wp2
    go_ret
    exact ⟨rfl, World.ownsRow_nil _ _ _ _, World.grownBy.refl _ _⟩
  · have HO : Hid (w.ownsRow base 3 1 (.slice (some ⟨g, 0, none⟩) n cap) n xs) := hown
    clear hown
    go_enter Tryd.func16, Tryd.ntmps16
    go_wp2
    go_loopw [1, 5] (fun kk i wr => ∃ j : Nat, j ≤ n ∧ kk = .int .i64 ((k + j : Nat) : Int) ∧ i = .int .i64 j ∧ wr.ownsRow base 3 1 (.slice (some ⟨g, 0, none⟩) n cap) n (mixI k j xs) ∧ w.grownBy wr (some g)) (fun _ i _ => n - (intOf i).toNat)
    case atStart => exact ⟨0, Nat.zero_le _, rfl, rfl, HO.out, World.grownBy.refl _ _⟩
    case round =>
      obtain ⟨j, hj, rfl, rfl, hor, hgr⟩ := hrel
      by_cases hlt : j < n
      · have hlen : (mixI k j xs).length = n := by have := hor.1; omega
        have hc2 : wr.cell? ⟨g, j, none⟩ = (mixI k j xs)[j]? := hor.cellAt j (by omega)
        rw [List.getElem?_eq_getElem (by omega)] at hc2
        have hf2 := hor.frozenAt j
        have hs := (hor.stored j (.int .i64 ((k + j : Nat) : Int))).1
        rw [mixI_step k j xs (by omega)] at hs
        have hg3 : w.grownBy (wr.setCell ⟨g, j, none⟩ (.int .i64 ((k + j : Nat) : Int))) (some g) := grown_then hgr (grown_cell wr g j _)
        generalize (mixI k j xs)[j] = old at hc2
        clear hor hlen hgr
        go_wp2
        go_roundw
        case rel => exact ⟨j + 1, by omega, by go_num, by go_num, by first | exact hs | (push_cast at hs; exact hs), by first | exact hg3 | (push_cast at hg3; exact hg3)⟩
        case measure => simp [intOf]; omega
      · have hjn : j = n := by omega
        subst hjn
        have hm : mixI k j xs = (marksI k j).map (Value.int .i64) := by unfold mixI; rw [List.drop_of_length_le (by omega), List.append_nil]
        rw [hm] at hor
        clear hm
        go_wp2
        go_ret
        exact ⟨rfl, hor, hgr⟩

set_option maxHeartbeats 1000000 in
theorem heldIntS_any (a : Option Addr) (cap n k : Nat) (w : World) (hn : n ≤ 1099511627) (hk : k ≤ 1099511627) (hr : IntRow w a (marksI k n)) :
    Calls Tryd.prog 17 #[.slice a n cap, .int .i64 k] w fun e w' => e = .returned (.int .i64 ((k + n : Nat) : Int)) ∧ Below w.heap.size w w' := by
  go_enter Tryd.func17, Tryd.ntmps17
  go_wp2
  go_loopw [1, 5] (fun kk i wr => ∃ j : Nat, j ≤ n ∧ kk = .int .i64 ((k + j : Nat) : Int) ∧ i = .int .i64 j ∧ Below w.heap.size w wr) (fun _ i _ => n - (intOf i).toNat)
  case atStart => exact ⟨0, Nat.zero_le _, rfl, rfl, Below.refl _ _⟩
  case round =>
    obtain ⟨j, hj, rfl, rfl, hbel⟩ := hrel
    by_cases hlt : j < n
    · obtain ⟨g, off, rfl, hg, hc⟩ := hr (by rw [marksI_len]; omega)
      have c1 : wr.cell? ⟨g, off + j, none⟩ = some (.int .i64 ((k + j : Nat) : Int)) := by rw [hbel.cell (p := ⟨g, off + j, none⟩) hg, hc j (by rw [marksI_len]; exact hlt), marksI_at k n j hlt]
      clear hr hc
      go_wp2
      go_roundw
      case rel => exact ⟨j + 1, by omega, by go_num, by go_num, hbel⟩
      case measure => simp [intOf]; omega
    · have hjn : j = n := by omega
      subst hjn
      clear hr
      go_wp2
      go_ret
      exact ⟨rfl, hbel⟩
end Go.Proofs.YthaobhghbopgkaaDoor
