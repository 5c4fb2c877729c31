/- markStringS lays marks into a row of strings that the call owns; heldStringS finds them. -/
import Derived.Test.YtjjfabemhdhppaaGreatDoorCommon
import Derived.Test.YtjjfabemhdhppaaGreatDoorMark
import Derived.Deep.RegionWith
namespace Go.Proofs.YtjjfabemhdhppaaGreatDoor
open Go.RowKit

def marksB (k n : Nat) : List ByteArray := (List.range n).map fun i => markT (k + i)
theorem marksB_len (k n : Nat) : (marksB k n).length = n := by simp [marksB]
theorem marksB_at (k n i : Nat) (h : i < n) : (marksB k n).getD i ⟨#[]⟩ = markT (k + i) := by
  rw [List.getD_eq_getElem?_getD, List.getElem?_eq_getElem (by rw [marksB_len]; exact h)]
  simp [marksB]
def mixed (k i : Nat) (xs : List Value) : List Value := (marksB k i).map Value.string ++ xs.drop i
theorem mixed_step (k i : Nat) (xs : List Value) (h : i < xs.length) : (mixed k i xs).set i (.string (markT (k + i))) = mixed k (i + 1) xs := by
  unfold mixed
  rw [List.set_append_right _ _ (by simp [marksB_len])]
  have hm : marksB k (i + 1) = marksB k i ++ [markT (k + i)] := by simp [marksB, List.range_succ]
  rw [hm, List.drop_eq_getElem_cons h]
  simp only [List.length_map, marksB_len, Nat.sub_self, List.set_cons_zero, List.map_append, List.map_cons, List.map_nil, List.append_assoc, List.cons_append, List.nil_append]
set_option maxHeartbeats 400000 in
theorem markStringS_any (base : Nat) (v : Value) (n k : Nat) (xs : List Value) (w : World) (hx : xs.length = n) (hn : n ≤ 1099511627) (hk : k ≤ 1099511627) (hk1 : 1 ≤ k) (hown : w.ownsRow base 9 1 v n xs) :
    Calls Tryz.prog 15 #[v, .int .i64 k] w fun e w' => e = .returned (.int .i64 ((k + n : Nat) : Int)) ∧ w'.ownsRow base 9 1 v n ((marksB k n).map Value.string) ∧ w.grownBy w' v.ownBlock := by
  rcases hown.2 with ⟨rfl, rfl⟩ | ⟨g, cap, cur, rfl, _, hg, _⟩
  · clear hown
    go_enter Tryz.func15, Tryz.ntmps15
    go_wp2
    refine wp_loop_rounds 1 ?_
    rw [rounds_succ]
    go_wp2
    go_ret
    exact ⟨rfl, World.ownsRow_nil _ _ _ _, World.grownBy.refl _ _⟩
  · have HO : Hid (w.ownsRow base 9 1 (.slice (some ⟨g, 0, none⟩) n cap) n xs) := hown
    clear hown
    go_enter Tryz.func15, Tryz.ntmps15
    go_wp2
    go_loopw [1, 5] (fun kk i wr => ∃ j : Nat, j ≤ n ∧ kk = .int .i64 ((k + j : Nat) : Int) ∧ i = .int .i64 j ∧ wr.ownsRow base 9 1 (.slice (some ⟨g, 0, none⟩) n cap) n (mixed k j xs) ∧ w.grownBy wr (some g)) (fun _ i _ => n - (intOf i).toNat)
    case atStart => exact ⟨0, Nat.zero_le _, rfl, rfl, HO.out, World.grownBy.refl _ _⟩
    case round =>
      obtain ⟨j, hj, rfl, rfl, hor, hgr⟩ := hrel
      by_cases hlt : j < n
      · go_wp2_with fail
        refine (markText_any (k + j) _ (by omega) (by omega)).mono ?_
        rintro e w2 ⟨rfl, hb2⟩
        have ho2 : w2.ownsRow base 9 1 (.slice (some ⟨g, 0, none⟩) n cap) n (mixed k j xs) := hor.kept (grown_of_below (r := none) hb2) (.inr (by simp [Value.ownBlock]))
        have hlen : (mixed k j xs).length = n := by have := ho2.1; omega
        have hc2 : w2.cell? ⟨g, j, none⟩ = (mixed k j xs)[j]? := ho2.cellAt j (by omega)
        rw [List.getElem?_eq_getElem (by omega)] at hc2
        have hf2 := ho2.frozenAt j
        have hs := (ho2.stored j (.string (markT (k + j)))).1
        rw [mixed_step k j xs (by omega)] at hs
        have hg3 : w.grownBy (w2.setCell ⟨g, j, none⟩ (.string (markT (k + j)))) (some g) := grown_then (grown_then hgr (grown_of_below hb2)) (grown_cell w2 g j _)
        generalize (mixed k j xs)[j] = old at hc2
        clear hor ho2 hlen hgr hb2
        go_wp2
        go_roundw
        case rel => exact ⟨j + 1, by omega, by go_num, by go_num, hs, hg3⟩
        case measure => simp [intOf]; omega
      · have hjn : j = n := by omega
        subst hjn
        have hm : mixed k j xs = (marksB k j).map Value.string := by unfold mixed; rw [List.drop_of_length_le (by omega), List.append_nil]
        rw [hm] at hor
        clear hm
        go_wp2
        go_ret
        exact ⟨rfl, hor, hgr⟩

set_option maxHeartbeats 1000000 in
theorem heldStringS_any (a : Option Addr) (cap n k : Nat) (w : World) (hn : n ≤ 1099511627) (hk : k ≤ 1099511627) (hk1 : 1 ≤ k) (hr : StrRow w a (marksB k n)) :
    Calls Tryz.prog 16 #[.slice a n cap, .int .i64 k] w fun e w' => e = .returned (.int .i64 ((k + n : Nat) : Int)) ∧ Below w.heap.size w w' := by
  go_enter Tryz.func16, Tryz.ntmps16
  go_wp2
  go_loopw [1, 5] (fun kk i wr => ∃ j : Nat, j ≤ n ∧ kk = .int .i64 ((k + j : Nat) : Int) ∧ i = .int .i64 j ∧ Below w.heap.size w wr) (fun _ i _ => n - (intOf i).toNat)
  case atStart => exact ⟨0, Nat.zero_le _, rfl, rfl, Below.refl _ _⟩
  case round =>
    obtain ⟨j, hj, rfl, rfl, hbel⟩ := hrel
    by_cases hlt : j < n
    · obtain ⟨g, rfl, hg, hc⟩ := hr (by rw [marksB_len]; omega)
      have c1 : wr.cell? ⟨g, j, none⟩ = some (.string (markT (k + j))) := by rw [hbel.cell (p := ⟨g, j, none⟩) hg, hc j (by rw [marksB_len]; exact hlt), marksB_at k n j hlt]
      have hgr : g < wr.heap.size := by have := hbel.size; omega
      clear hr hc
      go_wp2
      go_region_with (go_at_call 28; refine (markText_any (k + j) _ (by omega) (by omega)).mono ?_; rintro e w2 ⟨rfl, hb2d⟩; have hb2 : Below wr.heap.size wr w2 := ⟨hb2d.os, hb2d.tape, hb2d.output, hb2d.size, hb2d.block⟩; clear hb2d; have c2 : w2.cell? ⟨g, j, none⟩ = some (.string (markT (k + j))) := (hb2.cell (p := ⟨g, j, none⟩) hgr).trans c1)
      all_goals
        go_wp2
        go_roundw
        case rel => exact ⟨j + 1, by omega, by go_num, by go_num, hbel.trans (hb2.mono hbel.size)⟩
        case measure => simp [intOf]; omega
    · have hjn : j = n := by omega
      subst hjn
      clear hr
      go_wp2
      go_ret
      exact ⟨rfl, hbel⟩
end Go.Proofs.YtjjfabemhdhppaaGreatDoor
