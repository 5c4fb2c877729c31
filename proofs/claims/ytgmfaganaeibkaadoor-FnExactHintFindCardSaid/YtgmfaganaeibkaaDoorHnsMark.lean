/- markHintS lays marks into a row of hints that the call owns; heldHintS finds them. -/
import Derived.Test.YtgmfaganaeibkaaDoorHintCopy
import Derived.Test.YtgmfaganaeibkaaDoorMark
import Derived.Deep.RegionWith
namespace Go.Proofs.YtgmfaganaeibkaaDoor
open Go.RowKit
set_option linter.unusedVariables false

def mark2H (k : Nat) : List Value := [.string (markT k), .int .i64 ((k + 1 : Nat) : Int)]
def marksH (k : Nat) : Nat → List Value
  | 0 => []
  | n + 1 => marksH k n ++ mark2H (k + 2 * n)
theorem marksH_len (k n : Nat) : (marksH k n).length = n * 2 := by
  induction n with
  | zero => rfl
  | succ n ih => simp [marksH, mark2H, ih]; omega
theorem marksH_at (k : Nat) : ∀ (n i : Nat), i < n → (marksH k n)[i * 2]? = some (.string (markT (k + 2 * i))) ∧ (marksH k n)[i * 2 + 1]? = some (.int .i64 ((k + 2 * i + 1 : Nat) : Int))
  | 0, i, h => by omega
  | n + 1, i, h => by
    by_cases e : i = n
    · subst e
      simp only [marksH]
      rw [List.getElem?_append_right (by rw [marksH_len]; omega), List.getElem?_append_right (by rw [marksH_len]; omega), marksH_len]
      simp [mark2H, Nat.add_sub_cancel_left]
    · have ih := marksH_at k n i (by omega)
      simp only [marksH]
      rw [List.getElem?_append_left (by rw [marksH_len]; omega), List.getElem?_append_left (by rw [marksH_len]; omega)]
      exact ih
def mixH2 (k j : Nat) (xs : List Value) : List Value := marksH k j ++ xs.drop (j * 2)
theorem mixH2_len (k j n : Nat) (xs : List Value) (hx : xs.length = n * 2) (hj : j ≤ n) : (mixH2 k j xs).length = n * 2 := by
  simp [mixH2, marksH_len, hx]; omega
theorem mixH2_step (k j n : Nat) (xs : List Value) (hx : xs.length = n * 2) (hj : j < n) :
    ((mixH2 k j xs).set (j * 2) (.string (markT (k + 2 * j)))).set (j * 2 + 1) (.int .i64 ((k + 2 * j + 1 : Nat) : Int)) = mixH2 k (j + 1) xs := by
  have h0 : j * 2 < xs.length := by omega
  have h1 : j * 2 + 1 < xs.length := by omega
  unfold mixH2
  rw [List.drop_eq_getElem_cons h0, List.drop_eq_getElem_cons h1]
  rw [List.set_append_right _ _ (by rw [marksH_len]; omega), List.set_append_right _ _ (by rw [marksH_len]; omega), marksH_len]
  rw [show j * 2 - j * 2 = 0 from by omega, show j * 2 + 1 - j * 2 = 1 from by omega, show (j + 1) * 2 = j * 2 + 1 + 1 from by omega]
  simp only [List.set_cons_zero, List.set_cons_succ, marksH, mark2H, List.append_assoc, List.cons_append, List.nil_append]

set_option maxHeartbeats 1000000 in
theorem markHintS_any (base : Nat) (v : Value) (n k : Nat) (xs : List Value) (w : World) (hx : xs.length = n * 2) (hn : n ≤ 1099511) (hk : k ≤ 1099511) (hk1 : 1 ≤ k) (hown : w.ownsRow base 31 2 v n xs) :
    Calls Tryd.prog 23 #[v, .int .i64 k] w fun e w' => e = .returned (.int .i64 ((k + 2 * n : Nat) : Int)) ∧ w'.ownsRow base 31 2 v n (marksH k n) ∧ w.grownBy w' v.ownBlock := by
  rcases hown.2 with ⟨rfl, rfl⟩ | ⟨g, cap, cur, rfl, _, hg, _⟩
  · clear hown
    go_enter Tryd.func23, Tryd.ntmps23
    go_wp2
    refine wp_loop_rounds 1 ?_
    rw [rounds_succ]
    go_wp2
    go_ret
    exact ⟨rfl, World.ownsRow_nil _ _ _ _, World.grownBy.refl _ _⟩
  · have HO : Hid (w.ownsRow base 31 2 (.slice (some ⟨g, 0, none⟩) n cap) n xs) := hown
    clear hown
    go_enter Tryd.func23, Tryd.ntmps23
    go_wp2
    go_loopw [1, 5] (fun kk i wr => ∃ j : Nat, j ≤ n ∧ kk = .int .i64 ((k + 2 * j : Nat) : Int) ∧ i = .int .i64 j ∧ wr.ownsRow base 31 2 (.slice (some ⟨g, 0, none⟩) n cap) n (mixH2 k j xs) ∧ w.grownBy wr (some g)) (fun _ i _ => n - (intOf i).toNat)
    case atStart => exact ⟨0, Nat.zero_le _, rfl, rfl, HO.out, World.grownBy.refl _ _⟩
    case round =>
      obtain ⟨j, hj, rfl, rfl, hor, hgr⟩ := hrel
      by_cases hlt : j < n
      · go_wp2_with fail
        rw [show ((k : Int) + 2 * (j : Int)) = ((k + 2 * j : Nat) : Int) from by omega]
        refine (markText_any (k + 2 * j) _ (by omega) (by omega)).mono ?_
        rintro e w2 ⟨rfl, hb2⟩
        have ho2 : w2.ownsRow base 31 2 (.slice (some ⟨g, 0, none⟩) n cap) n (mixH2 k j xs) := hor.kept (grown_of_below (r := none) hb2) (.inr (by simp [Value.ownBlock]))
        have hlen : (mixH2 k j xs).length = n * 2 := by have := ho2.1; omega
        obtain ⟨ho3, hg3⟩ := ho2.stored (j * 2) (.string (markT (k + 2 * j)))
        obtain ⟨ho4, hg4⟩ := ho3.stored (j * 2 + 1) (.int .i64 ((k + 2 * j + 1 : Nat) : Int))
        have c2 : w2.cell? ⟨g, j * 2, none⟩ = (mixH2 k j xs)[j * 2]? := ho2.cellAt (j * 2) (by omega)
        rw [List.getElem?_eq_getElem (by omega)] at c2
        have f2 := ho2.frozenAt (j * 2)
        have c3 : w2.cell? ⟨g, j * 2 + 1, none⟩ = (mixH2 k j xs)[j * 2 + 1]? := ho2.cellAt (j * 2 + 1) (by omega)
        rw [List.getElem?_eq_getElem (by omega)] at c3
        have f3 := ho2.frozenAt (j * 2 + 1)
        rw [mixH2_step k j n xs hx hlt] at ho4
        have hg6 := grown_then (grown_then (grown_then hgr (grown_of_below hb2)) hg3) hg4
        rw [show ((k + 2 * j + 1 : Nat) : Int) = (k : Int) + 2 * (j : Int) + 1 from by omega] at ho4 hg6
        generalize (mixH2 k j xs)[j * 2] = o1 at c2
        generalize (mixH2 k j xs)[j * 2 + 1] = o2 at c3
        have HO5 := ho4
        clear ho2 ho3 ho4 hg3 hg4 hor hgr hb2 hlen
        go_wp2
        go_roundw
        case rel => exact ⟨j + 1, by omega, by go_num, by go_num, HO5, hg6⟩
        case measure => simp [intOf]; omega
      · have hjn : j = n := by omega
        subst hjn
        have hm : mixH2 k j xs = marksH k j := by unfold mixH2; rw [List.drop_of_length_le (by omega), List.append_nil]
        rw [hm] at hor
        clear hm
        go_wp2
        go_ret
        exact ⟨rfl, hor, hgr⟩

/-- A slice of marked words, as it is read. -/
def MarkH (w : World) (a : Option Addr) (k n : Nat) : Prop := 0 < n → ∃ g, a = some ⟨g, 0, none⟩ ∧ g < w.heap.size ∧ ∀ i, i < n → w.cell? ⟨g, i * 2, none⟩ = some (.string (markT (k + 2 * i))) ∧ w.cell? ⟨g, i * 2 + 1, none⟩ = some (.int .i64 ((k + 2 * i + 1 : Nat) : Int))
theorem MarkH.below {w w' : World} {a : Option Addr} {k n : Nat} (h : MarkH w a k n) (hb : Below w.heap.size w w') : MarkH w' a k n := fun hp => by
  obtain ⟨g, e, hg, hc⟩ := h hp
  exact ⟨g, e, by have := hb.size; omega, fun i hi => by rw [hb.cell (p := ⟨g, i * 2, none⟩) hg, hb.cell (p := ⟨g, i * 2 + 1, none⟩) hg]; exact hc i hi⟩
theorem owns_markH {w : World} {base : Nat} {e : TypeId} {a : Option Addr} {cap k n : Nat} (h : w.ownsRow base e 2 (.slice a n cap) n (marksH k n)) : MarkH w a k n := fun hp => by
  rcases h.2 with ⟨h1, h0⟩ | ⟨g, cap', cur, h1, hb, hg, r⟩
  · omega
  · simp only [Value.slice.injEq] at h1
    obtain ⟨rfl, _, rfl⟩ := h1
    refine ⟨g, rfl, lt_of_block hg, fun i hi => ?_⟩
    have := marksH_at k n i hi
    rw [h.cellAt (i * 2) (by omega), h.cellAt (i * 2 + 1) (by omega)]
    exact this

set_option maxHeartbeats 1000000 in
theorem heldHintS_any (a : Option Addr) (cap n k : Nat) (w : World) (hn : n ≤ 1099511) (hk : k ≤ 1099511) (hk1 : 1 ≤ k) (hr : MarkH w a k n) :
    Calls Tryd.prog 24 #[.slice a n cap, .int .i64 k] w fun e w' => e = .returned (.int .i64 ((k + 2 * n : Nat) : Int)) ∧ Below w.heap.size w w' := by
  go_enter Tryd.func24, Tryd.ntmps24
  go_wp2
  go_loopw [1, 5] (fun kk i wr => ∃ j : Nat, j ≤ n ∧ kk = .int .i64 ((k + 2 * j : Nat) : Int) ∧ i = .int .i64 j ∧ Below w.heap.size w wr) (fun _ i _ => n - (intOf i).toNat)
  case atStart => exact ⟨0, Nat.zero_le _, rfl, rfl, Below.refl _ _⟩
  case round =>
    obtain ⟨j, hj, rfl, rfl, hbel⟩ := hrel
    by_cases hlt : j < n
    · obtain ⟨g, rfl, hg, hc⟩ := hr (by omega)
      obtain ⟨p0, p1⟩ := hc j hlt
      have r0 := (hbel.cell (p := ⟨g, j * 2, none⟩) hg).trans p0
      have r1 := (hbel.cell (p := ⟨g, j * 2 + 1, none⟩) hg).trans p1
      rw [show ((k + 2 * j + 1 : Nat) : Int) = (k : Int) + 2 * (j : Int) + 1 from by omega] at r1
      have hgr : g < wr.heap.size := by have := hbel.size; omega
      clear hr hc p0 p1
      go_wp2
      go_region_with (go_at_call 49; rw [show ((k : Int) + 2 * (j : Int)) = ((k + 2 * j : Nat) : Int) from by omega]; refine (markText_any (k + 2 * j) _ (by omega) (by omega)).mono ?_; rintro e w2 ⟨rfl, hb2d⟩; have hb2 : Below wr.heap.size wr w2 := ⟨hb2d.os, hb2d.tape, hb2d.output, hb2d.size, hb2d.block⟩; clear hb2d; have s0 : w2.cell? ⟨g, j * 2, none⟩ = some (.string (markT (k + 2 * j))) := (hb2.cell (p := ⟨g, j * 2, none⟩) hgr).trans r0; have s1 := (hb2.cell (p := ⟨g, j * 2 + 1, none⟩) hgr).trans r1)
      all_goals
        go_wp2
        go_roundw
        case rel => exact ⟨j + 1, by omega, by go_num, by go_num, hbel.trans (hb2.mono hbel.size)⟩
        case measure => simp [intOf]; omega
    · have hjn : j = n := by omega
      subst hjn
      clear hr
      go_wp2
      go_ret
      exact ⟨rfl, hbel⟩
end Go.Proofs.YtgmfaganaeibkaaDoor
