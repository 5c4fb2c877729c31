/- markFieldS lays marks into a row of fields that the call owns; heldFieldS finds them. -/
import Derived.Test.YtdijgdchmfpepaaFldsOk3
import Derived.Test.YtdijgdchmfpepaaMark
import Derived.Deep.RegionWith
namespace Go.Proofs.Ytdijgdchmfpepaa
open Go.RowKit

def mark3F (k : Nat) : List Value := [.string (markT k), .int .i64 ((k + 1 : Nat) : Int), .int .i64 ((k + 2 : Nat) : Int)]
def marksF (k : Nat) : Nat → List Value
  | 0 => []
  | n + 1 => marksF k n ++ mark3F (k + 3 * n)
theorem marksF_len (k n : Nat) : (marksF k n).length = n * 3 := by
  induction n with
  | zero => rfl
  | succ n ih => simp [marksF, mark3F, ih]; omega
theorem marksF_at (k : Nat) : ∀ (n i : Nat), i < n → (marksF k n)[i * 3]? = some (.string (markT (k + 3 * i))) ∧ (marksF k n)[i * 3 + 1]? = some (.int .i64 ((k + 3 * i + 1 : Nat) : Int)) ∧ (marksF k n)[i * 3 + 2]? = some (.int .i64 ((k + 3 * i + 2 : Nat) : Int))
  | 0, i, h => by omega
  | n + 1, i, h => by
    by_cases e : i = n
    · subst e
      simp only [marksF]
      rw [List.getElem?_append_right (by rw [marksF_len]; omega), List.getElem?_append_right (by rw [marksF_len]; omega), List.getElem?_append_right (by rw [marksF_len]; omega), marksF_len]
      simp [mark3F, Nat.add_sub_cancel_left]
    · have ih := marksF_at k n i (by omega)
      simp only [marksF]
      rw [List.getElem?_append_left (by rw [marksF_len]; omega), List.getElem?_append_left (by rw [marksF_len]; omega), List.getElem?_append_left (by rw [marksF_len]; omega)]
      exact ih
def mixF3 (k j : Nat) (xs : List Value) : List Value := marksF k j ++ xs.drop (j * 3)
theorem mixF3_len (k j n : Nat) (xs : List Value) (hx : xs.length = n * 3) (hj : j ≤ n) : (mixF3 k j xs).length = n * 3 := by
  simp [mixF3, marksF_len, hx]; omega
theorem mixF3_step (k j n : Nat) (xs : List Value) (hx : xs.length = n * 3) (hj : j < n) :
    (((mixF3 k j xs).set (j * 3) (.string (markT (k + 3 * j)))).set (j * 3 + 1) (.int .i64 ((k + 3 * j + 1 : Nat) : Int))).set (j * 3 + 2) (.int .i64 ((k + 3 * j + 2 : Nat) : Int)) = mixF3 k (j + 1) xs := by
  have h0 : j * 3 < xs.length := by omega
  have h1 : j * 3 + 1 < xs.length := by omega
  have h2 : j * 3 + 2 < xs.length := by omega
  unfold mixF3
  rw [List.drop_eq_getElem_cons h0, List.drop_eq_getElem_cons h1, List.drop_eq_getElem_cons h2]
  rw [List.set_append_right _ _ (by rw [marksF_len]; omega), List.set_append_right _ _ (by rw [marksF_len]; omega), List.set_append_right _ _ (by rw [marksF_len]; omega), marksF_len]
  rw [show j * 3 - j * 3 = 0 from by omega, show j * 3 + 1 - j * 3 = 1 from by omega, show j * 3 + 2 - j * 3 = 2 from by omega, show (j + 1) * 3 = j * 3 + 2 + 1 from by omega]
  simp only [List.set_cons_zero, List.set_cons_succ, marksF, mark3F, List.append_assoc, List.cons_append, List.nil_append]

set_option maxHeartbeats 1000000 in
theorem markFieldS_any (base : Nat) (v : Value) (n k : Nat) (xs : List Value) (w : World) (hx : xs.length = n * 3) (hn : n ≤ 1099511) (hk : k ≤ 1099511) (hk1 : 1 ≤ k) (hown : w.ownsRow base 46 3 v n xs) :
    Calls Try.prog 10 #[v, .int .i64 k] w fun e w' => e = .returned (.int .i64 ((k + 3 * n : Nat) : Int)) ∧ w'.ownsRow base 46 3 v n (marksF k n) ∧ w.grownBy w' v.ownBlock := by
  rcases hown.2 with ⟨rfl, rfl⟩ | ⟨g, cap, cur, rfl, _, hg, _⟩
  · clear hown
    go_enter Try.func10, Try.ntmps10
    go_wp2
    refine wp_loop_rounds 1 ?_
    rw [rounds_succ]
    go_wp2
    go_ret
    exact ⟨rfl, World.ownsRow_nil _ _ _ _, World.grownBy.refl _ _⟩
  · have HO : Hid (w.ownsRow base 46 3 (.slice (some ⟨g, 0, none⟩) n cap) n xs) := hown
    clear hown
    go_enter Try.func10, Try.ntmps10
    go_wp2
    go_loopw [1, 5] (fun kk i wr => ∃ j : Nat, j ≤ n ∧ kk = .int .i64 ((k + 3 * j : Nat) : Int) ∧ i = .int .i64 j ∧ wr.ownsRow base 46 3 (.slice (some ⟨g, 0, none⟩) n cap) n (mixF3 k j xs) ∧ w.grownBy wr (some g)) (fun _ i _ => n - (intOf i).toNat)
    case atStart => exact ⟨0, Nat.zero_le _, rfl, rfl, HO.out, World.grownBy.refl _ _⟩
    case round =>
      obtain ⟨j, hj, rfl, rfl, hor, hgr⟩ := hrel
      by_cases hlt : j < n
      · go_wp2_with fail
        rw [show ((k : Int) + 3 * (j : Int)) = ((k + 3 * j : Nat) : Int) from by omega]
        refine (markText_any (k + 3 * j) _ (by omega) (by omega)).mono ?_
        rintro e w2 ⟨rfl, hb2⟩
        have ho2 : w2.ownsRow base 46 3 (.slice (some ⟨g, 0, none⟩) n cap) n (mixF3 k j xs) := hor.kept (grown_of_below (r := none) hb2) (.inr (by simp [Value.ownBlock]))
        have hlen : (mixF3 k j xs).length = n * 3 := by have := ho2.1; omega
        obtain ⟨ho3, hg3⟩ := ho2.stored (j * 3) (.string (markT (k + 3 * j)))
        obtain ⟨ho4, hg4⟩ := ho3.stored (j * 3 + 1) (.int .i64 ((k + 3 * j + 1 : Nat) : Int))
        obtain ⟨ho5, hg5⟩ := ho4.stored (j * 3 + 2) (.int .i64 ((k + 3 * j + 2 : Nat) : Int))
        have c2 : w2.cell? ⟨g, j * 3, none⟩ = (mixF3 k j xs)[j * 3]? := ho2.cellAt (j * 3) (by omega)
        rw [List.getElem?_eq_getElem (by omega)] at c2
        have f2 := ho2.frozenAt (j * 3)
        have c3 : w2.cell? ⟨g, j * 3 + 1, none⟩ = (mixF3 k j xs)[j * 3 + 1]? := ho2.cellAt (j * 3 + 1) (by omega)
        rw [List.getElem?_eq_getElem (by omega)] at c3
        have f3 := ho2.frozenAt (j * 3 + 1)
        have c4 : w2.cell? ⟨g, j * 3 + 2, none⟩ = (mixF3 k j xs)[j * 3 + 2]? := ho2.cellAt (j * 3 + 2) (by omega)
        rw [List.getElem?_eq_getElem (by omega)] at c4
        have f4 := ho2.frozenAt (j * 3 + 2)
        rw [mixF3_step k j n xs hx hlt] at ho5
        have hg6 := grown_then (grown_then (grown_then (grown_then hgr (grown_of_below hb2)) hg3) hg4) hg5
        rw [show ((k + 3 * j + 1 : Nat) : Int) = (k : Int) + 3 * (j : Int) + 1 from by omega, show ((k + 3 * j + 2 : Nat) : Int) = (k : Int) + 3 * (j : Int) + 1 + 1 from by omega] at ho5 hg6
        generalize (mixF3 k j xs)[j * 3] = o1 at c2
        generalize (mixF3 k j xs)[j * 3 + 1] = o2 at c3
        generalize (mixF3 k j xs)[j * 3 + 2] = o3 at c4
        have HO5 := ho5
        clear ho2 ho3 ho4 hg3 hg4 hg5 hor hgr hb2 hlen ho5
        go_wp2
        go_roundw
        case rel => exact ⟨j + 1, by omega, by go_num, by go_num, HO5, hg6⟩
        case measure => simp [intOf]; omega
      · have hjn : j = n := by omega
        subst hjn
        have hm : mixF3 k j xs = marksF k j := by unfold mixF3; rw [List.drop_of_length_le (by omega), List.append_nil]
        rw [hm] at hor
        clear hm
        go_wp2
        go_ret
        exact ⟨rfl, hor, hgr⟩

/-- A slice of marked words, as it is read. -/
def MarkF (w : World) (a : Option Addr) (k n : Nat) : Prop := 0 < n → ∃ g, a = some ⟨g, 0, none⟩ ∧ g < w.heap.size ∧ ∀ i, i < n → w.cell? ⟨g, i * 3, none⟩ = some (.string (markT (k + 3 * i))) ∧ w.cell? ⟨g, i * 3 + 1, none⟩ = some (.int .i64 ((k + 3 * i + 1 : Nat) : Int)) ∧ w.cell? ⟨g, i * 3 + 2, none⟩ = some (.int .i64 ((k + 3 * i + 2 : Nat) : Int))
theorem MarkF.below {w w' : World} {a : Option Addr} {k n : Nat} (h : MarkF w a k n) (hb : Below w.heap.size w w') : MarkF w' a k n := fun hp => by
  obtain ⟨g, e, hg, hc⟩ := h hp
  exact ⟨g, e, by have := hb.size; omega, fun i hi => by rw [hb.cell (p := ⟨g, i * 3, none⟩) hg, hb.cell (p := ⟨g, i * 3 + 1, none⟩) hg, hb.cell (p := ⟨g, i * 3 + 2, none⟩) hg]; exact hc i hi⟩
theorem owns_markF {w : World} {base : Nat} {e : TypeId} {a : Option Addr} {cap k n : Nat} (h : w.ownsRow base e 3 (.slice a n cap) n (marksF k n)) : MarkF w a k n := fun hp => by
  rcases h.2 with ⟨h1, h0⟩ | ⟨g, cap', cur, h1, hb, hg, r⟩
  · omega
  · simp only [Value.slice.injEq] at h1
    obtain ⟨rfl, _, rfl⟩ := h1
    refine ⟨g, rfl, lt_of_block hg, fun i hi => ?_⟩
    have := marksF_at k n i hi
    rw [h.cellAt (i * 3) (by omega), h.cellAt (i * 3 + 1) (by omega), h.cellAt (i * 3 + 2) (by omega)]
    exact this

set_option maxHeartbeats 1000000 in
theorem heldFieldS_any (a : Option Addr) (cap n k : Nat) (w : World) (hn : n ≤ 1099511) (hk : k ≤ 1099511) (hk1 : 1 ≤ k) (hr : MarkF w a k n) :
    Calls Try.prog 36 #[.slice a n cap, .int .i64 k] w fun e w' => e = .returned (.int .i64 ((k + 3 * n : Nat) : Int)) ∧ Below w.heap.size w w' := by
  go_enter Try.func36, Try.ntmps36
  go_wp2
  go_loopw [1, 5] (fun kk i wr => ∃ j : Nat, j ≤ n ∧ kk = .int .i64 ((k + 3 * j : Nat) : Int) ∧ i = .int .i64 j ∧ Below w.heap.size w wr) (fun _ i _ => n - (intOf i).toNat)
  case atStart => exact ⟨0, Nat.zero_le _, rfl, rfl, Below.refl _ _⟩
  case round =>
    obtain ⟨j, hj, rfl, rfl, hbel⟩ := hrel
    by_cases hlt : j < n
    · obtain ⟨g, rfl, hg, hc⟩ := hr (by omega)
      obtain ⟨p0, p1, p2⟩ := hc j hlt
      have r0 := (hbel.cell (p := ⟨g, j * 3, none⟩) hg).trans p0
      have r1 := (hbel.cell (p := ⟨g, j * 3 + 1, none⟩) hg).trans p1
      have r2 := (hbel.cell (p := ⟨g, j * 3 + 2, none⟩) hg).trans p2
      rw [show ((k + 3 * j + 1 : Nat) : Int) = (k : Int) + 3 * (j : Int) + 1 from by omega] at r1
      rw [show ((k + 3 * j + 2 : Nat) : Int) = (k : Int) + 3 * (j : Int) + 1 + 1 from by omega] at r2
      have hgr : g < wr.heap.size := by have := hbel.size; omega
      clear hr hc p0 p1 p2
      go_wp2
      go_region_with (go_at_call 22; rw [show ((k : Int) + 3 * (j : Int)) = ((k + 3 * j : Nat) : Int) from by omega]; refine (markText_any (k + 3 * j) _ (by omega) (by omega)).mono ?_; rintro e w2 ⟨rfl, hb2d⟩; have hb2 : Below wr.heap.size wr w2 := ⟨hb2d.os, hb2d.tape, hb2d.output, hb2d.size, hb2d.block⟩; clear hb2d; have s0 : w2.cell? ⟨g, j * 3, none⟩ = some (.string (markT (k + 3 * j))) := (hb2.cell (p := ⟨g, j * 3, none⟩) hgr).trans r0; have s1 := (hb2.cell (p := ⟨g, j * 3 + 1, none⟩) hgr).trans r1; have s2 := (hb2.cell (p := ⟨g, j * 3 + 2, none⟩) hgr).trans r2)
      all_goals
        go_wp2
        go_roundw
        case rel => exact ⟨j + 1, by omega, by go_num, by go_num, hbel.trans (hb2.mono hbel.size)⟩
        case measure => simp [intOf]; omega
    · have hjn : j = n := by omega
      subst hjn
      clear hr
      go_wp2
      go_ret
      exact ⟨rfl, hbel⟩
end Go.Proofs.Ytdijgdchmfpepaa
