/- markCellS lays marks into a row of cells that the call owns; heldCellS finds them; markDoc, heldDoc, eqDoc. -/
import Derived.Test.YtjjfabemhdhppaaGreatDoorCels
import Derived.Test.YtjjfabemhdhppaaGreatDoorMark
import Derived.Deep.RegionWith
namespace Go.Proofs.YtjjfabemhdhppaaGreatDoor
open Go.RowKit

def mark2 (k : Nat) : List Value := [.string (markT k), .string (markT (k + 1))]
def marksC (k : Nat) : Nat → List Value
  | 0 => []
  | n + 1 => marksC k n ++ mark2 (k + 2 * n)
theorem marksC_len (k n : Nat) : (marksC k n).length = n * 2 := by
  induction n with
  | zero => rfl
  | succ n ih => simp [marksC, mark2, ih]; omega
theorem marksC_at (k : Nat) : ∀ (n i : Nat), i < n → (marksC k n)[i * 2]? = some (.string (markT (k + 2 * i))) ∧ (marksC k n)[i * 2 + 1]? = some (.string (markT (k + 2 * i + 1)))
  | 0, i, h => by omega
  | n + 1, i, h => by
    by_cases e : i = n
    · subst e
      simp only [marksC]
      rw [List.getElem?_append_right (by rw [marksC_len]; omega), List.getElem?_append_right (by rw [marksC_len]; omega), marksC_len]
      simp [mark2, Nat.add_sub_cancel_left]
    · have ih := marksC_at k n i (by omega)
      simp only [marksC]
      rw [List.getElem?_append_left (by rw [marksC_len]; omega), List.getElem?_append_left (by rw [marksC_len]; omega)]
      exact ih
def mixC (k j : Nat) (xs : List Value) : List Value := marksC k j ++ xs.drop (j * 2)
theorem mixC_len (k j n : Nat) (xs : List Value) (hx : xs.length = n * 2) (hj : j ≤ n) : (mixC k j xs).length = n * 2 := by
  simp [mixC, marksC_len, hx]; omega
theorem mixC_step (k j n : Nat) (xs : List Value) (hx : xs.length = n * 2) (hj : j < n) :
    ((mixC k j xs).set (j * 2) (.string (markT (k + 2 * j)))).set (j * 2 + 1) (.string (markT (k + 2 * j + 1))) = mixC k (j + 1) xs := by
  have h0 : j * 2 < xs.length := by omega
  have h1 : j * 2 + 1 < xs.length := by omega
  unfold mixC
  rw [List.drop_eq_getElem_cons h0, List.drop_eq_getElem_cons h1]
  rw [List.set_append_right _ _ (by rw [marksC_len]; omega), List.set_append_right _ _ (by rw [marksC_len]; omega), marksC_len]
  rw [show j * 2 - j * 2 = 0 from by omega, show j * 2 + 1 - j * 2 = 1 from by omega, show (j + 1) * 2 = j * 2 + 1 + 1 from by omega]
  simp only [List.set_cons_zero, List.set_cons_succ, marksC, mark2, List.append_assoc, List.cons_append, List.nil_append]

set_option maxHeartbeats 1000000 in
theorem markCellS_any (base : Nat) (v : Value) (n k : Nat) (xs : List Value) (w : World) (hx : xs.length = n * 2) (hn : n ≤ 1099511) (hk : k ≤ 9999999) (hk1 : 1 ≤ k) (hown : w.ownsRow base 66 2 v n xs) :
    Calls Tryz.prog 29 #[v, .int .i64 k] w fun e w' => e = .returned (.int .i64 ((k + 2 * n : Nat) : Int)) ∧ w'.ownsRow base 66 2 v n (marksC k n) ∧ w.grownBy w' v.ownBlock := by
  rcases hown.2 with ⟨rfl, rfl⟩ | ⟨g, cap, cur, rfl, _, hg, _⟩
  · clear hown
    go_enter Tryz.func29, Tryz.ntmps29
    go_wp2
    refine wp_loop_rounds 1 ?_
    rw [rounds_succ]
    go_wp2
    go_ret
    exact ⟨rfl, World.ownsRow_nil _ _ _ _, World.grownBy.refl _ _⟩
  · have HO : Hid (w.ownsRow base 66 2 (.slice (some ⟨g, 0, none⟩) n cap) n xs) := hown
    clear hown
    go_enter Tryz.func29, Tryz.ntmps29
    go_wp2
    go_loopw [1, 5] (fun kk i wr => ∃ j : Nat, j ≤ n ∧ kk = .int .i64 ((k + 2 * j : Nat) : Int) ∧ i = .int .i64 j ∧ wr.ownsRow base 66 2 (.slice (some ⟨g, 0, none⟩) n cap) n (mixC k j xs) ∧ w.grownBy wr (some g)) (fun _ i _ => n - (intOf i).toNat)
    case atStart => exact ⟨0, Nat.zero_le _, rfl, rfl, HO.out, World.grownBy.refl _ _⟩
    case round =>
      obtain ⟨j, hj, rfl, rfl, hor, hgr⟩ := hrel
      clear HO
      by_cases hlt : j < n
      · have HLEN : Hid ((mixC k j xs).length = n * 2) := by unfold Hid; have := hor.1; omega
        have HOR : Hid (wr.ownsRow base 66 2 (.slice (some ⟨g, 0, none⟩) n cap) n (mixC k j xs)) := hor
        have HGR : Hid (w.grownBy wr (some g)) := hgr
        clear hor hgr
        go_wp2_with fail
        rw [show ((k : Int) + 2 * (j : Int)) = ((k + 2 * j : Nat) : Int) from by omega]
        refine (markText_any (k + 2 * j) _ (by omega) (by omega)).mono ?_
        rintro e w1 ⟨rfl, hb1⟩
        have ho1 := HOR.out.kept (grown_of_below (r := none) hb1) (.inr (by simp [Value.ownBlock]))
        have hg1 := grown_then HGR.out (grown_of_below hb1)
        obtain ⟨ho2, hg2⟩ := ho1.stored (j * 2) (.string (markT (k + 2 * j)))
        have c2 : w1.cell? ⟨g, j * 2, none⟩ = (mixC k j xs)[j * 2]? := ho1.cellAt (j * 2) (by omega)
        rw [List.getElem?_eq_getElem (by have := HLEN.out; omega)] at c2
        have f2 := ho1.frozenAt (j * 2)
        generalize (mixC k j xs)[j * 2]'_ = o1 at c2
        have HO2 : Hid (World.ownsRow _ _ _ _ _ _ _) := ho2
        have HG2 : Hid (World.grownBy _ _ _) := grown_then hg1 hg2
        clear ho1 hg1 ho2 hg2 HOR HGR hb1
        go_wp2_with fail
        rw [show ((k : Int) + 2 * (j : Int) + 1) = ((k + 2 * j + 1 : Nat) : Int) from by omega]
        refine (markText_any (k + 2 * j + 1) _ (by omega) (by omega)).mono ?_
        rintro e w2 ⟨rfl, hb2⟩
        have ho3 := HO2.out.kept (grown_of_below (r := none) hb2) (.inr (by simp [Value.ownBlock]))
        have hg3 := grown_then HG2.out (grown_of_below hb2)
        obtain ⟨ho4, hg4⟩ := ho3.stored (j * 2 + 1) (.string (markT (k + 2 * j + 1)))
        have c3 : w2.cell? ⟨g, j * 2 + 1, none⟩ = _ := ho3.cellAt (j * 2 + 1) (by omega)
        rw [List.getElem?_eq_getElem (by rw [List.length_set]; have := HLEN.out; omega)] at c3
        have f3 := ho3.frozenAt (j * 2 + 1)
        rw [mixC_step k j n xs hx hlt] at ho4
        have hg5 := grown_then hg3 hg4
        generalize (((mixC k j xs).set (j * 2) _)[j * 2 + 1]'_) = o2 at c3
        clear HO2 HG2 ho3 hg3 hg4 hb2 c2 f2
        go_wp2
        go_roundw
        case rel => exact ⟨j + 1, by omega, by go_num, by go_num, ho4, hg5⟩
        case measure => simp [intOf]; omega
      · have hjn : j = n := by omega
        subst hjn
        have hm : mixC k j xs = marksC k j := by unfold mixC; rw [List.drop_of_length_le (by omega), List.append_nil]
        rw [hm] at hor
        clear hm
        go_wp2
        go_ret
        exact ⟨rfl, hor, hgr⟩

/-- A slice of marked cells, as it is read. -/
def MarkC (w : World) (a : Option Addr) (k n : Nat) : Prop := 0 < n → ∃ g, a = some ⟨g, 0, none⟩ ∧ g < w.heap.size ∧ ∀ i, i < n → w.cell? ⟨g, i * 2, none⟩ = some (.string (markT (k + 2 * i))) ∧ w.cell? ⟨g, i * 2 + 1, none⟩ = some (.string (markT (k + 2 * i + 1)))
theorem MarkC.below {w w' : World} {a : Option Addr} {k n : Nat} (h : MarkC w a k n) (hb : Below w.heap.size w w') : MarkC w' a k n := fun hp => by
  obtain ⟨g, e, hg, hc⟩ := h hp
  exact ⟨g, e, by have := hb.size; omega, fun i hi => by rw [hb.cell (p := ⟨g, i * 2, none⟩) hg, hb.cell (p := ⟨g, i * 2 + 1, none⟩) hg]; exact hc i hi⟩
theorem owns_markC {w : World} {base : Nat} {e : TypeId} {a : Option Addr} {cap k n : Nat} (h : w.ownsRow base e 2 (.slice a n cap) n (marksC k n)) : MarkC w a k n := fun hp => by
  rcases h.2 with ⟨h1, h0⟩ | ⟨g, cap', cur, h1, hb, hg, r⟩
  · omega
  · simp only [Value.slice.injEq] at h1
    obtain ⟨rfl, _, rfl⟩ := h1
    refine ⟨g, rfl, lt_of_block hg, fun i hi => ?_⟩
    have := marksC_at k n i hi
    rw [h.cellAt (i * 2) (by omega), h.cellAt (i * 2 + 1) (by omega)]
    exact this

theorem markDoc_any (base : Nat) (key : ByteArray) (v : Value) (n k : Nat) (xs : List Value) (w : World) (hx : xs.length = n * 2) (hn : n ≤ 1048576) (hk : k ≤ 9999999) (hk1 : 1 ≤ k) (hown : w.ownsRow base 66 2 v n xs) :
    Calls Tryz.prog 14 #[.agg #[.string key, v], .int .i64 k] w fun e w' => e = .returned (.int .i64 ((k + 2 * n : Nat) : Int)) ∧ w'.ownsRow base 66 2 v n (marksC k n) ∧ w.grownBy w' v.ownBlock := by
  obtain ⟨p, c, rfl⟩ : ∃ p c, v = .slice p n c := by
    rcases hown.2 with ⟨rfl, rfl⟩ | ⟨g, cap, cur, rfl, _, hg, _⟩
    · exact ⟨none, 0, rfl⟩
    · exact ⟨_, cap, rfl⟩
  have ho1 := hown.alloc (.cells #[.string key, .slice p n c] 34)
  have hg1 := World.grownBy_alloc w (.cells #[.string key, .slice p n c] 34) (Value.slice p n c).ownBlock
  clear hown
  go_enter Tryz.func14, Tryz.ntmps14
  go_wp2_with fail
  refine (markCellS_any base (.slice p n c) n k xs _ hx (by omega) (by omega) hk1 ho1).mono ?_
  rintro e w2 ⟨rfl, ho2, hg2⟩
  have hg3 := grown_then hg1 hg2
  clear ho1 hg1 hg2
  go_wp2
  go_ret
  exact ⟨rfl, ho2, hg3⟩
end Go.Proofs.YtjjfabemhdhppaaGreatDoor
