/- impl.standIn, spec.l6Run: words side by side among others. -/
import Derived.Test.YtjkimadnopeakaaGreatDoorMtPlain
import Derived.Test.YtjkimadnopeakaaGreatDoorMg0FnExactMeets
namespace Go.Proofs.YtjkimadnopeakaaGreatDoor
open Go.RowKit
set_option linter.unusedVariables false

theorem owns_strRowC {w : World} {base : Nat} {e : TypeId} {v : Value} {ss : List ByteArray} (h : w.ownsRow base e 1 v ss.length (ss.map Value.string)) :
    ∃ a cap, v = .slice a ss.length cap ∧ ss.length ≤ cap ∧ StrRow w a ss := by
  obtain ⟨a, c, rfl, hr⟩ := owns_strRow h
  refine ⟨a, c, rfl, ?_, hr⟩
  rcases h.2 with ⟨e1, h0⟩ | ⟨g, cap, cur, e1, hb, hg, hc, r⟩
  · rw [h0]; exact Nat.zero_le _
  · cases e1; exact hc
theorem drop_getD (ts : List ByteArray) (i j : Nat) : (ts.drop i).getD j ByteArray.empty = ts.getD (i + j) ⟨#[]⟩ := by
  rw [List.getD_eq_getElem?_getD, List.getD_eq_getElem?_getD, List.getElem?_drop]
  rfl
theorem runB_no {ts ss : List ByteArray} {k : Nat} (hk : ts.length < k + ss.length) (hn : 0 < ss.length) (h : anyTo (runAt ts ss) k = false) : runB ts ss = false := by
  unfold runB
  cases e : anyTo (runAt ts ss) (ts.length + 1 - ss.length) with
  | false => rfl
  | true =>
    obtain ⟨j, hj, hr⟩ := (anyTo_iff _ _).1 e
    rw [anyTo_yes (show j < k by omega) hr] at h
    cases h
theorem runB_yes {ts ss : List ByteArray} {k : Nat} (hk : k + ss.length ≤ ts.length) (h : runAt ts ss k = true) : runB ts ss = true := anyTo_yes (by omega) h
set_option maxRecDepth 100000 in
set_option maxHeartbeats 1000000 in
theorem standIn_any (p : Option Addr) (c : Nat) (ts : List ByteArray) (p2 : Option Addr) (c2 : Nat) (ss : List ByteArray) (w : World) (hz : ts.length ≤ 1048576) (hc : ts.length ≤ c) (hn : 0 < ss.length) (hz2 : ss.length ≤ 1048576) (hr : StrRow w p ts) (hr2 : StrRow w p2 ss) :
    Calls Tryz.prog 81 #[.slice p ts.length c, .slice p2 ss.length c2] w fun e w' => e = .returned (.bool (runB ts ss)) ∧ Below w.heap.size w w' := by
  have HR : Hid (∀ wx, Below w.heap.size w wx → StrRow wx p ts) := fun wx h => hr.below h
  have HR2 : Hid (∀ wx, Below w.heap.size w wx → StrRow wx p2 ss) := fun wx h => hr2.below h
  have HNO : Hid (∀ k, ts.length < k + ss.length → anyTo (runAt ts ss) k = false → runB ts ss = false) := fun k h1 h2 => runB_no h1 hn h2
  have HYS : Hid (∀ k, k + ss.length ≤ ts.length → runAt ts ss k = true → runB ts ss = true) := fun k h1 h2 => runB_yes h1 h2
  clear hr hr2
  go_enter Tryz.func81, Tryz.ntmps81
  go_wp2
  go_loopw [5] (fun i wr => ∃ k : Nat, k ≤ ts.length + 1 ∧ i = .int .i64 k ∧ anyTo (runAt ts ss) k = false ∧ Below w.heap.size w wr) (fun i _ => ts.length + 1 - (intOf i).toNat)
  case atStart => exact ⟨0, Nat.zero_le _, rfl, rfl, Below.refl _ _⟩
  case round =>
    obtain ⟨k, hk, rfl, hno, hbel⟩ := hrel
    have HA : Hid (anyTo (runAt ts ss) k = false) := hno
    clear hno
    by_cases hlt : k + ss.length ≤ ts.length
    · have hki : (k : Int) + (ss.length : Int) ≤ (ts.length : Int) := by omega
      obtain ⟨g, rfl, hg, hcs⟩ := (HR.out _ hbel) (by omega)
      obtain ⟨g2, rfl, hg2, hcs2⟩ := (HR2.out _ hbel) (by omega)
      have HEQ : Hid (∀ cc, Calls Tryz.prog 120 #[.slice (some ⟨g, k, none⟩) ss.length cc, .slice (some ⟨g2, 0, none⟩) ss.length c2] wr fun e w' => e = .returned (.bool (runAt ts ss k)) ∧ ∃ q, w' = wr.drewN q) := fun cc => by
        have := Tryz.slices_Equal_string g k ss.length cc g2 0 ss.length c2 (ts.drop k) ss wr (by rw [List.length_drop]; omega) (Nat.le_refl _) (by omega) (by omega) (fun j hj => by
          rw [List.length_drop] at hj
          rw [drop_getD]
          exact hcs (k + j) (by omega)) (fun j hj => by
          rw [Nat.zero_add]
          exact hcs2 j hj)
        rw [List.take_of_length_le (Nat.le_refl ss.length)] at this
        exact this
      have HY : Hid (runAt ts ss k = true → runB ts ss = true) := fun h => HYS.out k hlt h
      have HN : Hid (runAt ts ss k = false → anyTo (runAt ts ss) (k + 1) = false) := fun h => anyTo_snoc HA.out h
      clear hcs hcs2 HNO HYS HA
      generalize runAt ts ss k = b at *
      go_wp2_with fail
      refine (HEQ.out _).mono ?_
      rintro e w2 ⟨rfl, q, rfl⟩
      have hw2 := below_drewN hbel q
      clear HEQ
      cases b with
      | true =>
        have HB : Hid (runB ts ss = true) := HY.out rfl
        clear HY HN
        go_wp2
        go_ret
        exact ⟨ret_bool HB.out.symm, hw2⟩
      | false =>
        have HB : Hid (anyTo (runAt ts ss) (k + 1) = false) := HN.out rfl
        clear HY HN
        go_wp2
        go_roundw
        case rel => exact ⟨k + 1, by omega, by go_num, HB.out, hw2⟩
        case measure => simp [intOf]; omega
    · have hki : ¬ ((k : Int) + (ss.length : Int) ≤ (ts.length : Int)) := by omega
      have HB : Hid (runB ts ss = false) := HNO.out k (by omega) HA.out
      clear HNO HYS HA
      go_wp2
      go_ret
      exact ⟨ret_bool HB.out.symm, hbel⟩
end Go.Proofs.YtjkimadnopeakaaGreatDoor
