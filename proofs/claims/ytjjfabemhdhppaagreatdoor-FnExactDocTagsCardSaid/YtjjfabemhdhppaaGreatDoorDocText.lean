/- DocText of the program and of the model. -/
import Derived.Test.YtjjfabemhdhppaaGreatDoorCels
import Derived.Test.YtjjfabemhdhppaaGreatDoorClone
namespace Go.Proofs.YtjjfabemhdhppaaGreatDoor
open Go.RowKit

theorem ret_pair {s s' : ByteArray} {b b' : Bool} (h1 : s = s') (h2 : b = b') : Ending.returned (.tuple #[.string s, .bool b]) = .returned (.tuple #[.string s', .bool b']) := by rw [h1, h2]
def isC (n : ByteArray) (c : Cel) : Bool := c.name.toList == n.toList
/-- None of the first k has the name. -/
def noneC (cs : List Cel) (n : ByteArray) (k : Nat) : Bool := allTo (fun j => !(isC n (cat cs j))) k
theorem noneC_snoc {cs : List Cel} {n : ByteArray} {k : Nat} (h : noneC cs n k = true) (h2 : isC n (cat cs k) = false) : noneC cs n (k + 1) = true := allTo_snoc _ k h (by simp [h2])
/-- What a document has in a field. -/
def docT (cs : List Cel) (n : ByteArray) : ByteArray := match cs.find? (isC n) with | some c => c.text | none => ⟨#[]⟩
def docH (cs : List Cel) (n : ByteArray) : Bool := (cs.find? (isC n)).isSome
theorem find_from (cs : List Cel) (n : ByteArray) : ∀ k, k ≤ cs.length → noneC cs n k = true → cs.find? (isC n) = (cs.drop k).find? (isC n)
  | 0, _, _ => by simp
  | k + 1, hk, h => by
    have h' : noneC cs n k = true ∧ (!(isC n (cat cs k))) = true := by simpa [noneC, allTo] using h
    rw [find_from cs n k (by omega) h'.1, List.drop_eq_getElem_cons (by omega), List.find?_cons]
    rw [cat_get cs k (by omega)] at h'
    have h2 : isC n cs[k] = false := by simpa using h'.2
    rw [h2]
theorem find_hit {cs : List Cel} {n : ByteArray} {k : Nat} (hk : k < cs.length) (h : noneC cs n k = true) (h2 : isC n (cat cs k) = true) : cs.find? (isC n) = some (cat cs k) := by
  rw [find_from cs n k (by omega) h, List.drop_eq_getElem_cons hk, List.find?_cons, ← cat_get cs k hk, h2]
theorem find_not {cs : List Cel} {n : ByteArray} (h : noneC cs n cs.length = true) : cs.find? (isC n) = none := by
  rw [find_from cs n cs.length (Nat.le_refl _) h, List.drop_length]
  rfl

set_option maxHeartbeats 1000000 in
theorem docTextS_any (key n : ByteArray) (a : Option Addr) (cap : Nat) (cs : List Cel) (w : World) (hz : cs.length ≤ 1048576) (hr : CelRow w a cs) :
    Calls Tryz.prog 19 #[.agg #[.string key, .slice a cs.length cap], .string n] w fun e w' => e = .returned (.tuple #[.string (docT cs n), .bool (docH cs n)]) ∧ Below w.heap.size w w' := by
  have hb0 : Below w.heap.size w (w.alloc (.cells #[.string key, .slice a cs.length cap] 34)) := (Below.refl _ w).alloc (Nat.le_refl _) _
  have r0 := hr.below hb0
  clear hr
  go_enter Tryz.func19, Tryz.ntmps19
  go_wp2
  go_loop [6] (fun i => ∃ k : Nat, k ≤ cs.length ∧ i = .int .i64 k ∧ noneC cs n k = true) (fun i => cs.length - (intOf i).toNat)
  case atStart => exact ⟨0, Nat.zero_le _, rfl, rfl⟩
  case round =>
    obtain ⟨k, hk, rfl, hn⟩ := hrel
    have HN : Hid (noneC cs n k = true) := hn
    clear hn
    by_cases hlt : k < cs.length
    · obtain ⟨g, off, rfl, hg, hc⟩ := r0 (by omega)
      obtain ⟨c0, c1⟩ := hc k hlt
      cases he : isC n (cat cs k) with
      | true =>
        have HF := find_hit hlt HN.out he
        have HT : Hid (docT cs n = (cat cs k).text ∧ docH cs n = true) := by unfold Hid docT docH; rw [HF]; exact ⟨rfl, rfl⟩
        clear HF
        generalize cat cs k = cl at *
        obtain ⟨nm, tx⟩ := cl
        simp only at c0 c1 HT
        have he' : (nm.toList == n.toList) = true := he
        clear r0 hc he
        go_wp2
        go_ret2
        exact ⟨ret_pair HT.out.1.symm HT.out.2.symm, hb0⟩
      | false =>
        have HS : Hid (noneC cs n (k + 1) = true) := noneC_snoc HN.out he
        generalize cat cs k = cl at *
        obtain ⟨nm, tx⟩ := cl
        simp only at c0 c1
        have he' : (nm.toList == n.toList) = false := he
        clear r0 hc he
        go_wp2
        go_round
        case rel => exact ⟨k + 1, by omega, by go_num, HS.out⟩
        case measure => simp [intOf]; omega
    · have hkl : k = cs.length := by omega
      subst hkl
      have HT : Hid (docT cs n = ⟨#[]⟩ ∧ docH cs n = false) := by unfold Hid docT docH; rw [find_not HN.out]; exact ⟨rfl, rfl⟩
      clear r0
      go_wp2
      go_ret2
      exact ⟨ret_pair HT.out.1.symm HT.out.2.symm, hb0⟩

set_option maxHeartbeats 1000000 in
theorem docTextI_any (key n : ByteArray) (a : Option Addr) (cap : Nat) (cs : List Cel) (w : World) (hz : cs.length ≤ 1048576) (hsm : CelsSmall cs) (hr : CelRow w a cs) :
    Calls Tryz.prog 40 #[.agg #[.string key, .slice a cs.length cap], .string n] w fun e w' => e = .returned (.tuple #[.string (docT cs n), .bool (docH cs n)]) ∧ Below w.heap.size w w' := by
  have hb0 : Below w.heap.size w (w.alloc (.cells #[.string key, .slice a cs.length cap] 34)) := (Below.refl _ w).alloc (Nat.le_refl _) _
  go_enter Tryz.func40, Tryz.ntmps40
  go_wp2
  go_loopw [11] (fun i wr => ∃ k : Nat, k ≤ cs.length ∧ i = .int .i64 k ∧ noneC cs n k = true ∧ Below w.heap.size w wr) (fun i _ => cs.length - (intOf i).toNat)
  case atStart => exact ⟨0, Nat.zero_le _, rfl, rfl, hb0⟩
  case round =>
    clear hb0
    obtain ⟨k, hk, rfl, hn, hbel⟩ := hrel
    have HN : Hid (noneC cs n k = true) := hn
    clear hn
    have hsz := hbel.size
    by_cases hlt : k < cs.length
    · obtain ⟨g, off, rfl, hg, hc⟩ := (hr.below hbel) (by omega)
      obtain ⟨c0, c1⟩ := hc k hlt
      have hs := (hsm k hlt).2
      cases he : isC n (cat cs k) with
      | true =>
        have HF := find_hit hlt HN.out he
        have HT : Hid (docT cs n = (cat cs k).text ∧ docH cs n = true) := by unfold Hid docT docH; rw [HF]; exact ⟨rfl, rfl⟩
        clear HF
        generalize cat cs k = cl at *
        obtain ⟨nm, tx⟩ := cl
        simp only at c0 c1 HT hs
        have he' : (nm.toList == n.toList) = true := he
        clear hr hc he hsm
        go_wp2_with fail
        refine (clone_any tx _ (by omega)).mono ?_
        rintro e w2 ⟨rfl, hb2⟩
        have hb3 : Below w.heap.size w w2 := (hbel.alloc hsz _).trans (hb2.mono (by simp; omega))
        go_wp2
        go_ret2
        exact ⟨ret_pair HT.out.1.symm HT.out.2.symm, hb3⟩
      | false =>
        have HS : Hid (noneC cs n (k + 1) = true) := noneC_snoc HN.out he
        generalize cat cs k = cl at *
        obtain ⟨nm, tx⟩ := cl
        simp only at c0 c1
        have he' : (nm.toList == n.toList) = false := he
        clear hr hc he hsm
        go_wp2
        go_roundw
        case rel => exact ⟨k + 1, by omega, by go_num, HS.out, hbel.alloc hsz _⟩
        case measure => simp [intOf]; omega
    · have hkl : k = cs.length := by omega
      subst hkl
      have HT : Hid (docT cs n = ⟨#[]⟩ ∧ docH cs n = false) := by unfold Hid docT docH; rw [find_not HN.out]; exact ⟨rfl, rfl⟩
      clear hr hsm
      go_wp2
      go_ret2
      exact ⟨ret_pair HT.out.1.symm HT.out.2.symm, hbel⟩
end Go.Proofs.YtjjfabemhdhppaaGreatDoor
