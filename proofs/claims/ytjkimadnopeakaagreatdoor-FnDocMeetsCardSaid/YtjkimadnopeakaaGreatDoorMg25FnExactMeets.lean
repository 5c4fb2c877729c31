/- IsWord, CutsJoin, in one text. -/
import Derived.Test.YtjkimadnopeakaaGreatDoorWords
import Derived.Test.YtjkimadnopeakaaGreatDoorMg0FnExactMeets
/- The contract of isWord. -/
namespace Go.Proofs.YtjkimadnopeakaaGreatDoor
open Go.RowKit

def isWordB (s : ByteArray) : Bool := !s.toList.isEmpty && ((wordEnd s 0 : Int) == (s.size : Int))
theorem isWord_any (s : ByteArray) (w : World) (hs : s.size ≤ 1099511627776) :
    Calls Tryz.prog 152 #[.string s] w fun e w' => e = .returned (.bool (isWordB s)) ∧ w = w' := by
  cases he : s.toList.isEmpty
  all_goals
    go_enter Tryz.func152, Tryz.ntmps152
    go_wp2_with (go_at_call 113; refine (wordEnd_any s 0 _ hs (Nat.zero_le _)).mono ?_; rintro e _ ⟨rfl, rfl⟩)
    go_ret
    exact ⟨ret_bool (by simp [isWordB, he]), rfl⟩
end Go.Proofs.YtjkimadnopeakaaGreatDoor

/- Texts that are joined are cut again: plain mathematics. -/
namespace Go.Proofs.YtjkimadnopeakaaGreatDoor
open Go.RowKit
set_option linter.unusedVariables false

theorem byteAt_left (x y : ByteArray) (j : Nat) (h : j < x.size) : byteAt (x ++ y) j = byteAt x j := by
  have hl : j < x.data.toList.length := by simpa using h
  unfold byteAt
  rw [ByteArray.data_append, Array.toList_append, List.getD_eq_getElem?_getD, List.getElem?_append_left hl, ← List.getD_eq_getElem?_getD]
theorem byteAt_right (x y : ByteArray) (j : Nat) : byteAt (x ++ y) (x.size + j) = byteAt y j := by
  unfold byteAt
  have e : x.size = x.data.toList.length := Lib.size_eq x
  rw [ByteArray.data_append, Array.toList_append, List.getD_eq_getElem?_getD, List.getElem?_append_right (by omega), List.getD_eq_getElem?_getD, show x.size + j - x.data.toList.length = j from by omega]
theorem cuts_join (b : UInt8) : ∀ (ps : List ByteArray) (k : Nat) (s : ByteArray), 0 < ps.length → ps.length ≤ k + 1 → (∀ p ∈ ps, ∀ j, j < p.size → byteAt p j ≠ (b.toNat : Int)) → s.data.toList = Lib.join (ps.map (·.data.toList)) [b] → cuts b k s = ps
  | [], k, s, h, _, _, _ => by simp at h
  | [p], k, s, _, _, hn, hs => by
    have e : s = p := ba_ext (by rw [hs]; exact Lib.join_one _ _)
    subst e
    have h := cuts_miss s b k 0 (Nat.zero_le _) (fun j _ hj => hn s (by simp) j hj)
    rw [extract_all] at h
    exact h
  | p :: q :: r, 0, s, _, h, _, _ => by simp at h
  | p :: q :: r, k + 1, s, _, hk, hn, hs => by
    have hj : Lib.join ((p :: q :: r).map (·.data.toList)) [b] = p.data.toList ++ [b] ++ Lib.join ((q :: r).map (·.data.toList)) [b] := join_two _ _ _ _
    let J : ByteArray := ⟨(Lib.join ((q :: r).map (·.data.toList)) [b]).toArray⟩
    have hJ : J.data.toList = Lib.join ((q :: r).map (·.data.toList)) [b] := rfl
    have e : s = p ++ (⟨#[b]⟩ ++ J) := ba_ext (by rw [hs, hj, ByteArray.data_append, Array.toList_append, ByteArray.data_append, Array.toList_append, hJ]; simp)
    have hsz : s.size = p.size + (1 + J.size) := by rw [e, ByteArray.size_append, ByteArray.size_append]; rfl
    have hb0 : byteAt s p.size = (b.toNat : Int) := by
      have := byteAt_right p (⟨#[b]⟩ ++ J) 0
      rw [Nat.add_zero] at this
      rw [e, this, byteAt_left _ _ _ (by show 0 < 1; omega)]
      rfl
    have hit := cuts_hit s b k 0 p.size (Nat.zero_le _) (by omega) hb0 (fun j _ hj => by rw [e, byteAt_left _ _ _ hj]; exact hn p (by simp) j hj)
    rw [extract_all] at hit
    have e1 : s.extract 0 p.size = p := ba_ext (by
      rw [Lib.extract_data, hs, hj, List.drop_zero, Nat.sub_zero, Lib.size_eq p, List.append_assoc, List.take_left])
    have e2 : s.extract (p.size + 1) s.size = J := ba_ext (by
      rw [Lib.extract_to_end, hs, hj, hJ, List.append_assoc, Lib.size_eq, List.drop_append]
      simp)
    have ih := cuts_join b (q :: r) k J (by simp) (by simp at hk ⊢; omega) (fun p' hp' => hn p' (by simp at hp' ⊢; exact .inr hp')) hJ
    rw [hit, e1, e2, ih]
end Go.Proofs.YtjkimadnopeakaaGreatDoor
