/- Pieces of a text that is cut: how they are told, how long they are. -/
import Derived.Test.YtfakoalkbcnejaaDoorCutPlain
namespace Go.Proofs.YtfakoalkbcnejaaDoor
open Go.RowKit
set_option linter.unusedVariables false

def pat (ps : List ByteArray) (i : Nat) : ByteArray := ps.getD i ⟨#[]⟩
theorem pat_get (ps : List ByteArray) (i : Nat) (h : i < ps.length) : pat ps i = ps[i] := by unfold pat; rw [List.getD_eq_getElem?_getD, List.getElem?_eq_getElem h]; rfl
theorem cuts_size (b : UInt8) : ∀ (k : Nat) (s : ByteArray), ∀ p ∈ cuts b k s, p.size ≤ s.size
  | 0, s, p, h => by rw [cuts_zero] at h; simp at h; rw [h]; exact Nat.le_refl _
  | k + 1, s, p, h => by
    unfold cuts at h
    rcases Lib.indexB_cases s ⟨#[b]⟩ with hix | ⟨i, hix, hroom⟩
    · rw [Lib.splitB_miss _ _ _ _ hix] at h
      simp at h
      rw [h]
      exact Nat.le_refl _
    · rw [Lib.splitB_hit _ _ _ _ _ hix, List.mem_cons] at h
      rcases h with rfl | h
      · rw [ByteArray.size_extract]; omega
      · have := cuts_size b k _ p h
        rw [ByteArray.size_extract] at this
        omega
theorem pat_size (b : UInt8) (k : Nat) (s : ByteArray) (i : Nat) (h : i < (cuts b k s).length) : (pat (cuts b k s) i).size ≤ s.size := by
  rw [pat_get _ _ h]
  exact cuts_size b k s _ (List.getElem_mem h)
/-- Is a text cut in two? -/
def two (b : UInt8) (p : ByteArray) : Bool := decide (2 ≤ (cuts b 1 p).length)
theorem two_no {b : UInt8} {p : ByteArray} (h : two b p = false) : cuts b 1 p = [p] ∧ (⟨(Lib.cut p.data.toList [b]).1.toArray⟩ : ByteArray) = p ∧ (⟨(Lib.cut p.data.toList [b]).2.1.toArray⟩ : ByteArray) = ⟨#[]⟩ ∧ (Lib.cut p.data.toList [b]).2.2 = false := by
  unfold two cuts at h
  rcases Lib.indexB_cases p ⟨#[b]⟩ with hix | ⟨i, hix, hroom⟩
  · exact ⟨Lib.splitB_miss _ _ _ _ hix, Lib.cutB_miss p ⟨#[b]⟩ hix⟩
  · rw [Lib.splitB_hit _ _ _ _ _ hix] at h
    simp [Lib.splitB] at h
theorem two_yes {b : UInt8} {p : ByteArray} (h : two b p = true) : cuts b 1 p = [pat (cuts b 1 p) 0, pat (cuts b 1 p) 1] ∧ (⟨(Lib.cut p.data.toList [b]).1.toArray⟩ : ByteArray) = pat (cuts b 1 p) 0 ∧ (⟨(Lib.cut p.data.toList [b]).2.1.toArray⟩ : ByteArray) = pat (cuts b 1 p) 1 ∧ (Lib.cut p.data.toList [b]).2.2 = true := by
  unfold two at h
  rcases Lib.indexB_cases p ⟨#[b]⟩ with hix | ⟨i, hix, hroom⟩
  · unfold cuts at h
    rw [Lib.splitB_miss _ _ _ _ hix] at h
    simp at h
  · have e : cuts b 1 p = [p.extract 0 (i + 0), p.extract (i + (⟨#[b]⟩ : ByteArray).size) p.size] := by
      unfold cuts
      rw [Lib.splitB_hit _ _ _ _ _ hix]
      rfl
    rw [e]
    exact ⟨rfl, Lib.cutB_hit p ⟨#[b]⟩ i hix⟩
theorem two_join {b : UInt8} {p : ByteArray} (h : two b p = true) : p = pat (cuts b 1 p) 0 ++ ⟨#[b]⟩ ++ pat (cuts b 1 p) 1 := by
  have hj := join_cuts b 1 p
  rw [(two_yes h).1] at hj
  apply ba_ext
  rw [← hj, List.map_cons, List.map_cons, List.map_nil, join_two, Lib.join_one, ByteArray.data_append, Array.toList_append, ByteArray.data_append, Array.toList_append]
theorem two_len {b : UInt8} {p : ByteArray} (h : two b p = true) : (cuts b 1 p).length = 2 := by rw [(two_yes h).1]; rfl
theorem two_len1 {b : UInt8} {p : ByteArray} (h : two b p = false) : (cuts b 1 p).length = 1 := by rw [(two_no h).1]; rfl
end Go.Proofs.YtfakoalkbcnejaaDoor
