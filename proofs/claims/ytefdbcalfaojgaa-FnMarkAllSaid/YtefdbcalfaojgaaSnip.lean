/- impl.manySought, impl.Snip: the part of a text with the most words that are looked for. -/
import Derived.Test.YtefdbcalfaojgaaSought
import Derived.Test.YtefdbcalfaojgaaTermsS
import Derived.Test.YtefdbcalfaojgaaWordsMore
import Derived.Test.YtefdbcalfaojgaaTextOk
import Derived.Deep.QuietTactic
import Derived.BigQuiet
import Derived.Deep.RegionWith
namespace Go.Proofs.Ytefdbcalfaojgaa
open Go.RowKit

/-- How many of the first k are so. -/
def cntF (f : Nat → Bool) : Nat → Nat
  | 0 => 0
  | k + 1 => cntF f k + (if f k then 1 else 0)
theorem cntF_le (f : Nat → Bool) (k : Nat) : cntF f k ≤ k := by
  induction k with
  | zero => exact Nat.le_refl _
  | succ k ih => simp only [cntF]; split <;> omega
theorem cntF_yes (f : Nat → Bool) (k : Nat) (h : f k = true) : cntF f (k + 1) = cntF f k + 1 := by simp [cntF, h]
theorem cntF_no (f : Nat → Bool) (k : Nat) (h : f k = false) : cntF f (k + 1) = cntF f k := by simp [cntF, h]
/-- The first of the greatest, and how great it is. -/
def bm (c : Nat → Nat) : Nat → Nat × Int
  | 0 => (0, -1)
  | k + 1 => if (bm c k).2 < (c k : Int) then (k, (c k : Int)) else bm c k
theorem bm_yes (c : Nat → Nat) (k : Nat) (h : (bm c k).2 < (c k : Int)) : bm c (k + 1) = (k, (c k : Int)) := by rw [bm, if_pos h]
theorem bm_no (c : Nat → Nat) (k : Nat) (h : ¬ (bm c k).2 < (c k : Int)) : bm c (k + 1) = bm c k := by rw [bm, if_neg h]
theorem bm_lt (c : Nat → Nat) (k : Nat) (h : 1 ≤ k) : (bm c k).1 < k := by
  induction k with
  | zero => omega
  | succ k ih =>
    by_cases h1 : (bm c k).2 < (c k : Int)
    · rw [bm_yes c k h1]; show k < k + 1; omega
    · rw [bm_no c k h1]
      by_cases e : k = 0
      · subst e; simp [bm] at h1; omega
      · have := ih (by omega); omega
/-- A word of a text, whether it is looked for. -/
def sAt (s : ByteArray) (ts : List ByteArray) (j : Nat) : Bool := soughtB ts (s.extract (wat (wordsOn s 0) j).1 (wat (wordsOn s 0) j).2)
def cAt (s : ByteArray) (ts : List ByteArray) (m i : Nat) : Nat := cntF (fun k => sAt s ts (i + k)) m
def bestAt (s : ByteArray) (ts : List ByteArray) (m : Nat) : Nat := (bm (cAt s ts m) ((wordsOn s 0).length - m + 1)).1
def snipA (s : ByteArray) (ts : List ByteArray) (m : Nat) : ByteArray := s.extract (wat (wordsOn s 0) (bestAt s ts m)).1 (wat (wordsOn s 0) (bestAt s ts m + m - 1)).2
def snipB (s : ByteArray) (ts : List ByteArray) (many : Int) : ByteArray :=
  if textB s = true ∧ 1 ≤ many ∧ 0 < (wordsOn s 0).length then snipA s ts (min many.toNat (wordsOn s 0).length) else ⟨#[]⟩

/-- The cells of all words of a text, in a block. -/
def WCells (w : World) (g : Nat) (s : ByteArray) (l : List (Nat × Nat)) : Prop := ∀ i, i < l.length → w.cell? ⟨g, i * 3, none⟩ = some (.string (s.extract (wat l i).1 (wat l i).2)) ∧ w.cell? ⟨g, i * 3 + 1, none⟩ = some (.int .i64 (wat l i).1) ∧ w.cell? ⟨g, i * 3 + 2, none⟩ = some (.int .i64 (wat l i).2)
theorem WCells.below {w w' : World} {g : Nat} {s : ByteArray} {l : List (Nat × Nat)} (h : WCells w g s l) (hg : g < w.heap.size) (hb : Below w.heap.size w w') : WCells w' g s l := fun i hi => by
  rw [hb.cell (p := ⟨g, i * 3, none⟩) hg, hb.cell (p := ⟨g, i * 3 + 1, none⟩) hg, hb.cell (p := ⟨g, i * 3 + 2, none⟩) hg]; exact h i hi
theorem owns_words {w : World} {base : Nat} {e : TypeId} {v : Value} {s : ByteArray} {l : List (Nat × Nat)} (h : w.ownsRow base e 3 v l.length (wordCells s l)) (hl : 0 < l.length) :
    ∃ g cap, v = .slice (some ⟨g, 0, none⟩) l.length cap ∧ l.length ≤ cap ∧ g < w.heap.size ∧ WCells w g s l := by
  rcases h.2 with ⟨rfl, h0⟩ | ⟨g, cap, cur, rfl, hb, hg, hc, _⟩
  · omega
  · refine ⟨g, cap, rfl, hc, lt_of_block hg, fun i hi => ?_⟩
    have := wordCells_at s l i hi
    rw [h.cellAt (i * 3) (by omega), h.cellAt (i * 3 + 1) (by omega), h.cellAt (i * 3 + 2) (by omega), wat_get _ _ hi]
    exact this
theorem owns_nowords {w : World} {base : Nat} {e : TypeId} {v : Value} {s : ByteArray} {l : List (Nat × Nat)} (h : w.ownsRow base e 3 v l.length (wordCells s l)) :
    ∃ a cap, v = .slice a l.length cap := by
  rcases h.2 with ⟨rfl, h0⟩ | ⟨g, cap, cur, rfl, hb, hg, hc, _⟩
  · exact ⟨none, 0, by rw [h0]⟩
  · exact ⟨_, cap, rfl⟩

theorem snipB_no1 {s : ByteArray} {ts : List ByteArray} {many : Int} (h : textB s = false) : snipB s ts many = ⟨#[]⟩ := by unfold snipB; rw [if_neg (fun e => by rw [h] at e; cases e.1)]
theorem snipB_no2 {s : ByteArray} {ts : List ByteArray} {many : Int} (h : many < 1) : snipB s ts many = ⟨#[]⟩ := by unfold snipB; rw [if_neg (fun e => by omega)]
theorem snipB_no3 {s : ByteArray} {ts : List ByteArray} {many : Int} (h : (wordsOn s 0).length = 0) : snipB s ts many = ⟨#[]⟩ := by unfold snipB; rw [if_neg (fun e => by omega)]
theorem snipB_yes {s : ByteArray} {ts : List ByteArray} {many : Int} (h1 : textB s = true) (h2 : 1 ≤ many) (h3 : 0 < (wordsOn s 0).length) : snipB s ts many = snipA s ts (min many.toNat (wordsOn s 0).length) := by unfold snipB; rw [if_pos ⟨h1, h2, h3⟩]

end Go.Proofs.Ytefdbcalfaojgaa
