/- Plain mathematics of words: where a word ends, all words of a text. -/
import Derived.Test.YtbifagdcnpnpjaaGreatMg5FnExactIndexOk
namespace Go.Proofs.YtbifagdcnpnpjaaGreat
open Go.RowKit

def partB (n : Int) : Bool := smallB n || greatB n || figureB n

/-- e is where the word that begins at i ends. -/
structure IsEnd (s : ByteArray) (i e : Nat) : Prop where
  le : i ≤ e
  size : e ≤ s.size
  all : ∀ x, i ≤ x → x < e → partB (byteAt s x) = true
  stop : e < s.size → partB (byteAt s e) = false

theorem IsEnd.uniq {s : ByteArray} {i a b : Nat} (ha : IsEnd s i a) (hb : IsEnd s i b) : a = b := by
  rcases Nat.lt_trichotomy a b with h | h | h
  · have := hb.all a ha.le h
    rw [ha.stop (by have := hb.size; omega)] at this
    cases this
  · exact h
  · have := ha.all b hb.le h
    rw [hb.stop (by have := ha.size; omega)] at this
    cases this

def wend (s : ByteArray) : Nat → Nat → Nat
  | 0, k => k
  | f + 1, k => if k < s.size ∧ partB (byteAt s k) = true then wend s f (k + 1) else k
def wordEnd (s : ByteArray) (k : Nat) : Nat := wend s (s.size - k) k

theorem wend_end (s : ByteArray) : ∀ f k, s.size - k = f → k ≤ s.size → IsEnd s k (wend s f k)
  | 0, k, hf, hk => ⟨Nat.le_refl _, hk, fun x h1 h2 => by simp [wend] at h2; omega, fun h => by simp [wend] at h; omega⟩
  | f + 1, k, hf, hk => by
    unfold wend
    by_cases h : k < s.size ∧ partB (byteAt s k) = true
    · rw [if_pos h]
      have r := wend_end s f (k + 1) (by omega) (by omega)
      refine ⟨by have := r.le; omega, r.size, fun x h1 h2 => ?_, r.stop⟩
      by_cases e : x = k
      · subst e; exact h.2
      · exact r.all x (by omega) h2
    · rw [if_neg h]
      refine ⟨Nat.le_refl _, hk, fun x h1 h2 => by omega, fun hlt => ?_⟩
      cases hp : partB (byteAt s k) with
      | false => rfl
      | true => exact absurd ⟨hlt, hp⟩ h
theorem wordEnd_end (s : ByteArray) (k : Nat) (hk : k ≤ s.size) : IsEnd s k (wordEnd s k) := wend_end s _ k rfl hk
theorem wordEnd_part (s : ByteArray) (k x : Nat) (hk : k ≤ s.size) (h1 : k ≤ x) (h2 : x < wordEnd s k) : x < s.size ∧ partB (byteAt s x) = true := by
  have r := wordEnd_end s k hk
  exact ⟨by have := r.size; omega, r.all x h1 h2⟩
/-- Behind a word none begins. -/
theorem wordEnd_again (s : ByteArray) (k : Nat) (hk : k ≤ s.size) : wordEnd s (wordEnd s k) = wordEnd s k := by
  have r := wordEnd_end s k hk
  exact (wordEnd_end s _ r.size).uniq ⟨Nat.le_refl _, r.size, fun x h1 h2 => by omega, r.stop⟩

def wordsF (s : ByteArray) : Nat → Nat → List (Nat × Nat)
  | 0, _ => []
  | f + 1, i => if i < s.size then (if wordEnd s i = i then wordsF s f (i + 1) else (i, wordEnd s i) :: wordsF s f (wordEnd s i)) else []
theorem wordsF_more (s : ByteArray) : ∀ f g i, s.size - i ≤ f → s.size - i ≤ g → wordsF s f i = wordsF s g i
  | 0, 0, i, _, _ => rfl
  | 0, g + 1, i, h1, _ => by simp [wordsF]; intro h; omega
  | f + 1, 0, i, _, h2 => by simp [wordsF]; intro h; omega
  | f + 1, g + 1, i, h1, h2 => by
    simp only [wordsF]
    by_cases hlt : i < s.size
    · rw [if_pos hlt, if_pos hlt]
      have r := wordEnd_end s i (by omega)
      by_cases he : wordEnd s i = i
      · rw [if_pos he, if_pos he, wordsF_more s f g (i + 1) (by omega) (by omega)]
      · rw [if_neg he, if_neg he, wordsF_more s f g _ (by have := r.le; omega) (by have := r.le; omega)]
    · rw [if_neg hlt, if_neg hlt]
/-- The words from a place on. -/
def wordsOn (s : ByteArray) (i : Nat) : List (Nat × Nat) := wordsF s (s.size - i) i
theorem wordsOn_past (s : ByteArray) (i : Nat) (h : ¬ i < s.size) : wordsOn s i = [] := by
  unfold wordsOn
  rw [show s.size - i = 0 from by omega]
  rfl
theorem wordsOn_none (s : ByteArray) (i : Nat) (h : i < s.size) (he : wordEnd s i = i) : wordsOn s i = wordsOn s (i + 1) := by
  unfold wordsOn
  rw [show s.size - i = (s.size - (i + 1)) + 1 from by omega]
  simp only [wordsF]
  rw [if_pos h, if_pos he]
theorem wordsOn_word (s : ByteArray) (i : Nat) (h : i < s.size) (he : ¬ wordEnd s i = i) : wordsOn s i = (i, wordEnd s i) :: wordsOn s (wordEnd s i) := by
  unfold wordsOn
  have r := wordEnd_end s i (by omega)
  rw [show s.size - i = (s.size - (i + 1)) + 1 from by omega]
  simp only [wordsF]
  rw [if_pos h, if_neg he, wordsF_more s _ (s.size - wordEnd s i) _ (by have := r.le; omega) (Nat.le_refl _)]
theorem wordsOn_skip (s : ByteArray) (i : Nat) (h : i ≤ s.size) (he : wordEnd s i = i) : wordsOn s i = wordsOn s (i + 1) := by
  by_cases hlt : i < s.size
  · exact wordsOn_none s i hlt he
  · rw [wordsOn_past s i hlt, wordsOn_past s (i + 1) (by omega)]
/-- Each word is what ends where it ends. -/
theorem wordsOn_mem (s : ByteArray) : ∀ n i, s.size - i ≤ n → ∀ x ∈ wordsOn s i, i ≤ x.1 ∧ x.1 < x.2 ∧ x.2 ≤ s.size ∧ x.2 = wordEnd s x.1
  | 0, i, hn, x, hx => by rw [wordsOn_past s i (by omega)] at hx; cases hx
  | n + 1, i, hn, x, hx => by
    by_cases hlt : i < s.size
    · have r := wordEnd_end s i (by omega)
      by_cases he : wordEnd s i = i
      · rw [wordsOn_none s i hlt he] at hx
        have := wordsOn_mem s n (i + 1) (by omega) x hx
        exact ⟨by omega, this.2⟩
      · rw [wordsOn_word s i hlt he] at hx
        rcases List.mem_cons.1 hx with rfl | hx
        · exact ⟨Nat.le_refl _, by have := r.le; show i < wordEnd s i; omega, r.size, rfl⟩
        · have hle := r.le
          have := wordsOn_mem s n (wordEnd s i) (by omega) x hx
          exact ⟨by omega, this.2⟩
    · rw [wordsOn_past s i hlt] at hx; cases hx
theorem wordsOn_len (s : ByteArray) : ∀ n i, s.size - i ≤ n → (wordsOn s i).length ≤ n
  | 0, i, hn => by rw [wordsOn_past s i (by omega)]; exact Nat.le_refl _
  | n + 1, i, hn => by
    by_cases hlt : i < s.size
    · have r := wordEnd_end s i (by omega)
      by_cases he : wordEnd s i = i
      · rw [wordsOn_none s i hlt he]
        have := wordsOn_len s n (i + 1) (by omega)
        omega
      · rw [wordsOn_word s i hlt he]
        have hle := r.le
        have := wordsOn_len s n (wordEnd s i) (by omega)
        simp; omega
    · rw [wordsOn_past s i hlt]; simp
end Go.Proofs.YtbifagdcnpnpjaaGreat
