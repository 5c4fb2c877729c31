/- What is read of a text of gaps: plain mathematics. -/
import Derived.Test.YthaobhghbopgkaaDoorFigs
import Derived.Test.YthaobhghbopgkaaDoorGaps
namespace Go.Proofs.YthaobhghbopgkaaDoor
open Go.RowKit
set_option linter.unusedVariables false

def pat (ps : List ByteArray) (i : Nat) : ByteArray := ps.getD i ⟨#[]⟩
theorem pat_get (ps : List ByteArray) (i : Nat) (h : i < ps.length) : pat ps i = ps[i] := by unfold pat; rw [List.getD_eq_getElem?_getD, List.getElem?_eq_getElem h]; rfl
def sumTo (ps : List ByteArray) : Nat → Nat
  | 0 => 0
  | k + 1 => sumTo ps k + numB (pat ps k)
def sums (ps : List ByteArray) (k : Nat) : List Int := (List.range k).map fun i => ((sumTo ps (i + 1) : Nat) : Int)
theorem sums_len (ps : List ByteArray) (k : Nat) : (sums ps k).length = k := by simp [sums]
theorem sums_succ (ps : List ByteArray) (k : Nat) : sums ps (k + 1) = sums ps k ++ [((sumTo ps (k + 1) : Nat) : Int)] := by simp [sums, List.range_succ]
theorem sums_nth (ps : List ByteArray) (k i : Nat) (h : i < k) : nth (sums ps k) i = ((sumTo ps (i + 1) : Nat) : Int) := by
  unfold nth
  rw [List.getD_eq_getElem?_getD, List.getElem?_eq_getElem (by rw [sums_len]; exact h)]
  simp [sums]
def figsOk (ps : List ByteArray) (k : Nat) : Bool := allTo (fun i => figB (pat ps i)) k
def partsOk (ps : List ByteArray) : Bool := figsOk ps ps.length && setB (sums ps ps.length)
def parts (s : ByteArray) : List ByteArray := cuts 32 (manyB 32 s) s
def readB (s : ByteArray) : Bool := decide (s.size = 0) || partsOk (parts s)
def readL (s : ByteArray) : List Int := if s.size = 0 then [] else if partsOk (parts s) then sums (parts s) (parts s).length else []
theorem readB_zero {s : ByteArray} (h : s.size = 0) : readB s = true := by simp [readB, h]
theorem readL_zero {s : ByteArray} (h : s.size = 0) : readL s = [] := by simp [readL, h]
theorem readB_no {s : ByteArray} (h : s.size ≠ 0) (hp : partsOk (parts s) = false) : readB s = false ∧ readL s = [] := by simp [readB, readL, h, hp]
theorem readB_yes {s : ByteArray} (h : s.size ≠ 0) (hp : partsOk (parts s) = true) : readB s = true ∧ readL s = sums (parts s) (parts s).length := by simp [readB, readL, h, hp]
theorem partsOk_no_fig {ps : List ByteArray} {k : Nat} (hk : k < ps.length) (h : figB (pat ps k) = false) : partsOk ps = false := by
  have : figsOk ps ps.length = false := allTo_false _ _ k hk h
  simp [partsOk, this]
theorem setB_no_big {zs : List Int} {k : Nat} (hk : k < zs.length) (h : 999999999 < nth zs k) : setB zs = false := by
  have : ascB 0 999999999 zs = false := allTo_false _ _ k hk (by simp [okAt]; omega)
  simp [setB, this]
theorem setB_no_long {zs : List Int} (h : 16 < zs.length) : setB zs = false := by simp [setB]; omega
theorem partsOk_no_big {ps : List ByteArray} {k : Nat} (hk : k < ps.length) (h : 999999999 < sumTo ps (k + 1)) : partsOk ps = false := by
  have : setB (sums ps ps.length) = false := setB_no_big (k := k) (by rw [sums_len]; exact hk) (by rw [sums_nth _ _ _ hk]; omega)
  simp [partsOk, this]
theorem partsOk_no_long {ps : List ByteArray} (h : 16 < ps.length) : partsOk ps = false := by
  simp [partsOk, setB_no_long (zs := sums ps ps.length) (by rw [sums_len]; exact h)]
theorem partsOk_set {ps : List ByteArray} (hf : figsOk ps ps.length = true) : partsOk ps = setB (sums ps ps.length) := by simp [partsOk, hf]
theorem cuts_size (b : UInt8) : ∀ (k : Nat) (s : ByteArray), ∀ p ∈ cuts b k s, p.size ≤ s.size
  | 0, s, p, h => by rw [cuts_zero] at h; simp at h; rw [h]; exact Nat.le_refl _
  | k + 1, s, p, h => by
    unfold cuts at h
    rcases Lib.indexB_cases s ⟨#[b]⟩ with hix | ⟨i, hix, hroom⟩
    · rw [Lib.splitB_miss _ _ _ _ hix] at h
      simp at h
      rw [h]
      exact Nat.le_refl _
    · rw [Lib.splitB_hit _ _ _ _ _ hix, List.mem_cons] at h
      rcases h with rfl | h
      · rw [ByteArray.size_extract]; omega
      · have := cuts_size b k _ p h
        rw [ByteArray.size_extract] at this
        omega
theorem pat_size (b : UInt8) (k : Nat) (s : ByteArray) (i : Nat) (h : i < (cuts b k s).length) : (pat (cuts b k s) i).size ≤ s.size := by
  rw [pat_get _ _ h]
  exact cuts_size b k s _ (List.getElem_mem h)
theorem sumTo_bd (ps : List ByteArray) : ∀ k, figsOk ps k = true → sumTo ps k ≤ 999999999 * k
  | 0, _ => by simp [sumTo]
  | k + 1, h => by
    unfold figsOk at h
    simp only [allTo, Bool.and_eq_true] at h
    have := sumTo_bd ps k h.1
    have := numB_bd _ h.2
    simp only [sumTo]
    omega
theorem gapN_sums (ps : List ByteArray) (k i : Nat) (h : i < k) : gapN (sums ps k) i = numB (pat ps i) := by
  unfold gapN ahead
  rw [sums_nth _ _ _ h]
  by_cases e : i = 0
  · subst e
    rw [if_pos rfl]
    simp [sumTo]
  · rw [if_neg e, sums_nth _ _ _ (by omega), show i - 1 + 1 = i from by omega]
    simp only [sumTo]
    omega
theorem gapT_sums (ps : List ByteArray) (h : figsOk ps ps.length = true) : gapT (sums ps ps.length) ps.length = ps.map (·.data.toList) := by
  apply List.ext_getElem
  · simp [gapT]
  · intro i h1 h2
    have hi : i < ps.length := by simpa using h2
    have hb := dec_back (pat ps i) ((allTo_iff _ _).1 h i hi)
    simp only [gapT, List.getElem_map, List.getElem_range]
    rw [gapN_sums _ _ _ hi, ← pat_get _ _ hi]
    conv => rhs; rw [← hb]
    rfl
/-- What is read is written just so. -/
theorem gaps_back (b : Nat) (s : ByteArray) (h : figsOk (cuts 32 b s) (cuts 32 b s).length = true) : gapsTo (sums (cuts 32 b s) (cuts 32 b s).length) (cuts 32 b s).length = s := by
  unfold gapsTo
  rw [gapT_sums _ h, join_cuts]
/-- Cut sixteen times at most the same is read. -/
theorem parts16 (s : ByteArray) : partsOk (cuts 32 16 s) = partsOk (parts s) ∧ (partsOk (parts s) = true → cuts 32 16 s = parts s) := by
  unfold parts
  by_cases h : manyB 32 s ≤ 16
  · rw [cuts_enough 32 16 s h]
    exact ⟨rfl, fun _ => rfl⟩
  · have h1 := cuts_len_few 32 16 s (by omega)
    have h2 := cuts_full_len 32 s
    have e1 := partsOk_no_long (ps := cuts 32 16 s) (by omega)
    have e2 := partsOk_no_long (ps := cuts 32 (manyB 32 s) s) (by omega)
    rw [e1, e2]
    exact ⟨rfl, fun h => by cases h⟩
end Go.Proofs.YthaobhghbopgkaaDoor
