/- Texts cut at a byte: plain mathematics. -/
import Derived.Test.YtfakoalkbcnejaaDoorPlain
import Derived.Test.YtfakoalkbcnejaaDoorJoinPlain
import Derived.Lib.SplitLaws
import Derived.Lib.IndexBytes
namespace Go.Proofs.YtfakoalkbcnejaaDoor
open Go.RowKit
set_option linter.unusedVariables false

theorem ba_ext {s t : ByteArray} (h : s.data.toList = t.data.toList) : s = t := by
  obtain ⟨⟨l⟩⟩ := s
  obtain ⟨⟨m⟩⟩ := t
  simp at h
  rw [h]
theorem ib_at (b : UInt8) : ∀ (l : List UInt8) (i : Nat), l[i]? = some b → (∀ j, j < i → l[j]? ≠ some b) → Lib.indexByte l b = i
  | [], i, h, _ => by simp at h
  | x :: t, 0, h, _ => by
    simp at h
    subst h
    simp [Lib.indexByte]
  | x :: t, i + 1, h, hn => by
    have hx : x ≠ b := fun e => hn 0 (by omega) (by simp [e])
    have ih := ib_at b t i (by simpa using h) (fun j hj => by have := hn (j + 1) (by omega); simpa using this)
    rw [Lib.indexByte, if_neg (by simpa using hx), ih, if_neg (by simp)]
    omega
theorem ib_no (b : UInt8) : ∀ (l : List UInt8), (∀ j, j < l.length → l[j]? ≠ some b) → Lib.indexByte l b = -1
  | [], _ => rfl
  | x :: t, hn => by
    have hx : x ≠ b := fun e => hn 0 (by simp) (by simp [e])
    have ih := ib_no b t (fun j hj => by have := hn (j + 1) (by simpa using hj); simpa using this)
    rw [Lib.indexByte, if_neg (by simpa using hx), ih, if_pos (by simp)]
theorem byteAt_some (s : ByteArray) (i : Nat) (b : UInt8) (hi : i < s.size) : byteAt s i = (b.toNat : Int) ↔ s.data.toList[i]? = some b := by
  have hl : i < s.data.toList.length := by simpa using hi
  unfold byteAt
  rw [List.getD_eq_getElem?_getD, List.getElem?_eq_getElem hl]
  simp only [Option.getD_some, Option.some.injEq]
  constructor
  · intro h
    exact UInt8.toNat_inj.1 (by omega)
  · intro h
    rw [h]
theorem indexB_at (s : ByteArray) (b : UInt8) (i : Nat) (hi : i < s.size) (hb : byteAt s i = (b.toNat : Int)) (hn : ∀ j, j < i → byteAt s j ≠ (b.toNat : Int)) : Lib.indexB s ⟨#[b]⟩ = i := by
  show Lib.index s.data.toList [b] = i
  rw [Lib.index_one]
  exact ib_at b _ i ((byteAt_some s i b hi).1 hb) (fun j hj e => hn j hj ((byteAt_some s j b (by omega)).2 e))
theorem indexB_no (s : ByteArray) (b : UInt8) (hn : ∀ j, j < s.size → byteAt s j ≠ (b.toNat : Int)) : Lib.indexB s ⟨#[b]⟩ = -1 := by
  show Lib.index s.data.toList [b] = -1
  rw [Lib.index_one]
  exact ib_no b _ (fun j hj e => hn j (by simpa using hj) ((byteAt_some s j b (by simpa using hj)).2 e))

/-- A text cut at a byte, so many times at most. -/
def cuts (b : UInt8) (k : Nat) (s : ByteArray) : List ByteArray := Lib.splitB ⟨#[b]⟩ 0 k s
theorem byteAt_drop (s : ByteArray) (f j : Nat) : byteAt (s.extract f s.size) j = byteAt s (f + j) := by
  unfold byteAt
  rw [Lib.extract_to_end, List.getD_eq_getElem?_getD, List.getD_eq_getElem?_getD, List.getElem?_drop]
theorem extract_two (s : ByteArray) (f i : Nat) (h : f ≤ i) (hi : i ≤ s.size) : (s.extract f s.size).extract 0 (i - f + 0) = s.extract f i := by
  apply ba_ext
  rw [Lib.extract_data, Lib.extract_to_end, Lib.extract_data]
  simp
theorem extract_rest (s : ByteArray) (f i : Nat) (h : f ≤ i) (hi : i < s.size) : (s.extract f s.size).extract (i - f + 1) (s.extract f s.size).size = s.extract (i + 1) s.size := by
  apply ba_ext
  rw [Lib.extract_to_end, Lib.extract_to_end, Lib.extract_to_end, List.drop_drop]
  congr 1
  omega
theorem cuts_hit (s : ByteArray) (b : UInt8) (k f i : Nat) (h : f ≤ i) (hi : i < s.size) (hb : byteAt s i = (b.toNat : Int)) (hn : ∀ j, f ≤ j → j < i → byteAt s j ≠ (b.toNat : Int)) :
    cuts b (k + 1) (s.extract f s.size) = s.extract f i :: cuts b k (s.extract (i + 1) s.size) := by
  have hs : (s.extract f s.size).size = s.size - f := by rw [ByteArray.size_extract]; omega
  have hix := indexB_at (s.extract f s.size) b (i - f) (by omega) (by rw [byteAt_drop, show f + (i - f) = i from by omega]; exact hb) (fun j hj => by rw [byteAt_drop]; exact hn (f + j) (by omega) (by omega))
  unfold cuts
  rw [Lib.splitB_hit _ _ _ _ _ hix, extract_two s f i h (by omega)]
  congr 1
  rw [show i - f + (⟨#[b]⟩ : ByteArray).size = i - f + 1 from rfl, extract_rest s f i h hi]
theorem cuts_miss (s : ByteArray) (b : UInt8) (k f : Nat) (hf : f ≤ s.size) (hn : ∀ j, f ≤ j → j < s.size → byteAt s j ≠ (b.toNat : Int)) : cuts b k (s.extract f s.size) = [s.extract f s.size] := by
  have hs : (s.extract f s.size).size = s.size - f := by rw [ByteArray.size_extract]; omega
  exact Lib.splitB_miss _ _ _ _ (indexB_no _ _ (fun j hj => by rw [byteAt_drop]; exact hn (f + j) (by omega) (by omega)))
theorem cuts_zero (s : ByteArray) (b : UInt8) : cuts b 0 s = [s] := rfl
theorem extract_all (s : ByteArray) : s.extract 0 s.size = s := by
  apply ba_ext
  rw [Lib.extract_to_end, List.drop_zero]
theorem cuts_len_le (b : UInt8) (k : Nat) (s : ByteArray) : (cuts b k s).length ≤ k + 1 := Lib.splitB_length_le _ _ _ _
theorem cuts_pos (b : UInt8) (k : Nat) (s : ByteArray) : 0 < (cuts b k s).length := by
  unfold cuts
  cases k with
  | zero => simp [Lib.splitB]
  | succ k => unfold Lib.splitB; split <;> simp
/-- How often a byte is in a text. -/
def manyB (b : UInt8) (s : ByteArray) : Nat := Lib.countB s ⟨#[b]⟩
theorem manyB_le (b : UInt8) (s : ByteArray) : manyB b s ≤ s.size := Lib.countB_le ⟨#[b]⟩ (Nat.le_refl 1) s.size s (Nat.le_refl _)
theorem cuts_enough (b : UInt8) : ∀ (k : Nat) (s : ByteArray), manyB b s ≤ k → cuts b k s = cuts b (manyB b s) s
  | 0, s, h => by
    have : manyB b s = 0 := by omega
    rw [this]
  | k + 1, s, h => by
    rcases Lib.indexB_cases s ⟨#[b]⟩ with hix | ⟨i, hix, hroom⟩
    · unfold cuts
      rw [Lib.splitB_miss _ _ _ _ hix, Lib.splitB_miss _ _ _ _ hix]
    · have hc := Lib.countB_hit s ⟨#[b]⟩ i (Nat.le_refl 1) hix
      have ih := cuts_enough b k (s.extract (i + (⟨#[b]⟩ : ByteArray).size) s.size) (by unfold manyB at h ⊢; omega)
      unfold manyB cuts at *
      rw [hc, Nat.add_comm 1, Lib.splitB_hit _ _ _ _ _ hix, Lib.splitB_hit _ _ _ _ _ hix, ih]
theorem cuts_full_len (b : UInt8) (s : ByteArray) : (cuts b (manyB b s) s).length = manyB b s + 1 := Lib.splitB_all ⟨#[b]⟩ (Nat.le_refl 1) 0 _ s rfl
theorem cuts_len_few (b : UInt8) : ∀ (k : Nat) (s : ByteArray), k ≤ manyB b s → (cuts b k s).length = k + 1
  | 0, s, h => rfl
  | k + 1, s, h => by
    rcases Lib.indexB_cases s ⟨#[b]⟩ with hix | ⟨i, hix, hroom⟩
    · have := Lib.countB_miss s ⟨#[b]⟩ hix
      unfold manyB at h
      omega
    · have hc := Lib.countB_hit s ⟨#[b]⟩ i (Nat.le_refl 1) hix
      have ih := cuts_len_few b k (s.extract (i + (⟨#[b]⟩ : ByteArray).size) s.size) (by unfold manyB at h ⊢; omega)
      unfold cuts at *
      rw [Lib.splitB_hit _ _ _ _ _ hix, List.length_cons, ih]
theorem join_cons (x : List UInt8) (r : List (List UInt8)) (sep : List UInt8) (h : 0 < r.length) : Lib.join (x :: r) sep = x ++ sep ++ Lib.join r sep := by
  match r, h with
  | y :: r, _ => exact join_two x y r sep
theorem join_cuts (b : UInt8) : ∀ (k : Nat) (s : ByteArray), Lib.join ((cuts b k s).map (·.data.toList)) [b] = s.data.toList
  | 0, s => by rw [cuts_zero]; exact Lib.join_one _ _
  | k + 1, s => by
    by_cases hex : ∃ i, i < s.size ∧ byteAt s i = (b.toNat : Int)
    · have hmin : ∃ i, i < s.size ∧ byteAt s i = (b.toNat : Int) ∧ ∀ j, j < i → byteAt s j ≠ (b.toNat : Int) := by
        obtain ⟨i, hi⟩ := hex
        induction i using Nat.strongRecOn with
        | ind i ih =>
          by_cases h : ∃ j, j < i ∧ byteAt s j = (b.toNat : Int)
          · obtain ⟨j, hj, hb⟩ := h
            exact ih j hj ⟨by omega, hb⟩
          · exact ⟨i, hi.1, hi.2, fun j hj e => h ⟨j, hj, e⟩⟩
      obtain ⟨i, hi, hb, hn⟩ := hmin
      have h := cuts_hit s b k 0 i (Nat.zero_le _) hi hb (fun j _ hj => hn j hj)
      rw [extract_all] at h
      have ih := join_cuts b k (s.extract (i + 1) s.size)
      rw [h, List.map_cons, join_cons _ _ _ (by simpa using cuts_pos _ _ _), ih, Lib.extract_to_end, Lib.extract_data]
      have hl : i < s.data.toList.length := by simpa using hi
      have hsi := (byteAt_some s i b hi).1 hb
      rw [List.getElem?_eq_getElem hl] at hsi
      have hd := List.drop_eq_getElem_cons hl
      rw [Option.some.inj hsi] at hd
      simp only [List.drop_zero, Nat.sub_zero, List.append_assoc, List.cons_append, List.nil_append]
      rw [← hd, List.take_append_drop]
    · have h := cuts_miss s b (k + 1) 0 (Nat.zero_le _) (fun j _ hj e => hex ⟨j, hj, e⟩)
      rw [extract_all] at h
      rw [h]
      exact Lib.join_one _ _
end Go.Proofs.YtfakoalkbcnejaaDoor
