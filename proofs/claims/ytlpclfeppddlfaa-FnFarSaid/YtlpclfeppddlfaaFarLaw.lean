/- What holds of how far texts are. -/
import Derived.Test.YtlpclfeppddlfaaFar
namespace Go.Proofs.Ytlpclfeppddlfaa
open Go.RowKit

def intsOf (s : ByteArray) : List Int := s.data.toList.map fun b => (b.toNat : Int)
theorem intsOf_len (s : ByteArray) : (intsOf s).length = s.size := by unfold intsOf; rw [List.length_map]; rfl
theorem intsOf_at (s : ByteArray) (j : Nat) (hl : j < (intsOf s).length) : (intsOf s)[j] = byteAt s j := by
  have hd : j < s.data.toList.length := by
    have := hl
    rw [intsOf_len] at this
    simpa using this
  have h : (intsOf s)[j]? = some (byteAt s j) := by
    unfold intsOf byteAt
    rw [List.getElem?_map, List.getD_eq_getElem?_getD, List.getElem?_eq_getElem hd]
    rfl
  rw [List.getElem?_eq_getElem hl] at h
  exact Option.some.inj h
theorem rpre_take (s : ByteArray) (i : Nat) (h : i ≤ s.size) : rpre s i = ((intsOf s).take i).reverse := by
  induction i with
  | zero => rfl
  | succ i ih =>
    have hl : i < (intsOf s).length := by rw [intsOf_len]; omega
    rw [rpre, ih (by omega), List.take_succ_eq_append_getElem hl, List.reverse_append]
    rw [← intsOf_at s i hl]
    rfl
theorem fI_lev (a b : ByteArray) : fI a b a.size b.size = (lev (intsOf a) (intsOf b) : Nat) := by
  unfold fI far
  rw [rpre_take a _ (Nat.le_refl _), rpre_take b _ (Nat.le_refl _), ← intsOf_len a, ← intsOf_len b, List.take_length, List.take_length, lev_rev]
theorem intsOf_inj {a b : ByteArray} (h : intsOf a = intsOf b) : a = b := by
  have h1 : a.data.toList = b.data.toList := by
    unfold intsOf at h
    exact (List.map_inj_right (fun x y e => by
      have : x.toNat = y.toNat := by omega
      exact UInt8.toNat_inj.1 this)).1 h
  have h2 : a.data = b.data := Array.toList_inj.1 h1
  cases a; cases b; simp_all
theorem intsOf_append (a b : ByteArray) : intsOf (a ++ b) = intsOf a ++ intsOf b := by
  unfold intsOf
  rw [ByteArray.data_append, Array.toList_append, List.map_append]
theorem farB_yes (a b : ByteArray) (h1 : textB a = true) (h2 : textB b = true) : farB a b = (lev (intsOf a) (intsOf b) : Nat) := by
  unfold farB
  rw [h1, h2, ← fI_lev]
  rfl
theorem farB_neg (a b : ByteArray) (h : (textB a && textB b) = false) : farB a b = -1 := by
  unfold farB
  rw [h]
  rfl
theorem farB_symm (a b : ByteArray) : farB b a = farB a b := by
  cases h : textB a && textB b with
  | false => rw [farB_neg a b h, farB_neg b a (by rw [Bool.and_comm]; exact h)]
  | true =>
    rw [Bool.and_eq_true] at h
    rw [farB_yes a b h.1 h.2, farB_yes b a h.2 h.1, lev_symm]
theorem farB_zero (a b : ByteArray) (h1 : textB a = true) (h2 : textB b = true) : ((farB a b == 0) == (a.toList == b.toList)) = true := by
  rw [farB_yes a b h1 h2, beq_iff_eq, Bool.eq_iff_iff, beq_iff_eq, beq_iff_eq]
  constructor
  · intro h
    have : intsOf a = intsOf b := (lev_zero _ _).1 (by omega)
    rw [intsOf_inj this]
  · intro h
    have h' : a.data.toList = b.data.toList := by rwa [ByteArray.toList_eq, ByteArray.toList_eq] at h
    have : lev (intsOf a) (intsOf b) = 0 := (lev_zero _ _).2 (by unfold intsOf; rw [h'])
    omega
theorem farB_bd (a b : ByteArray) (h1 : textB a = true) (h2 : textB b = true) : 0 ≤ farB a b ∧ (farB a b ≤ a.size ∨ farB a b ≤ b.size) ∧ (a.size : Int) - b.size ≤ farB a b ∧ (b.size : Int) - a.size ≤ farB a b := by
  rw [farB_yes a b h1 h2]
  have e1 := lev_max (intsOf a) (intsOf b)
  have e2 := al_len (al_lev (intsOf a) (intsOf b))
  rw [intsOf_len, intsOf_len] at e1 e2
  omega
theorem textB_nil : textB ⟨#[]⟩ = true := by decide
theorem farB_nil (a : ByteArray) (h1 : textB a = true) : farB a ⟨#[]⟩ = a.size := by
  rw [farB_yes a _ h1 textB_nil]
  show ((lev (intsOf a) [] : Nat) : Int) = _
  rw [lev_nil_right, intsOf_len]
theorem farB_tri (a b c : ByteArray) (h1 : textB a = true) (h2 : textB b = true) (h3 : textB c = true) : farB a b ≤ farB a c + farB c b := by
  rw [farB_yes a b h1 h2, farB_yes a c h1 h3, farB_yes c b h3 h2]
  have := lev_tri (intsOf a) (intsOf c) (intsOf b)
  omega
theorem textB_iff (s : ByteArray) : textB s = true ↔ s.size ≤ 60 ∧ ∀ z ∈ intsOf s, 32 ≤ z ∧ z ≤ 126 := by
  unfold textB
  rw [Bool.and_eq_true, decide_eq_true_eq, allTo_iff]
  have hb : ∀ j, j < s.size → ∃ h : j < (intsOf s).length, (intsOf s)[j] = byteAt s j := by
    intro j hj
    have hl : j < (intsOf s).length := by rw [intsOf_len]; exact hj
    exact ⟨hl, intsOf_at s j hl⟩
  constructor
  · rintro ⟨h1, h2⟩
    refine ⟨by omega, fun z hz => ?_⟩
    obtain ⟨j, hj, rfl⟩ := List.mem_iff_getElem.1 hz
    have hj' : j < s.size := by rw [intsOf_len] at hj; exact hj
    obtain ⟨_, e⟩ := hb j hj'
    have := h2 j hj'
    rw [e]
    simpa [seenB] using this
  · rintro ⟨h1, h2⟩
    refine ⟨by omega, fun j hj => ?_⟩
    obtain ⟨hl, e⟩ := hb j hj
    have := h2 _ (List.getElem_mem hl)
    rw [e] at this
    simp [seenB, this.1, this.2]
def qS : ByteArray := ⟨#[113]⟩
theorem intsOf_q : intsOf qS = [113] := by decide
theorem text_q (a : ByteArray) (h : textB a = true) (hs : a.size < 60) : textB (a ++ qS) = true ∧ textB (qS ++ a) = true := by
  rw [textB_iff] at h
  constructor
  · rw [textB_iff, intsOf_append, intsOf_q, ByteArray.size_append]
    refine ⟨by show a.size + 1 ≤ 60; omega, fun z hz => ?_⟩
    rcases List.mem_append.1 hz with h' | h'
    · exact h.2 z h'
    · simp at h'; omega
  · rw [textB_iff, intsOf_append, intsOf_q, ByteArray.size_append]
    refine ⟨by show 1 + a.size ≤ 60; omega, fun z hz => ?_⟩
    rcases List.mem_append.1 hz with h' | h'
    · simp at h'; omega
    · exact h.2 z h'
theorem lev_snoc_one (q : Int) (xs : List Int) : lev xs (xs ++ [q]) = 1 := by
  rw [← lev_rev, List.reverse_append]
  exact lev_one' q xs.reverse
theorem farB_one (a b : ByteArray) (h1 : textB a = true) (h2 : textB b = true) (s1 : a.size < 60) (s2 : b.size < 60) :
    farB (a ++ qS) b ≤ farB a b + 1 ∧ farB a b - 1 ≤ farB (a ++ qS) b ∧ farB (a ++ qS) (b ++ qS) = farB a b ∧ farB (qS ++ a) (qS ++ b) = farB a b ∧ farB a (a ++ qS) = 1 := by
  obtain ⟨a1, a2⟩ := text_q a h1 s1
  obtain ⟨b1, b2⟩ := text_q b h2 s2
  rw [farB_yes a b h1 h2, farB_yes _ b a1 h2, farB_yes _ _ a1 b1, farB_yes _ _ a2 b2, farB_yes a _ h1 a1]
  simp only [intsOf_append, intsOf_q, List.cons_append, List.nil_append]
  have e0 := lev_snoc_one 113 (intsOf a)
  have e1 := lev_tri (intsOf a ++ [113]) (intsOf a) (intsOf b)
  have e2 := lev_tri (intsOf a) (intsOf a ++ [113]) (intsOf b)
  have e3 := lev_symm (intsOf a ++ [113]) (intsOf a)
  rw [lev_snoc, lev_cons]
  omega
end Go.Proofs.Ytlpclfeppddlfaa
