/- What a name is: one word, folded; with a figure ahead or a blank behind it is none. The walk of the law FnName. -/
import Derived.Test.YtpmpoekpmmpgbaaNameOk
import Derived.Test.YtpmpoekpmmpgbaaIter
import Derived.Test.YtpmpoekpmmpgbaaDrawMore
namespace Go.Proofs.Ytpmpoekpmmpgbaa
open Go.RowKit

theorem byteL (s t : ByteArray) (k : Nat) (h : k < s.size) : byteAt (s ++ t) k = byteAt s k := by
  unfold byteAt
  rw [ByteArray.data_append, Array.toList_append, List.getD_eq_getElem?_getD, List.getD_eq_getElem?_getD, List.getElem?_append_left (by simpa using h)]
theorem byteR (s t : ByteArray) : byteAt (s ++ t) s.size = byteAt t 0 := by
  unfold byteAt
  rw [ByteArray.data_append, Array.toList_append, List.getD_eq_getElem?_getD, List.getD_eq_getElem?_getD, List.getElem?_append_right (by simp)]
  simp
theorem below_tr {w w1 w2 : World} (h1 : Below w.heap.size w w1) (h2 : Below w1.heap.size w1 w2) : Below w.heap.size w w2 := h1.trans (h2.mono h1.size)
structure IsName (s : ByteArray) : Prop where
  pos : 0 < s.size
  le : s.size ≤ 8
  first : figureB (byteAt s 0) = false
  all : ∀ j, j < s.size → okB (byteAt s j) = true
theorem isName (s : ByteArray) (h : nameI s = true) : IsName s := by
  simp only [nameI, Bool.and_eq_true, allTo_iff, decide_eq_true_eq, Bool.not_eq_true'] at h
  exact ⟨isEmpty_size s h.1.1.1, by have := h.1.1.2; omega, h.1.2, h.2⟩
theorem IsName.words {s : ByteArray} (h : IsName s) : wordsOn s 0 = [(0, s.size)] := by
  have hp := h.pos
  have he : wordEnd s 0 = s.size := by
    refine (wordEnd_end s 0 (by omega)).uniq ⟨by omega, Nat.le_refl _, fun x _ hx => ?_, fun hx => absurd hx (Nat.lt_irrefl _)⟩
    have := h.all x hx
    simp only [okB, Bool.or_eq_true] at this
    simp only [partB, Bool.or_eq_true]
    rcases this with h | h
    · exact .inl (.inl h)
    · exact .inr h
  rw [wordsOn_word s 0 hp (by omega), he, wordsOn_past s _ (Nat.lt_irrefl _)]
theorem IsName.fold {s : ByteArray} (h : IsName s) : foldA s = s := by
  have e : s.data.toList.map lowU = s.data.toList := by
    apply List.ext_getElem
    · simp
    · intro i h1 h2
      have hi : i < s.size := by simpa using h2
      have hb := h.all i hi
      have hb' : byteAt s i = ((s.data.toList[i]'h2).toNat : Int) := by
        unfold byteAt
        rw [List.getD_eq_getElem?_getD, List.getElem?_eq_getElem h2]
        rfl
      rw [hb'] at hb
      rw [List.getElem_map]
      generalize s.data.toList[i] = b at *
      simp only [okB, smallB, figureB, Bool.or_eq_true, Bool.and_eq_true, decide_eq_true_eq] at hb
      unfold lowU
      rw [if_neg]
      omega
  unfold foldA
  rw [e]
theorem name_nine (s : ByteArray) : nameI ((⟨#[57]⟩ : ByteArray) ++ s) = false := by
  have h : byteAt ((⟨#[57]⟩ : ByteArray) ++ s) 0 = 57 := by rw [byteL _ _ _ (by decide)]; rfl
  unfold nameI
  rw [h]
  simp [figureB]
theorem name_blank (s : ByteArray) : nameI (s ++ (⟨#[32]⟩ : ByteArray)) = false := by
  have h : byteAt (s ++ (⟨#[32]⟩ : ByteArray)) s.size = 32 := by rw [byteR]; rfl
  unfold nameI
  rw [allTo_false _ _ s.size (by rw [ByteArray.size_append]; show s.size < s.size + 1; omega) (by rw [h]; rfl)]
  simp

theorem nameI_b (s : ByteArray) (w : World) (b : Bool) (hs : s.size ≤ maxLen) (h : nameI s = b) :
    Calls Try.prog 18 #[.string s] w fun e w' => e = .returned (.bool b) ∧ w = w' := by
  rw [← h]
  exact nameI_any s w hs
theorem nameS_b (s : ByteArray) (w : World) (b : Bool) (hs : s.size ≤ maxLen) (h : nameI s = b) :
    Calls Try.prog 19 #[.string s] w fun e w' => e = .returned (.bool b) ∧ w = w' := by
  rw [← h, name_same]
  exact nameS_any s w hs
theorem fold_b (s : ByteArray) (w : World) (hs : s.size ≤ maxLen) (h : foldA s = s) :
    Calls Try.prog 21 #[.string s] w fun e w' => e = .returned (.string s) ∧ Below w.heap.size w w' := by
  have := foldI_any s w hs
  rw [h] at this
  exact this
theorem words_b (s : ByteArray) (w : World) (hs : IsName s) :
    Calls Try.prog 20 #[.string s] w fun e w' => ∃ g cap, e = .returned (.slice (some ⟨g, 0, none⟩) 1 cap) ∧ w'.cell? ⟨g, 0, none⟩ = some (.string s) ∧ g < w'.heap.size ∧ Below w.heap.size w w' := by
  have hle := hs.le
  refine (wordsI_any s w (by omega)).mono ?_
  rintro e w' ⟨v, rfl, h1, _, h3⟩
  rw [hs.words] at h1
  rcases h1.2 with ⟨rfl, h0⟩ | ⟨g, cap, cur, rfl, hb, hg, r⟩
  · simp at h0
  · refine ⟨g, cap, rfl, ?_, lt_of_block hg, h3⟩
    have := h1.cellAt 0 (by simp)
    rw [this]
    simp [wordCells]

theorem drawNameOk_any (a : Option Addr) (len cap : Nat) (w : World) (h : BytesIn w a len cap) :
    Calls Try.prog 17 #[.slice a len cap] w fun e w' => ∃ t : ByteArray, e = .returned (.string t) ∧ t.size ≤ 9 ∧ Below w.heap.size w w' := by
  go_enter Try.func17, Try.ntmps17
  go_wp2_with fail
  refine (open_any a len cap _ h).mono ?_
  rintro e w1 ⟨len', rfl, hR1, hC1, hb1⟩
  have hlt1 := hR1.lt
  go_wp2_with fail
  refine (of_any w.heap.size w1.heap.size 8 a len' cap 0 _ _ (hR1.alloc _) (hC1.kept (grown_alloc _ _ _) hlt1) (by omega) (strs_new w1 _ _ 9 (by decide +kernel)) (by omega) (by omega) (by omega)).mono ?_
  rintro e w5 ⟨t5, rfl, ht5, hR5, hg5⟩
  clear hR5 hR1 hC1
  go_wp2
  go_ret
  exact ⟨t5, rfl, ht5, grown_below hb1 (grown_trans (grown_alloc w1 _ _) hg5)⟩

set_option maxHeartbeats 600000 in
theorem wFnName (a0 : Option Addr) (len0 cap0 : Nat) (w : World) (b0 : BytesIn w a0 len0 cap0) :
    Calls Try.prog 5 #[.slice a0 len0 cap0] w fun e w' => e = .returned (.bool true) ∧ Below w.heap.size w w' := by
  have m0 := b0.le
  have m1 := b0.max
  unfold maxLen at m1
  by_cases hbig0 : 1048576 < (len0 : Int)
  · go_enter Try.func5, Try.ntmps5
    go_wp2
    go_ret
    exact ⟨rfl, Below.refl _ _⟩
  go_enter Try.func5, Try.ntmps5
  go_wp2_with fail
  refine (drawNameOk_any _ _ _ _ b0).mono ?_
  rintro e u1 ⟨s, rfl, hs, hb1⟩
  clear b0
  have hm : s.size ≤ maxLen := by unfold maxLen; omega
  have HM : Hid (s.size ≤ maxLen) := hm
  clear hm
  cases hn : nameI s with
  | false =>
    have HN : Hid (nameI s = false) := hn
    clear hn
    go_wp2_with fail
    refine (nameI_b s _ false HM.out HN.out).mono ?_
    rintro e w1 ⟨rfl, rfl⟩
    go_wp2_with fail
    refine (nameS_b s _ false HM.out HN.out).mono ?_
    rintro e w1 ⟨rfl, rfl⟩
    go_wp2_with fail
    refine (nameS_b s _ false HM.out HN.out).mono ?_
    rintro e w1 ⟨rfl, rfl⟩
    go_wp2
    go_ret
    exact ⟨rfl, hb1⟩
  | true =>
    have HN : Hid (nameI s = true) := hn
    have HI : Hid (IsName s) := isName s hn
    have H9 : Hid (nameI ((⟨#[57]⟩ : ByteArray) ++ s) = false) := name_nine s
    have HB : Hid (nameI (s ++ (⟨#[32]⟩ : ByteArray)) = false) := name_blank s
    have z9 : Hid (((⟨#[57]⟩ : ByteArray) ++ s).size ≤ maxLen) := by unfold Hid maxLen; rw [ByteArray.size_append]; show 1 + s.size ≤ _; omega
    have zB : Hid ((s ++ (⟨#[32]⟩ : ByteArray)).size ≤ maxLen) := by unfold Hid maxLen; rw [ByteArray.size_append]; show s.size + 1 ≤ _; omega
    clear hn
    go_wp2_with fail
    refine (nameI_b s _ true HM.out HN.out).mono ?_
    rintro e w1 ⟨rfl, rfl⟩
    go_wp2_with fail
    refine (nameS_b s _ true HM.out HN.out).mono ?_
    rintro e w1 ⟨rfl, rfl⟩
    go_wp2_with fail
    refine (words_b s _ HI.out).mono ?_
    rintro e u2 ⟨g, cap, rfl, hc, hg, hb2⟩
    go_wp2_with fail
    refine (fold_b s _ HM.out (IsName.fold HI.out)).mono ?_
    rintro e u3 ⟨rfl, hb3⟩
    have hb13 := below_tr hb1 (below_tr hb2 hb3)
    clear hc hg hb1 hb2 hb3
    go_wp2_with fail
    refine (nameI_b _ _ false ?h1 ?h2).mono ?_
    case h1 => exact z9.out
    case h2 => exact H9.out
    rintro e w1 ⟨rfl, rfl⟩
    go_wp2_with fail
    refine (nameI_b _ _ false ?h1 ?h2).mono ?_
    case h1 => exact zB.out
    case h2 => exact HB.out
    rintro e w1 ⟨rfl, rfl⟩
    go_wp2
    go_ret
    exact ⟨rfl, hb13⟩
end Go.Proofs.Ytpmpoekpmmpgbaa
