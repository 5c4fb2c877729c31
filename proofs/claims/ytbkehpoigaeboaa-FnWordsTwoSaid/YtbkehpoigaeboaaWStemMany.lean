/- The walk of the law FnStemMany. -/
import Derived.Test.YtbkehpoigaeboaaWExactWords
import Derived.Test.YtbkehpoigaeboaaDrawTerm
namespace Go.Proofs.Ytbkehpoigaeboaa
open Go.RowKit

theorem byteAt_append_left (s t : ByteArray) (k : Nat) (h : k < s.size) : byteAt (s ++ t) k = byteAt s k := by
  unfold byteAt
  rw [ByteArray.data_append, Array.toList_append, List.getD_eq_getElem?_getD, List.getD_eq_getElem?_getD, List.getElem?_append_left (by simpa using h)]
theorem byteAt_append_right (s t : ByteArray) (k : Nat) : byteAt (s ++ t) (s.size + k) = byteAt t k := by
  unfold byteAt
  rw [ByteArray.data_append, Array.toList_append, List.getD_eq_getElem?_getD, List.getD_eq_getElem?_getD, List.getElem?_append_right (by simp)]
  congr 2
  simp
theorem extract_append_left (s t : ByteArray) : (s ++ t).extract 0 s.size = s := by
  apply ByteArray.ext
  rw [ByteArray.data_extract, ByteArray.data_append]
  apply Array.ext'
  simp
  exact List.take_of_length_le (by simp)

/-- A text of three to eleven bytes that does not end with an s, and an s behind it. -/
theorem stem_many (s t : ByteArray) (h3 : 3 ≤ s.size) (h12 : s.size < 12) (ht : foldA t = ⟨#[115]⟩) (hl : byteAt (foldA s) (s.size - 1) ≠ 115) : stemA (s ++ t) = stemA s := by
  have hz := fold_size s
  have hf : foldA (s ++ t) = foldA s ++ ⟨#[115]⟩ := by rw [foldA_append, ht]
  have hsz : (foldA s ++ (⟨#[115]⟩ : ByteArray)).size = s.size + 1 := by rw [ByteArray.size_append, hz]; rfl
  have c1 : cut12 (foldA s ++ ⟨#[115]⟩) = foldA s ++ ⟨#[115]⟩ := by unfold cut12; rw [if_neg (by omega)]
  have c2 : cut12 (foldA s) = foldA s := by unfold cut12; rw [if_neg (by omega)]
  have b1 : byteAt (foldA s ++ (⟨#[115]⟩ : ByteArray)) s.size = 115 := by
    have := byteAt_append_right (foldA s) (⟨#[115]⟩ : ByteArray) 0
    rw [hz, Nat.add_zero] at this
    rw [this]; rfl
  have b2 : byteAt (foldA s ++ (⟨#[115]⟩ : ByteArray)) (s.size - 1) = byteAt (foldA s) (s.size - 1) := byteAt_append_left _ _ _ (by omega)
  have m1 : manyB (foldA s ++ ⟨#[115]⟩) = true := by
    unfold manyB
    rw [hsz, show s.size + 1 - 1 = s.size from by omega, show s.size + 1 - 2 = s.size - 1 from by omega, b1, b2]
    simp [hl]; omega
  have m2 : manyB (foldA s) = false := by
    unfold manyB
    rw [hz]
    simp [hl]
  have w1 : withoutA (foldA s ++ ⟨#[115]⟩) = foldA s := by
    unfold withoutA
    rw [if_pos m1, hsz, show s.size + 1 - 1 = (foldA s).size from by omega, extract_append_left]
  have w2 : withoutA (foldA s) = foldA s := by unfold withoutA; rw [m2]; rfl
  unfold stemA
  rw [hf, c1, c2, w1, w2]

theorem last_fold (s : ByteArray) (h : 1 ≤ s.size) : ((foldA (s.extract (s.size - 1) s.size)).toList == [115]) = false → byteAt (foldA s) (s.size - 1) ≠ 115 := by
  intro hf he
  rw [beq_eq_false_iff_ne] at hf
  apply hf
  have hz := fold_size s
  have e1 : s.data.toList.drop (s.size - 1) = [s.data.toList[s.size - 1]'(by simp; omega)] := by
    rw [List.drop_eq_getElem_cons (by simp; omega), List.drop_of_length_le (by simp; omega)]
  have e2 : (foldA (s.extract (s.size - 1) s.size)).toList = [lowU (s.data.toList[s.size - 1]'(by simp; omega))] := by
    rw [ByteArray.toList_eq]
    show ((s.extract (s.size - 1) s.size).data.toList.map lowU).toArray.toList = _
    rw [List.toList_toArray, ByteArray.data_extract]
    have : (s.data.extract (s.size - 1) s.size).toList = [s.data.toList[s.size - 1]'(by simp; omega)] := by
      rw [Array.toList_extract, List.extract_eq_take_drop, e1, show s.size - (s.size - 1) = 1 from by omega]
      rfl
    rw [this]; rfl
  rw [e2]
  have e3 := fold_byte s (s.size - 1) (by omega)
  rw [he, byteAt_eq s _ (by omega), ← lowU_I] at e3
  have : (lowU (s.data.toList[s.size - 1]'(by simp; omega))).toNat = 115 := by
    have e4 : s.data.toList[s.size - 1]'(by simp; omega) = s[s.size - 1]'(by omega) := rfl
    rw [e4]; omega
  rw [show lowU (s.data.toList[s.size - 1]'(by simp; omega)) = 115 from UInt8.toNat_inj.1 (by rw [this]; rfl)]

set_option maxHeartbeats 1000000 in
theorem wFnStemMany (a0 : Option Addr) (len0 cap0 : Nat) (w : World) (b0 : BytesIn w a0 len0 cap0) :
    Calls Try.prog 8 #[.slice a0 len0 cap0] w fun e w' => e = .returned (.bool true) ∧ Below w.heap.size w w' := by
  have m0 := b0.le
  have m1 := b0.max
  unfold maxLen at m1
  by_cases hbig0 : 1048576 < (len0 : Int)
  · go_enter Try.func8, Try.ntmps8
    go_wp2
    go_ret
    exact ⟨rfl, Below.refl _ _⟩
  go_enter Try.func8, Try.ntmps8
  go_wp2_with fail
  refine (drawTermOk_any _ _ _ _ b0).mono ?_
  rintro e u1 ⟨s, rfl, hs, hb1⟩
  clear b0
  have hNw := wordsOn_len s s.size 0 (by omega)
  go_wp2_with fail
  refine (stemI_any s _ (by unfold maxLen; omega)).mono ?_
  rintro e u2 ⟨rfl, hb2⟩
  go_wp2_with fail
  refine (stemS_any s _ (by omega)).mono ?_
  rintro e u3 ⟨rfl, hb3⟩
  go_wp2_with fail
  refine (wordsI2_any s _ (by omega)).mono ?_
  rintro e u4 ⟨p4, c4, rfl, _, hr4, hb4⟩
  have hbw4 : Below w.heap.size w u4 := below_trans hb1 (below_trans hb2 (below_trans hb3 hb4))
  clear hb1 hb2 hb3 hb4 hr4
  by_cases hL : (wordsOn s 0).length = 1
  · have hLn : (((wordsOn s 0).length : Int) != 1) = false := by simp [hL]
    go_wp2_with fail
    refine (wordsI2_any s _ (by omega)).mono ?_
    rintro e u5 ⟨p5, c5, rfl, _, hr5, hb5⟩
    have hb5' := below_trans hbw4 hb5
    obtain ⟨g, rfl, hg, hc⟩ := hr5 (by omega)
    have k0 := (hc 0 (by omega)).1
    simp only [Nat.zero_mul] at k0
    clear hc hr5 hb5 hbw4
    have hLI : (0 : Int) < ((wordsOn s 0).length : Int) := by omega
    generalize hx : s.extract (wordsOn s 0)[0].1 (wordsOn s 0)[0].2 = x at *
    clear hx
    by_cases hq : (s.size : Int) = (x.size : Int)
    · have hqn : ((s.size : Int) != (x.size : Int)) = false := by simp; omega
      by_cases h3 : (s.size : Int) < 3
      · have HX : Hid ((s.size : Int) = (x.size : Int)) := hq
        clear hq
        go_wp2_with fail
        refine (stemS_any s _ (by omega)).mono ?_
        rintro e u6 ⟨rfl, hb6⟩
        go_wp2
        go_ret
        exact ⟨rfl, below_trans hb5' hb6⟩
      · by_cases h12 : 12 ≤ (s.size : Int)
        · have HX : Hid ((s.size : Int) = (x.size : Int)) := hq
          clear hq
          have d3 : decide ((s.size : Int) < 3) = false := by simp; omega
          go_wp2_with fail
          refine (stemS_any s _ (by omega)).mono ?_
          rintro e u6 ⟨rfl, hb6⟩
          go_wp2
          go_ret
          exact ⟨rfl, below_trans hb5' hb6⟩
        · have HX : Hid ((s.size : Int) = (x.size : Int)) := hq
          clear hq
          have d3 : decide ((s.size : Int) < 3) = false := by simp; omega
          have d12 : decide (12 ≤ (s.size : Int)) = false := by simp; omega
          have HL : Hid (((foldA (s.extract (s.size - 1) s.size)).toList == [115]) = false → byteAt (foldA s) (s.size - 1) ≠ 115) := last_fold s (by omega)
          have hxs : (s.extract (s.size - 1) s.size).size ≤ maxLen := by simp; unfold maxLen; omega
          go_wp2_with fail
          refine (foldI_any _ _ hxs).mono ?_
          rintro e u6 ⟨rfl, hb6⟩
          have hb6' := below_trans hb5' hb6
          clear hb5' hb6
          cases hlast : ((foldA (s.extract (s.size - 1) s.size)).toList == [115]) with
          | true =>
            go_wp2_with fail
            refine (stemS_any s _ (by omega)).mono ?_
            rintro e u7 ⟨rfl, hb7⟩
            go_wp2
            go_ret
            exact ⟨rfl, below_trans hb6' hb7⟩
          | false =>
            have hne := HL.out hlast
            have HS1 : Hid (stemA (s ++ ⟨#[115]⟩) = stemA s) := stem_many s _ (by omega) (by omega) (by decide +kernel) hne
            have HS2 : Hid (stemA (s ++ ⟨#[83]⟩) = stemA s) := stem_many s _ (by omega) (by omega) (by decide +kernel) hne
            clear hne
            go_wp2_with fail
            refine (stemI_any _ _ (by rw [ByteArray.size_append]; show s.size + 1 ≤ maxLen; unfold maxLen; omega)).mono ?_
            rintro e u7 ⟨rfl, hb7⟩
            rw [HS1.out]
            go_wp2_with fail
            refine (stemI_any _ _ (by rw [ByteArray.size_append]; show s.size + 1 ≤ maxLen; unfold maxLen; omega)).mono ?_
            rintro e u8 ⟨rfl, hb8⟩
            rw [HS2.out]
            go_wp2
            go_ret
            exact ⟨rfl, below_trans hb6' (below_trans hb7 hb8)⟩
    · have hqn : ((s.size : Int) != (x.size : Int)) = true := by simp; omega
      go_wp2_with fail
      refine (stemS_any s _ (by omega)).mono ?_
      rintro e u6 ⟨rfl, hb6⟩
      go_wp2
      go_ret
      exact ⟨rfl, below_trans hb5' hb6⟩
  · have hLn : (((wordsOn s 0).length : Int) != 1) = true := by simp; omega
    go_wp2_with fail
    refine (stemS_any s _ (by omega)).mono ?_
    rintro e u6 ⟨rfl, hb6⟩
    go_wp2
    go_ret
    exact ⟨rfl, below_trans hbw4 hb6⟩
end Go.Proofs.Ytbkehpoigaeboaa
