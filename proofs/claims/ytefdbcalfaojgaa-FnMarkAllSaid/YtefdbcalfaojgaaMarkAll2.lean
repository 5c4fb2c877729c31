/- All words of a text are marked, and its words are as they were: plain mathematics. -/
import Derived.Test.YtefdbcalfaojgaaMarkAll
namespace Go.Proofs.Ytefdbcalfaojgaa
open Go.RowKit
set_option linter.unusedVariables false

def is91 (b : UInt8) : Bool := b == 91
def c91 (x : ByteArray) (k : Nat) : Nat := ((x.data.toList.take k).filter is91).length
theorem nb_91 {x : ByteArray} (h : NB x) : x.data.toList.filter is91 = [] := List.filter_eq_nil_iff.2 fun b hb => by
  have := (h b hb).1
  simpa [is91] using this
/-- What stands behind k words. -/
structure MkOk (s : ByteArray) (ts : List ByteArray) (k : Nat) : Prop where
  w : wtx (mk s ts k).1 = wtx (s.extract 0 (mk s ts k).2)
  l : (mk s ts k).1.size = 0 ∨ (0 < (mk s ts k).1.size ∧ partB (byteAt (mk s ts k).1 ((mk s ts k).1.size - 1)) = false)
  d : (mk s ts k).2 = 0 ∨ ((mk s ts k).2 < s.size → partB (byteAt s (mk s ts k).2) = false)
  z : (mk s ts k).1.size = (mk s ts k).2 + 2 * cntF (sAt s ts) k
  c : ((mk s ts k).1.data.toList.filter is91).length = cntF (sAt s ts) k
theorem part91 : partB 91 = false := by decide
theorem part93 : partB 93 = false := by decide
theorem last_app (a c : ByteArray) (h : c.size = 1) : byteAt (a ++ c) ((a ++ c).size - 1) = byteAt c 0 := by
  have := byteAt_append_right a c 0
  rw [← this, ByteArray.size_append, h]
  rfl
theorem wtx_piece (g w : ByteArray) : wtx (g ++ openS ++ w ++ shutS) = wtx g ++ wtx w := by
  have e1 : byteAt openS 0 = 91 := rfl
  have e2 : byteAt shutS 0 = 93 := rfl
  rw [wtx_first (b := shutS) (by decide) (by rw [e2]; exact part93), wtx_sing (c := shutS) rfl (by rw [e2]; exact part93), List.append_nil]
  rw [wtx_last (a := g ++ openS) (by rw [ByteArray.size_append]; show 0 < _ + 1; omega) (by rw [last_app g openS rfl, e1]; exact part91)]
  rw [wtx_first (b := openS) (by decide) (by rw [e1]; exact part91), wtx_sing (c := openS) rfl (by rw [e1]; exact part91), List.append_nil]
theorem mk_ok {s : ByteArray} (hs : NB s) (ts : List ByteArray) : ∀ k, k ≤ (wordsOn s 0).length → MkOk s ts k
  | 0, _ => ⟨by rw [wtx_nil (s := (mk s ts 0).1) rfl, wtx_nil (by rw [ByteArray.size_extract]; show min 0 _ - 0 = 0; omega)], .inl rfl, .inl rfl, rfl, rfl⟩
  | k + 1, hk => by
    have ih := mk_ok hs ts k (by omega)
    cases hb : sAt s ts k with
    | false =>
      have e := mk_no s ts k hb
      have ec : cntF (sAt s ts) (k + 1) = cntF (sAt s ts) k := by rw [cntF, hb]; rfl
      exact ⟨by rw [e]; exact ih.w, by rw [e]; exact ih.l, by rw [e]; exact ih.d, by rw [e, ec]; exact ih.z, by rw [e, ec]; exact ih.c⟩
    | true =>
      have e := mk_yes s ts k hb
      have ec : cntF (sAt s ts) (k + 1) = cntF (sAt s ts) k + 1 := by rw [cntF, hb]; rfl
      have hat2 := (mk_at s ts k (by omega)).2 (by omega)
      have hwb := wat_bd s k (by omega)
      have hmem : wat (wordsOn s 0) k ∈ wordsOn s 0 := by rw [wat_get _ _ (by omega)]; exact List.getElem_mem _
      have hst := word_start s s.size 0 (by omega) _ hmem
      have hen := (wordsOn_mem s s.size 0 (by omega) _ hmem).2.2.2
      obtain ⟨iw, il, id, iz, ic⟩ := ih
      generalize (mk s ts k).1 = o at *
      generalize (mk s ts k).2 = d at *
      generalize cntF (sAt s ts) k = n at *
      generalize wat (wordsOn s 0) k = x at *
      obtain ⟨f, t⟩ := x
      simp only at hat2 hwb hst hen e
      have zg : (s.extract d f).size = f - d := by rw [ByteArray.size_extract]; omega
      have zw : (s.extract f t).size = t - f := by rw [ByteArray.size_extract]; omega
      have z0 : (s.extract 0 d).size = d := by rw [ByteArray.size_extract]; omega
      have zf : (s.extract 0 f).size = f := by rw [ByteArray.size_extract]; omega
      have hsz : (s.extract d f ++ openS ++ s.extract f t ++ shutS).size = f - d + 1 + (t - f) + 1 := by
        rw [ByteArray.size_append, ByteArray.size_append, ByteArray.size_append, zg, zw]; rfl
      refine ⟨?_, ?_, ?_, ?_, ?_⟩
      · rw [e]
        show wtx (o ++ _) = wtx (s.extract 0 t)
        rw [wtx_app (by rcases il with h | h; exact .inl h; exact .inr (.inr (.inr h))), wtx_piece, iw]
        rw [← ext_app s (a := 0) (b := f) (c := t) (by omega) (by omega)]
        rw [wtx_app (a := s.extract 0 f) (b := s.extract f t) (by
          rcases hst with h | ⟨h, hp⟩
          · exact .inl (by rw [zf, h])
          · refine .inr (.inr (.inr ⟨by omega, ?_⟩))
            rw [zf, byte_cut s (by omega) (by omega), Nat.zero_add]
            exact hp)]
        rw [← ext_app s (a := 0) (b := d) (c := f) (by omega) (by omega)]
        rw [wtx_app (a := s.extract 0 d) (b := s.extract d f) (by
          rcases id with h | h
          · exact .inl (by rw [z0, h])
          · by_cases hdf : d = f
            · exact .inr (.inl (by rw [zg, hdf]; omega))
            · refine .inr (.inr (.inl ?_))
              rw [byte_cut s (by omega) (by omega), Nat.add_zero]
              exact h (by omega))]
        rw [List.append_assoc]
      · rw [e]
        refine .inr ⟨by show 0 < (o ++ _).size; rw [ByteArray.size_append, hsz]; omega, ?_⟩
        show partB (byteAt (o ++ (s.extract d f ++ openS ++ s.extract f t ++ shutS)) _) = false
        rw [show o ++ (s.extract d f ++ openS ++ s.extract f t ++ shutS) = (o ++ s.extract d f ++ openS ++ s.extract f t) ++ shutS from by apply ByteArray.ext; simp [ByteArray.data_append], last_app _ shutS rfl]
        exact part93
      · rw [e]
        refine .inr fun h => ?_
        show partB (byteAt s t) = false
        rw [hen]
        exact (wordEnd_end s f (by omega)).stop (by rw [← hen]; exact h)
      · rw [e, ec]
        show (o ++ _).size = t + _
        rw [ByteArray.size_append, hsz, iz]
        omega
      · rw [e, ec]
        show ((o ++ (s.extract d f ++ openS ++ s.extract f t ++ shutS)).data.toList.filter is91).length = _
        rw [ByteArray.data_append, ByteArray.data_append, ByteArray.data_append, ByteArray.data_append, Array.toList_append, Array.toList_append, Array.toList_append, Array.toList_append, List.filter_append, List.filter_append, List.filter_append, List.filter_append, nb_91 (hs.cut d f), nb_91 (hs.cut f t), List.length_append, ic]
        rfl
theorem markA_all {s : ByteArray} (hs : NB s) (ts : List ByteArray) : termsL (markA s ts) = termsL s ∧ (markA s ts).size = s.size + 2 * cntF (sAt s ts) (wordsOn s 0).length ∧ c91 (markA s ts) (markA s ts).size = cntF (sAt s ts) (wordsOn s 0).length := by
  have h := mk_ok hs ts _ (Nat.le_refl _)
  have hd := (mk_at s ts _ (Nat.le_refl (wordsOn s 0).length)).1
  obtain ⟨iw, il, id, iz, ic⟩ := h
  unfold markA
  generalize (mk s ts (wordsOn s 0).length).1 = o at *
  generalize (mk s ts (wordsOn s 0).length).2 = d at *
  generalize cntF (sAt s ts) (wordsOn s 0).length = n at *
  have zr : (s.extract d s.size).size = s.size - d := by rw [ByteArray.size_extract]; omega
  have z0 : (s.extract 0 d).size = d := by rw [ByteArray.size_extract]; omega
  refine ⟨?_, ?_, ?_⟩
  · rw [termsL_wtx, termsL_wtx]
    congr 1
    rw [wtx_app (by rcases il with h | h; exact .inl h; exact .inr (.inr (.inr h))), iw]
    have e : s = s.extract 0 d ++ s.extract d s.size := by
      rw [ext_app s (by omega) hd]
      apply ByteArray.ext
      apply Array.ext'
      rw [ByteArray.data_extract, Array.toList_extract, List.extract_eq_take_drop, List.drop_zero, List.take_of_length_le (by simp)]
    conv => rhs; rw [e]
    rw [wtx_app (a := s.extract 0 d) (b := s.extract d s.size) (by
      rcases id with h | h
      · exact .inl (by rw [z0, h])
      · by_cases hdf : d = s.size
        · exact .inr (.inl (by rw [zr, hdf]; omega))
        · refine .inr (.inr (.inl ?_))
          rw [byte_cut s (by omega) (by omega), Nat.add_zero]
          exact h (by omega))]
  · rw [ByteArray.size_append, iz, zr]
    omega
  · unfold c91
    rw [List.take_of_length_le (by simp), ByteArray.data_append, Array.toList_append, List.filter_append, nb_91 (hs.cut _ _), List.append_nil, ic]
theorem cntF_congr {f g : Nat → Bool} : ∀ {k : Nat}, (∀ j, j < k → f j = g j) → cntF f k = cntF g k
  | 0, _ => rfl
  | k + 1, h => by rw [cntF, cntF, cntF_congr (fun j hj => h j (by omega)), h k (by omega)]
/-- A word of the text itself is looked for where anything is. -/
theorem sAt_terms (s : ByteArray) (k : Nat) (h : k < (wordsOn s 0).length) : sAt s (termsL s) k = !(tat (termsL s) k).toList.isEmpty := by
  have e : tat (termsL s) k = stemA (s.extract (wat (wordsOn s 0) k).1 (wat (wordsOn s 0) k).2) := by
    unfold tat termsL
    rw [List.getD_eq_getElem?_getD, List.getElem?_map, List.getElem?_eq_getElem h, wat_get _ _ h]
    rfl
  unfold sAt soughtB
  rw [← e, hasT_yes (k := k) (by rw [termsL_len]; exact h) (by simp), Bool.and_true]
theorem c91_step (x : ByteArray) (k : Nat) (h : k < x.size) : c91 x (k + 1) = if byteAt x k = 91 then c91 x k + 1 else c91 x k := by
  obtain ⟨b, hb, he⟩ := bAt x k h
  unfold c91
  rw [take_one hb, List.filter_append, List.length_append, he]
  by_cases e : b = 91
  · subst e; rw [if_pos (show (((91 : UInt8).toNat : Nat) : Int) = 91 from rfl)]; rfl
  · rw [if_neg (show ¬ (b.toNat : Int) = 91 from fun h => e (toNat_inj (c := 91) h)), List.filter_cons_of_neg (by simpa [is91] using e)]; rfl
theorem c91_le (x : ByteArray) (k : Nat) : c91 x k ≤ k := Nat.le_trans (List.length_filter_le _ _) (by rw [List.length_take]; omega)
end Go.Proofs.Ytefdbcalfaojgaa
