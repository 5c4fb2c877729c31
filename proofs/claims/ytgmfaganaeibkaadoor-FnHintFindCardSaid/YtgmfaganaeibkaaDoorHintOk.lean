/- HintsOk of the program and of the model. -/
import Derived.Test.YtgmfaganaeibkaaDoorHintPlain
import Derived.Test.YtgmfaganaeibkaaDoorHns
import Derived.Test.YtgmfaganaeibkaaDoorSplitAny
import Derived.Test.YtgmfaganaeibkaaDoorIn
import Derived.Test.YtgmfaganaeibkaaDoorStillOne
namespace Go.Proofs.YtgmfaganaeibkaaDoor
open Go.RowKit
set_option linter.unusedVariables false

set_option maxHeartbeats 1000000 in
theorem hintTextOk_any (s : ByteArray) (w : World) (hs : s.size ≤ 1048576) (hm : MaxL w) :
    Calls Tryd.prog 52 #[.string s] w fun e w' => e = .returned (.bool (hintTI s)) ∧ Below w.heap.size w w' := by
  by_cases h60 : 60 < (s.size : Int)
  · have HB : Hid (hintTI s = false) := by unfold Hid hintTI; rw [show decide ((s.size : Int) ≤ 60) = false from by simp; omega]; simp
    go_enter Tryd.func52, Tryd.ntmps52
    go_wp2
    go_ret
    exact ⟨ret_bool HB.out.symm, Below.refl _ _⟩
  have h60d : decide (60 < (s.size : Int)) = false := by simpa using h60
  cases hf : foldEq s with
  | false =>
    have HB : Hid (hintTI s = false) := by unfold Hid hintTI; rw [hf]; simp
    have hf2 : ((foldA s).toList == s.toList) = false := hf
    go_enter Tryd.func52, Tryd.ntmps52
    go_wp2_with fail
    refine (foldI_any s _ (by unfold maxLen; omega)).mono ?_
    rintro e w1 ⟨rfl, hb1⟩
    go_wp2
    go_ret
    exact ⟨ret_bool HB.out.symm, hb1⟩
  | true =>
    have hf2 : ((foldA s).toList == s.toList) = true := hf
    have HI : Hid (hintTI s = (hparts s).all isWordB) := by
      unfold Hid hintTI
      rw [hf, show decide ((s.size : Int) ≤ 60) = true from by simp; omega]
      simp
    have hlen : (hparts s).length = manyB 32 s + 1 := cuts_full_len 32 s
    have hmn := manyB_le 32 s
    have HSZ : Hid (∀ i, i < (hparts s).length → (pat (hparts s) i).size ≤ 1048576) := fun i hi => by have := pat_size 32 (manyB 32 s) s i hi; unfold hparts; omega
    have HSP : Hid (∀ w, MaxL w → Calls Tryd.prog 65 #[.string s, .string ⟨#[32]⟩] w fun e w' => ∃ g, e = .returned (.slice (some ⟨g, 0, none⟩) (manyB 32 s + 1) (manyB 32 s + 1)) ∧ StrRow w' (some ⟨g, 0, none⟩) (cuts 32 (manyB 32 s) s) ∧ Below w.heap.size w w') := fun w hm => split_any s 32 w hs hm
    obtain ⟨ps, hps⟩ : ∃ ps, hparts s = ps := ⟨_, rfl⟩
    have HPS : Hid (cuts 32 (manyB 32 s) s = ps) := hps
    rw [hps] at HI hlen HSZ
    rw [HPS.out] at HSP
    rw [← hlen] at HSP
    have hpl : ps.length ≤ 1048577 := by omega
    clear hlen hmn hps HPS
    go_enter Tryd.func52, Tryd.ntmps52
    go_wp2_with fail
    refine (foldI_any s _ (by unfold maxLen; omega)).mono ?_
    rintro e w1 ⟨rfl, hb1⟩
    go_wp2_with fail
    refine (HSP.out _ (hm.below hb1)).mono ?_
    rintro e w2 ⟨g, rfl, hrow, hb2⟩
    have hw2 := below_trans hb1 hb2
    have HR : Hid (StrRow w2 (some ⟨g, 0, none⟩) ps) := hrow
    clear HSP hm hb1 hb2 hrow
    go_wp2
    go_loop [17] (fun i => ∃ k : Nat, k ≤ ps.length ∧ i = .int .i64 k ∧ allTo (fun j => isWordB (pat ps j)) k = true) (fun i => ps.length - (intOf i).toNat)
    case atStart => exact ⟨0, Nat.zero_le _, rfl, rfl⟩
    case round =>
      obtain ⟨k, hk, rfl, ha⟩ := hrel
      have HA : Hid (allTo (fun j => isWordB (pat ps j)) k = true) := ha
      clear ha
      by_cases hlt : k < ps.length
      · have hks : (k : Int) < (ps.length : Int) := by omega
        obtain ⟨g', e, hg, hc⟩ := HR.out (by omega)
        cases e
        have c1 : w2.cell? ⟨g, k, none⟩ = some (.string (pat ps k)) := hc k hlt
        have hz := HSZ.out k hlt
        have HNO : Hid (isWordB (pat ps k) = false → ps.all isWordB = false) := fun h => by
          rw [List.all_eq_false]
          exact ⟨ps[k], List.getElem_mem _, by rw [← pat_get _ _ hlt, h]; decide⟩
        have HYS : Hid (isWordB (pat ps k) = true → allTo (fun j => isWordB (pat ps j)) (k + 1) = true) := fun h => allTo_snoc _ k HA.out h
        clear hc
        generalize pat ps k = p at *
        go_wp2_with fail
        refine (isWord_any p _ (by omega)).mono ?_
        rintro e _ ⟨rfl, rfl⟩
        cases hb : isWordB p with
        | false =>
          have HB : Hid (hintTI s = false) := by unfold Hid; rw [HI.out]; exact HNO.out hb
          go_wp2
          go_ret
          exact ⟨ret_bool HB.out.symm, hw2⟩
        | true =>
          have HY := HYS.out hb
          have HYH : Hid (allTo (fun j => isWordB (pat ps j)) (k + 1) = true) := HY
          clear HY
          go_wp2
          go_round
          case rel => exact ⟨k + 1, by omega, by go_num, HYH.out⟩
          case measure => simp [intOf]; omega
      · have hkl : k = ps.length := by omega
        have HB : Hid (hintTI s = true) := by
          unfold Hid
          rw [HI.out, List.all_eq_true]
          intro x hx
          obtain ⟨i, hi, rfl⟩ := List.getElem_of_mem hx
          have := (allTo_iff _ _).1 HA.out i (by omega)
          rw [← pat_get _ _ hi]
          exact this
        subst hkl
        go_wp2
        go_ret
        exact ⟨ret_bool HB.out.symm, hw2⟩

def hnW (x : Int) : Bool := decide (1 ≤ x) && decide (x ≤ 999999999)
theorem hintOk_any (t : ByteArray) (x : Int) (w : World) (hs : t.size ≤ 1048576) (hm : MaxL w) :
    Calls Tryd.prog 31 #[.agg #[.string t, .int .i64 x]] w fun e w' => e = .returned (.bool (hintTI t && hnW x)) ∧ Below w.heap.size w w' := by
  have hb0 : Below w.heap.size w (w.alloc (.cells #[.string t, .int .i64 x] 31)) := (Below.refl _ w).alloc (Nat.le_refl _) _
  have B0 := Blk.new w #[.string t, .int .i64 x] 31
  have hl0 := B0.lt
  go_enter Tryd.func31, Tryd.ntmps31
  go_wp2_with fail
  refine (hintTextOk_any t _ hs (hm.below hb0)).mono ?_
  rintro e w1 ⟨rfl, hb1⟩
  have B1 := B0.below hb1 hl0
  have k1 := B1.cell 1
  simp at k1
  have hw1 := below_trans hb0 hb1
  clear B0 hb0 hm hl0
  cases h1 : hintTI t with
  | false =>
    have HB : Hid ((hintTI t && hnW x) = false) := by unfold Hid; rw [h1]; rfl
    go_wp2
    go_ret
    exact ⟨ret_bool HB.out.symm, hw1⟩
  | true =>
    by_cases h2 : 1 ≤ x
    · by_cases h3 : x ≤ 999999999
      · have HB : Hid ((hintTI t && hnW x) = true) := by simp [Hid, hnW, h1, h2, h3]
        go_wp2
        go_ret
        exact ⟨ret_bool HB.out.symm, hw1⟩
      · have HB : Hid ((hintTI t && hnW x) = false) := by simp [Hid, hnW, h1, h2]; omega
        have h3d : decide (x ≤ 999999999) = false := by simpa using h3
        go_wp2
        go_ret
        exact ⟨ret_bool HB.out.symm, hw1⟩
    · have HB : Hid ((hintTI t && hnW x) = false) := by simp [Hid, hnW, h1]; omega
      have h2d : decide (1 ≤ x) = false := by simpa using h2
      go_wp2
      go_ret
      exact ⟨ret_bool HB.out.symm, hw1⟩

theorem wtx_len (s : ByteArray) : (wtx s).length = (wordsOn s 0).length := by simp [wtx]
theorem wtx_cell {w : World} {B g c : Nat} {s : ByteArray} (h : w.ownsRow B 82 3 (.slice (some ⟨g, 0, none⟩) (wordsOn s 0).length c) (wordsOn s 0).length (wordCells s (wordsOn s 0))) (k : Nat) (hk : k < (wtx s).length) : w.cell? ⟨g, k * 3, none⟩ = some (.string (pat (wtx s) k)) := by
  have hk' : k < (wordsOn s 0).length := by rw [← wtx_len]; exact hk
  rw [h.cellAt (k * 3) (by omega)]
  have : ∀ (l : List (Nat × Nat)) (k : Nat) (hk : k < l.length), (wordCells s l)[k * 3]? = some (.string (s.extract l[k].1 l[k].2)) := by
    intro l
    induction l with
    | nil => intro k hk; exact absurd hk (by simp)
    | cons x l ih =>
      intro k hk
      cases k with
      | zero => rfl
      | succ k =>
        have h2 := ih k (by simpa using hk)
        rw [show (k + 1) * 3 = k * 3 + 1 + 1 + 1 by omega]
        exact h2
  rw [this _ k hk', pat_get _ _ hk]
  simp [wtx]

set_option maxHeartbeats 1000000 in
theorem l5Words_any (s : ByteArray) (w : World) (hs : s.size ≤ 60) :
    Calls Tryd.prog 57 #[.string s] w fun e w' => e = .returned (.int .i64 (l5W s : Nat)) ∧ Below w.heap.size w w' := by
  have hN : (wtx s).length ≤ 60 := by rw [wtx_len]; have := wordsOn_len s s.size 0 (by omega); omega
  have HZ : Hid (∀ k, k ≤ (wtx s).length → (jw s k).size ≤ 101 * k) := fun k hk => jw_size s (by omega) k hk
  have HWL := wtx_len s
  go_enter Tryd.func57, Tryd.ntmps57
  go_wp2_with fail
  refine (wordsS_any s _ (by omega)).mono ?_
  rintro e w1 ⟨g, c, rfl, hown, hb1⟩
  have HC : Hid (∀ k, k < (wtx s).length → w1.cell? ⟨g, k * 3, none⟩ = some (.string (pat (wtx s) k))) := fun k hk => wtx_cell hown k hk
  rw [← HWL]
  have HL5 : Hid (l5W s = if ((jw s (wtx s).length).toList == s.toList) = true then (wtx s).length else 0) := rfl
  have HPZ : Hid (∀ k, k < (wtx s).length → (pat (wtx s) k).size ≤ 60) := fun k hk => by
    rw [pat_get _ _ hk]
    obtain ⟨x, hx, e⟩ := List.mem_map.1 (List.getElem_mem (l := wtx s) (n := k) hk)
    rw [← e, ByteArray.size_extract]
    omega
  obtain ⟨n, hn⟩ : ∃ n, (wtx s).length = n := ⟨_, rfl⟩
  rw [hn] at hN HZ HC HL5 HPZ
  rw [hn]
  clear HWL hown hn
  go_wp2
  go_loop [4, 5] (fun o i => ∃ k : Nat, k ≤ n ∧ i = .int .i64 k ∧ o = .string (jw s k)) (fun _ i => n - (intOf i).toNat)
  case atStart => exact ⟨0, Nat.zero_le _, rfl, rfl⟩
  case round =>
    obtain ⟨k, hk, rfl, rfl⟩ := hrel
    have hzk := HZ.out k hk
    by_cases hlt : k < n
    · have hks : (k : Int) < (n : Int) := by omega
      have c0 := HC.out k hlt
      have hpz := HPZ.out k hlt
      have HJ : Hid (jw s (k + 1) = (if k = 0 then jw s k else jw s k ++ ⟨#[32]⟩) ++ pat (wtx s) k) := rfl
      generalize pat (wtx s) k = p at *
      by_cases h0 : k = 0
      · subst h0
        have HJ2 : Hid (jw s (0 + 1) = jw s 0 ++ p) := HJ.out
        clear HJ
        generalize jw s 0 = q at *
        go_wp2
        go_round
        case rel => exact ⟨0 + 1, by omega, by go_num, by rw [HJ2.out]⟩
        case measure => simp [intOf]; omega
      · have hk0 : (0 : Int) < (k : Int) := by omega
        have HJ2 : Hid (jw s (k + 1) = jw s k ++ ⟨#[32]⟩ ++ p) := by unfold Hid; rw [HJ.out, if_neg h0]
        clear HJ
        generalize jw s k = q at *
        go_wp2
        go_round
        case rel => exact ⟨k + 1, by omega, by go_num, by rw [HJ2.out]⟩
        case measure => simp [intOf]; omega
    · have hkl : k = n := by omega
      subst hkl
      have hl5 := HL5.out
      clear HL5
      generalize jw s k = q at *
      cases hb : (q.toList == s.toList) with
      | false =>
        rw [hb] at hl5
        have H5 : Hid (l5W s = 0) := hl5
        clear hl5
        go_wp2
        go_ret
        exact ⟨by rw [H5.out]; rfl, hb1⟩
      | true =>
        rw [hb] at hl5
        have H5 : Hid (l5W s = k) := hl5
        clear hl5
        go_wp2
        go_ret
        exact ⟨by rw [H5.out]; rfl, hb1⟩

set_option maxHeartbeats 1000000 in
theorem l9Ok_any (s : ByteArray) (w : World) (hs : s.size ≤ 1048576) :
    Calls Tryd.prog 36 #[.string s] w fun e w' => e = .returned (.bool (hintTI s)) ∧ Below w.heap.size w w' := by
  rw [← hint_same]
  have hms : s.size ≤ maxLen := by unfold maxLen; omega
  cases h1 : textB s with
  | false =>
    have HB : Hid (hintTS s = false) := by unfold Hid hintTS; rw [h1]; rfl
    go_enter Tryd.func36, Tryd.ntmps36
    go_wp2_with fail
    refine (l2Text_any s _ hms).mono ?_
    rintro e w1 ⟨rfl, rfl⟩
    rw [h1]
    go_wp2
    go_ret
    exact ⟨ret_bool HB.out.symm, Below.refl _ _⟩
  | true =>
    have h60 : s.size ≤ 60 := by simp [textB] at h1; omega
    by_cases h5 : 0 < l5W s
    · have HB : Hid (hintTS s = foldEq s) := by unfold Hid hintTS; rw [h1]; simp [h5]
      have HFE : Hid (foldEq s = ((foldA s).toList == s.toList)) := rfl
      have h5i : (0 : Int) < (l5W s : Int) := by omega
      go_enter Tryd.func36, Tryd.ntmps36
      go_wp2_with fail
      refine (l2Text_any s _ hms).mono ?_
      rintro e w1 ⟨rfl, rfl⟩
      rw [h1]
      clear h1
      go_wp2_with fail
      refine (l5Words_any s _ h60).mono ?_
      rintro e w2 ⟨rfl, hb2⟩
      generalize l5W s = n5 at *
      go_wp2_with fail
      refine (foldS_any s _ (by omega)).mono ?_
      rintro e w3 ⟨rfl, hb3⟩
      generalize foldA s = f at *
      go_wp2
      go_ret
      exact ⟨ret_bool (by rw [HB.out, HFE.out]), below_trans hb2 hb3⟩
    · have HB : Hid (hintTS s = false) := by unfold Hid hintTS; rw [h1]; simp [h5]
      have h5i : decide ((0 : Int) < (l5W s : Int)) = false := decide_eq_false (by omega)
      go_enter Tryd.func36, Tryd.ntmps36
      go_wp2_with fail
      refine (l2Text_any s _ hms).mono ?_
      rintro e w1 ⟨rfl, rfl⟩
      rw [h1]
      clear h1
      go_wp2_with fail
      refine (l5Words_any s _ h60).mono ?_
      rintro e w2 ⟨rfl, hb2⟩
      generalize l5W s = n5 at *
      go_wp2
      go_ret
      exact ⟨ret_bool HB.out.symm, hb2⟩
end Go.Proofs.YtgmfaganaeibkaaDoor
