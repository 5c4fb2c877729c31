/- Numbers and tags of a cell: numGet, l1Number, the contents' ok, contentOf. -/
import Derived.Test.YtjjfabemhdhppaaGreatDoorDocOkPlain
import Derived.Test.YtjjfabemhdhppaaGreatDoorFigsI
import Derived.Test.YtjjfabemhdhppaaGreatDoorSplitAny
import Derived.Test.YtjjfabemhdhppaaGreatDoorShelf
namespace Go.Proofs.YtjjfabemhdhppaaGreatDoor
open Go.RowKit
set_option linter.unusedVariables false

def numV (s : ByteArray) : Int := if below0 s then -(numB (s.extract 1 s.size) : Int) else (numB s : Int)
def numW (s : ByteArray) : Int := if numT s = true then numV s else 0
theorem numW_no {s : ByteArray} (h : numT s = false) : numW s = 0 := by unfold numW; rw [h]; rfl
theorem numW_yes {s : ByteArray} (h : numT s = true) : numW s = numV s := by unfold numW; rw [h]; rfl
theorem prefix_dash (s : ByteArray) : Lib.hasPrefix s.data.toList [45] = below0 s ∧ (⟨(Lib.trimPrefix s.data.toList [45]).toArray⟩ : ByteArray) = if below0 s then s.extract 1 s.size else s := by
  have h1 : Lib.hasPrefix s.data.toList [45] = below0 s := by
    unfold Lib.hasPrefix below0
    cases hl : s.data.toList with
    | nil =>
      have : s.size = 0 := by have := congrArg List.length hl; simpa using this
      simp [this]
    | cons b l =>
      have hz : 0 < s.size := by have := congrArg List.length hl; simp at this; omega
      have hb : byteAt s 0 = (b.toNat : Int) := by unfold byteAt; rw [hl]; rfl
      rw [hb, decide_eq_true hz, Bool.true_and]
      cases e : decide (b = 45) with
      | true =>
        have := of_decide_eq_true e
        subst this
        rfl
      | false =>
        have e2 := of_decide_eq_false e
        rw [show decide ((b.toNat : Int) = 45) = false from by
          rw [decide_eq_false_iff_not]
          intro h
          exact e2 (UInt8.toNat_inj.1 (by show b.toNat = 45; omega))]
        simp [List.isPrefixOf]
        exact fun h => e2 h.symm
  refine ⟨h1, ?_⟩
  unfold Lib.trimPrefix
  rw [h1]
  cases h : below0 s with
  | false => simp
  | true =>
    simp only [if_true]
    apply ba_ext
    rw [ByteArray.data_extract, Array.toList_extract, List.extract_eq_take_drop, List.take_of_length_le (by simp)]
    rfl
theorem numGet_any (s : ByteArray) (w : World) (hs : s.size ≤ 1048576) :
    Calls Tryz.prog 51 #[.string s] w fun e w' => e = .returned (.tuple #[.int .i64 (numW s), .bool (numT s)]) ∧ w' = w := by
  obtain ⟨h1, h2⟩ := prefix_dash s
  have HC : Hid (∀ wx, Calls Tryz.prog 58 #[.string s, .string ⟨#[45]⟩] wx fun e w' => e = .returned (.tuple #[.string (if below0 s then s.extract 1 s.size else s), .bool (below0 s)]) ∧ w' = wx) := fun wx => by
    have := Tryz.strings_CutPrefix s ⟨#[45]⟩ wx
    rw [show (⟨#[45]⟩ : ByteArray).data.toList = [45] from rfl, h1, h2] at this
    exact this
  clear h1 h2
  cases hb : below0 s with
  | true =>
    rw [hb] at HC
    have HT : Hid (numT s = (figB (s.extract 1 s.size) && decide (numB (s.extract 1 s.size) ≠ 0))) := by unfold Hid numT; rw [hb]; rfl
    have HV : Hid (numV s = -(numB (s.extract 1 s.size) : Int)) := by unfold Hid numV; rw [hb]; rfl
    simp only [if_true] at HC
    have hez : (s.extract 1 s.size).size ≤ maxLen := by rw [ByteArray.size_extract]; unfold maxLen; omega
    generalize s.extract 1 s.size = f at *
    have hn9 : figB f = true → numB f ≤ 999999999 := fun h => numB_bd f h
    cases hf : figB f with
    | false =>
      rw [hf] at HT
      have HT2 : Hid (numT s = false) := HT.out
      go_enter Tryz.func51, Tryz.ntmps51
      go_wp2_with fail
      refine (HC.out _).mono ?_
      rintro e w1 ⟨rfl, rfl⟩
      go_wp2_with fail
      refine (figuresGet_any f _ hez).mono ?_
      rintro e w1 ⟨rfl, rfl⟩
      rw [hf]
      go_wp2
      go_ret2
      exact ⟨by rw [numW_no HT2.out, HT2.out]; rfl, rfl⟩
    | true =>
      have HG : Hid (figG f = (numB f : Int)) := figG_yes hf
      have hn := hn9 hf
      rw [hf] at HT
      generalize numB f = n at *
      by_cases h0 : n = 0
      · have HT2 : Hid (numT s = false) := by unfold Hid; rw [HT.out, h0]; rfl
        subst h0
        go_enter Tryz.func51, Tryz.ntmps51
        go_wp2_with fail
        refine (HC.out _).mono ?_
        rintro e w1 ⟨rfl, rfl⟩
        go_wp2_with fail
        refine (figuresGet_any f _ hez).mono ?_
        rintro e w1 ⟨rfl, rfl⟩
        rw [hf, HG.out]
        go_wp2
        go_ret2
        exact ⟨by rw [numW_no HT2.out, HT2.out]; rfl, rfl⟩
      · have HT2 : Hid (numT s = true) := by unfold Hid; rw [HT.out]; simp [h0]
        have h0b : ((n : Int) == 0) = false := by rw [beq_eq_false_iff_ne]; omega
        go_enter Tryz.func51, Tryz.ntmps51
        go_wp2_with fail
        refine (HC.out _).mono ?_
        rintro e w1 ⟨rfl, rfl⟩
        go_wp2_with fail
        refine (figuresGet_any f _ hez).mono ?_
        rintro e w1 ⟨rfl, rfl⟩
        rw [hf, HG.out]
        go_wp2
        go_ret2
        exact ⟨by rw [numW_yes HT2.out, HT2.out, HV.out]; rfl, rfl⟩
  | false =>
    rw [hb] at HC
    have HT : Hid (numT s = figB s) := by unfold Hid numT; rw [hb]; rfl
    have HV : Hid (numV s = (numB s : Int)) := by unfold Hid numV; rw [hb]; rfl
    simp only [Bool.false_eq_true, if_false] at HC
    have hez : s.size ≤ maxLen := by unfold maxLen; omega
    cases hf : figB s with
    | false =>
      rw [hf] at HT
      go_enter Tryz.func51, Tryz.ntmps51
      go_wp2_with fail
      refine (HC.out _).mono ?_
      rintro e w1 ⟨rfl, rfl⟩
      go_wp2_with fail
      refine (figuresGet_any s _ hez).mono ?_
      rintro e w1 ⟨rfl, rfl⟩
      rw [hf]
      go_wp2
      go_ret2
      exact ⟨by rw [numW_no HT.out, HT.out]; rfl, rfl⟩
    | true =>
      have HG : Hid (figG s = (numB s : Int)) := figG_yes hf
      rw [hf] at HT
      go_enter Tryz.func51, Tryz.ntmps51
      go_wp2_with fail
      refine (HC.out _).mono ?_
      rintro e w1 ⟨rfl, rfl⟩
      go_wp2_with fail
      refine (figuresGet_any s _ hez).mono ?_
      rintro e w1 ⟨rfl, rfl⟩
      rw [hf, HG.out]
      go_wp2
      go_ret2
      exact ⟨by rw [numW_yes HT.out, HT.out, HV.out]; rfl, rfl⟩
theorem numOk_any (s : ByteArray) (w : World) (hs : s.size ≤ 1048576) :
    Calls Tryz.prog 118 #[.string s] w fun e w' => e = .returned (.bool (numT s)) ∧ Below w.heap.size w w' := by
  go_enter Tryz.func118, Tryz.ntmps118
  go_wp2_with fail
  refine (numGet_any s _ hs).mono ?_
  rintro e w1 ⟨rfl, rfl⟩
  go_wp2
  go_ret
  exact ⟨rfl, Below.refl _ _⟩
theorem textCOk_any (s : ByteArray) (w : World) (hs : s.size ≤ 1048576) :
    Calls Tryz.prog 120 #[.string s] w fun e w' => e = .returned (.bool (textB s)) ∧ Below w.heap.size w w' := by
  go_enter Tryz.func120, Tryz.ntmps120
  go_wp2_with fail
  refine (textOk_any s _ (by unfold maxLen; omega)).mono ?_
  rintro e w1 ⟨rfl, rfl⟩
  go_wp2
  go_ret
  exact ⟨rfl, Below.refl _ _⟩
set_option maxHeartbeats 1000000 in
theorem tagOk_any (s : ByteArray) (w : World) (hs : s.size ≤ 1048576) (hm : MaxL w) :
    Calls Tryz.prog 119 #[.string s] w fun e w' => e = .returned (.bool (tagT s)) ∧ Below w.heap.size w w' := by
  have hlen : (tparts s).length = manyB 44 s + 1 := cuts_full_len 44 s
  have hmn := manyB_le 44 s
  have HSZ : Hid (∀ i, i < (tparts s).length → (pat (tparts s) i).size ≤ 1048576) := fun i hi => by have := pat_size 44 (manyB 44 s) s i hi; unfold tparts; omega
  have HSP : Hid (∀ w, MaxL w → Calls Tryz.prog 60 #[.string s, .string ⟨#[44]⟩] w fun e w' => ∃ g, e = .returned (.slice (some ⟨g, 0, none⟩) (manyB 44 s + 1) (manyB 44 s + 1)) ∧ StrRow w' (some ⟨g, 0, none⟩) (cuts 44 (manyB 44 s) s) ∧ Below w.heap.size w w') := fun w hm => split_any s 44 w hs hm
  obtain ⟨ps, hps⟩ : ∃ ps, tparts s = ps := ⟨_, rfl⟩
  have HI : Hid (tagT s = (ps.all nameI && decide (ps.length ≤ 4))) := by unfold Hid tagT; rw [hps]
  have HPS : Hid (cuts 44 (manyB 44 s) s = ps) := hps
  rw [hps] at hlen HSZ
  rw [HPS.out] at HSP
  rw [← hlen] at HSP
  have hpl : ps.length ≤ 1048577 := by omega
  clear hlen hmn hps HPS
  go_enter Tryz.func119, Tryz.ntmps119
  go_wp2_with fail
  refine (HSP.out _ hm).mono ?_
  rintro e w2 ⟨g, rfl, hrow, hw2⟩
  have HR : Hid (StrRow w2 (some ⟨g, 0, none⟩) ps) := hrow
  clear HSP hm hrow
  go_wp2
  go_loop [10] (fun i => ∃ k : Nat, k ≤ ps.length ∧ i = .int .i64 k ∧ allTo (fun j => nameI (pat ps j)) k = true) (fun i => ps.length - (intOf i).toNat)
  case atStart => exact ⟨0, Nat.zero_le _, rfl, rfl⟩
  case round =>
    obtain ⟨k, hk, rfl, ha⟩ := hrel
    have HA : Hid (allTo (fun j => nameI (pat ps j)) k = true) := ha
    clear ha
    by_cases hlt : k < ps.length
    · have hks : (k : Int) < (ps.length : Int) := by omega
      obtain ⟨g', e, hg, hc⟩ := HR.out (by omega)
      cases e
      have c1 : w2.cell? ⟨g, k, none⟩ = some (.string (pat ps k)) := hc k hlt
      have hz := HSZ.out k hlt
      have HNO : Hid (nameI (pat ps k) = false → ps.all nameI = false) := fun h => by
        rw [List.all_eq_false]
        exact ⟨ps[k], List.getElem_mem _, by rw [← pat_get _ _ hlt, h]; decide⟩
      have HYS : Hid (nameI (pat ps k) = true → allTo (fun j => nameI (pat ps j)) (k + 1) = true) := fun h => allTo_snoc _ k HA.out h
      clear hc
      generalize pat ps k = p at *
      go_wp2_with fail
      refine (nameI_any p _ (by unfold maxLen; omega)).mono ?_
      rintro e _ ⟨rfl, rfl⟩
      cases hb : nameI p with
      | false =>
        have HB : Hid (tagT s = false) := by unfold Hid; rw [HI.out, HNO.out hb]; rfl
        go_wp2
        go_ret
        exact ⟨ret_bool HB.out.symm, hw2⟩
      | true =>
        have HYH : Hid (allTo (fun j => nameI (pat ps j)) (k + 1) = true) := HYS.out hb
        go_wp2
        go_round
        case rel => exact ⟨k + 1, by omega, by go_num, HYH.out⟩
        case measure => simp [intOf]; omega
    · have hkl : k = ps.length := by omega
      have HB : Hid (tagT s = decide ((ps.length : Int) ≤ 4)) := by
        unfold Hid
        rw [HI.out, show ps.all nameI = true from by
          rw [List.all_eq_true]
          intro x hx
          obtain ⟨i, hi, rfl⟩ := List.getElem_of_mem hx
          have := (allTo_iff _ _).1 HA.out i (by omega)
          rw [← pat_get _ _ hi]
          exact this, Bool.true_and]
        exact decide_eq_decide.2 (by omega)
      subst hkl
      go_wp2
      go_ret
      exact ⟨ret_bool HB.out.symm, hw2⟩
def ctype (k : Int) : TypeId := if k = 2 then 88 else if k = 3 then 89 else 91
theorem contentOf_any (k : Int) (s : ByteArray) (w : World) : Calls Tryz.prog 43 #[.int .i64 k, .string s] w fun e w' => e = .returned (.iface (ctype k) (.string s)) ∧ w' = w := by
  by_cases h2 : k = 2
  · subst h2
    go_enter Tryz.func43, Tryz.ntmps43
    go_wp2
    go_ret
    exact ⟨rfl, rfl⟩
  have h2b : (k == 2) = false := by simpa using h2
  by_cases h3 : k = 3
  · subst h3
    go_enter Tryz.func43, Tryz.ntmps43
    go_wp2
    go_ret
    exact ⟨rfl, rfl⟩
  have h3b : (k == 3) = false := by simpa using h3
  have HC : Hid (ctype k = 91) := by unfold Hid ctype; rw [if_neg h2, if_neg h3]
  go_enter Tryz.func43, Tryz.ntmps43
  go_wp2
  go_ret
  exact ⟨by rw [HC.out]; rfl, rfl⟩
end Go.Proofs.YtjjfabemhdhppaaGreatDoor
