/- slices.BinarySearchFunc over hints: the place of a text. -/
import Derived.Test.YtgmfaganaeibkaaDoorHintPos
import Derived.Test.YtgmfaganaeibkaaDoorStillOne
import Derived.Test.YtgmfaganaeibkaaDoorTagsPlain
import Derived.Test.YtgmfaganaeibkaaDoorStillFrom
namespace Go.Proofs.YtgmfaganaeibkaaDoor
open Go.RowKit
set_option linter.unusedVariables false

theorem wpStill_want {P : Program} {ops : Array Oper} {w : World} {Q : Act → Prop} {a : Act} {o : Oper} {rest : List Oper} (hw : Region.wanted o (yielded ops a.tmps) = true)
    (h : ∀ K : Act → Prop, (∀ a, wpStill P ops w Q rest a → K a) → o.still P a w K) : wpStill P ops w Q (o :: rest) a := by
  unfold wpStill
  rw [if_pos hw]
  exact h _ (fun _ h => h)
theorem oneK_want {P : Program} {l : List Oper} {n : Nat} {Q : Exit → Act → World → Prop} {o : Oper} {w : World} {a : Act} (hw : Region.wanted o (yielded l.toArray a.tmps) = true)
    (h : o.wp P a w (fun a' w' => RestK P l n Q w' a') Q) : OneK P l n Q o w a := by
  unfold OneK
  rw [if_pos hw]
  exact h
/-- Hints are by text. -/
def AscH (hs : List Hn) : Prop := ∀ i j, i < j → j < hs.length → Op.bytesLess (hnat hs i).text.toList (hnat hs j).text.toList = true
def LowH (hs : List Hn) (t : ByteArray) (i j : Nat) : Prop := (∀ m, m < i → ltH hs t m = true) ∧ ∀ m, j ≤ m → m < hs.length → ltH hs t m = false
theorem less_trans (a b c : List UInt8) (h1 : Op.bytesLess a b = true) (h2 : Op.bytesLess b c = true) : Op.bytesLess a c = true := by
  rw [bytesLess_lt] at h1 h2 ⊢
  exact decide_eq_true (List.lt_trans (of_decide_eq_true h1) (of_decide_eq_true h2))
theorem LowH.up {hs : List Hn} {t : ByteArray} {i j h : Nat} (ho : AscH hs) (hl : LowH hs t i j) (hh : h < hs.length) (h1 : ltH hs t h = true) : LowH hs t (h + 1) j := by
  refine ⟨fun m hm => ?_, hl.2⟩
  by_cases e : m = h
  · subst e; exact h1
  · exact less_trans _ _ _ (ho m h (by omega) hh) h1
theorem LowH.down {hs : List Hn} {t : ByteArray} {i j h : Nat} (ho : AscH hs) (hl : LowH hs t i j) (hh : h < hs.length) (h1 : ltH hs t h = false) : LowH hs t i h := by
  refine ⟨hl.1, fun m hm hml => ?_⟩
  by_cases e : m = h
  · subst e; exact h1
  · cases hc : ltH hs t m with
    | false => rfl
    | true =>
      have := less_trans _ _ _ (ho h m (by omega) hml) hc
      unfold ltH at h1
      rw [this] at h1
      cases h1
set_option maxRecDepth 100000 in
set_option maxHeartbeats 2000000 in
theorem searchH_any (a : Option Addr) (cap : Nat) (hs : List Hn) (t : ByteArray) (x : Int) (w : World) (hz : hs.length ≤ 1048576) (ho : AscH hs) (hr : HnRow w a hs) :
    Calls Tryd.prog 32 #[.slice a hs.length cap, .agg #[.string t, .int .i64 x], .func (.func 33) #[] #[]] w fun e w' => ∃ k : Nat, e = .returned (.tuple #[.int .i64 k, .bool (hereH hs t k)]) ∧ PosH hs t k ∧ Below w.heap.size w w' := by
  have HR : Hid (HnRow w a hs) := hr
  have HO : Hid (AscH hs) := ho
  have B0 := Blk.new w #[.string t, .int .i64 x] 31
  have hb0 : Below w.heap.size w (w.alloc (.cells #[.string t, .int .i64 x] 31)) := (Below.refl _ w).alloc (Nat.le_refl _) _
  clear hr ho
  go_enter Tryd.func32, Tryd.ntmps32
  go_wp2
  go_loopw [9, 10] (fun vi vj wr => ∃ i j : Nat, vi = .int .i64 i ∧ vj = .int .i64 j ∧ i ≤ j ∧ j ≤ hs.length ∧ LowH hs t i j ∧ Blk wr w.heap.size #[.string t, .int .i64 x] 31 ∧ Below w.heap.size w wr) (fun vi vj _ => (intOf vj).toNat - (intOf vi).toNat)
  case atStart => exact ⟨0, hs.length, rfl, rfl, Nat.zero_le _, Nat.le_refl _, ⟨fun m hm => absurd hm (Nat.not_lt_zero _), fun m h1 h2 => by omega⟩, B0, hb0⟩
  case round =>
    obtain ⟨i, j, rfl, rfl, hij, hj, hl, hB, hbel⟩ := hrel
    have HL : Hid (LowH hs t i j) := hl
    clear hl B0 hb0
    by_cases hlt : i < j
    · obtain ⟨g, off, rfl, hg, hc⟩ := (HR.out.below hbel) (by omega)
      obtain ⟨c0, c1⟩ := hc ((i + j) / 2) (by omega)
      have HLT : Hid (ltH hs t ((i + j) / 2) = Op.bytesLess (hnat hs ((i + j) / 2)).text.toList t.toList) := rfl
      have b0 := hB.cell 0
      have b1 := hB.cell 1
      simp at b0 b1
      generalize hnat hs ((i + j) / 2) = h0 at *
      obtain ⟨tx, x0⟩ := h0
      simp only at c0 c1 HLT
      clear hc
      have hq : ((i : Int) + (j : Int)) / 2 = (((i + j) / 2 : Nat) : Int) := by omega
      have HUP : Hid (ltH hs t ((i + j) / 2) = true → LowH hs t ((i + j) / 2 + 1) j) := HL.out.up HO.out (by omega)
      have HDN : Hid (ltH hs t ((i + j) / 2) = false → LowH hs t i ((i + j) / 2)) := HL.out.down HO.out (by omega)
      obtain ⟨q, hqe⟩ : ∃ q, (i + j) / 2 = q := ⟨_, rfl⟩
      have hqi : i ≤ q := by omega
      have hqj : q < j := by omega
      have hql : (q : Int) < (hs.length : Int) := by omega
      rw [hqe] at HUP HDN HLT c0 c1 hq
      clear hqe
      go_wp2_with fail
      clear hq
      refine wp_region_still_one 6 (by kernel_rfl) (by kernel_rfl) rfl ?_
      simp only [List.take_succ_cons, List.take_zero]
      still_step
      still_step
      still_step
      still_step
      still_step
      still_step
      refine wpStill_nil ?_
      unfold OneK
      go_simp
      go_at_call 33
      refine (against_any tx t x0 x _).mono ?_
      rintro e w2 ⟨rfl, hb2d⟩
      have hb2 : Below wr.heap.size wr w2 := ⟨hb2d.os, hb2d.tape, hb2d.output, hb2d.size, hb2d.block⟩
      have B2 := hB.below hb2 hB.lt
      have hw2 := hbel.trans (hb2.mono hbel.size)
      clear hb2d hb2 hB b0 b1 c0 c1 hbel
      unfold RestK
      simp only [List.drop_succ_cons, List.drop_zero]
      cases hl : Op.bytesLess tx.toList t.toList with
      | true =>
        have hcm : cmpT tx t = -1 := by unfold cmpT; rw [hl]; rfl
        rw [hcm]
        have HS : Hid (LowH hs t (q + 1) j) := HUP.out (by rw [HLT.out, hl])
        clear HUP HDN HLT hcm
        repeat (go_big_quiet_step (fail))
        refine wpQuiet_nil ?_
        intro _ hw'
        obtain ⟨nq, hw''⟩ := hw'
        subst hw''
        go_wp2
        go_roundw
        case rel => exact ⟨q + 1, j, by go_num, rfl, by omega, hj, HS.out, B2.below (below_drewN (Below.refl _ _) nq) B2.lt, below_drewN hw2 nq⟩
        case measure => simp [intOf]; omega
      | false =>
        have hcm : decide (cmpT tx t < 0) = false := by
          unfold cmpT
          rw [hl]
          simp only [Bool.false_eq_true, if_false]
          split <;> rfl
        generalize cmpT tx t = cc at *
        have HS : Hid (LowH hs t i q) := HDN.out (by rw [HLT.out, hl])
        clear HUP HDN HLT
        repeat (go_big_quiet_step (fail))
        refine wpQuiet_nil ?_
        intro _ hw'
        obtain ⟨nq, hw''⟩ := hw'
        subst hw''
        go_wp2
        go_roundw
        case rel => exact ⟨i, q, rfl, rfl, hqi, by omega, HS.out, B2.below (below_drewN (Below.refl _ _) nq) B2.lt, below_drewN hw2 nq⟩
        case measure => simp [intOf]; omega
    · obtain rfl : i = j := by omega
      have HP : Hid (PosH hs t i) := ⟨hj, (allTo_iff _ _).2 HL.out.1, fun h => HL.out.2 i (Nat.le_refl _) h⟩
      by_cases hn : i < hs.length
      · obtain ⟨g, off, rfl, hg, hc⟩ := (HR.out.below hbel) (by omega)
        obtain ⟨c0, c1⟩ := hc i hn
        have HH : Hid (hereH hs t i = ((hnat hs i).text.toList == t.toList)) := by unfold Hid hereH; rw [decide_eq_true hn, Bool.true_and]
        have HLF : Hid (Op.bytesLess (hnat hs i).text.toList t.toList = false) := HL.out.2 i (Nat.le_refl _) hn
        have b0 := hB.cell 0
        have b1 := hB.cell 1
        simp at b0 b1
        generalize hnat hs i = h0 at *
        obtain ⟨tx, x0⟩ := h0
        simp only at c0 c1 HH HLF
        have hni : (i : Int) < (hs.length : Int) := by omega
        clear hc
        go_wp2_with fail
        refine wp_region_still_from 11 (.int .i64 i) (by kernel_rfl) (by kernel_rfl) rfl rfl (by decide) (fun _ _ _ h => h) (.inl ⟨rfl, fun _ => rfl⟩) ?_
        simp only [List.take_succ_cons, List.take_zero, List.drop_succ_cons, List.drop_zero]
        still_step
        still_step
        still_step
        still_step
        refine wpStill_want rfl (fun K hK => ?_)
        go_simp
        refine hK _ ?_
        clear hK K
        refine wpStill_want rfl (fun K hK => ?_)
        go_simp
        refine hK _ ?_
        clear hK K
        refine wpStill_want rfl (fun K hK => ?_)
        go_simp
        refine hK _ ?_
        clear hK K
        refine wpStill_want rfl (fun K hK => ?_)
        go_simp
        refine hK _ ?_
        clear hK K
        refine wpStill_want rfl (fun K hK => ?_)
        go_simp
        refine hK _ ?_
        clear hK K
        refine wpStill_want rfl (fun K hK => ?_)
        go_simp
        refine hK _ ?_
        clear hK K
        refine wpStill_nil ?_
        refine oneK_want rfl ?_
        go_simp
        go_at_call 33
        refine (against_any tx t x0 x _).mono ?_
        rintro e w2 ⟨rfl, hb2d⟩
        have hb2 : Below wr.heap.size wr w2 := ⟨hb2d.os, hb2d.tape, hb2d.output, hb2d.size, hb2d.block⟩
        have hw2 := hbel.trans (hb2.mono hbel.size)
        have hcm : cmpT tx t = if (tx.toList == t.toList) then 0 else 1 := by unfold cmpT; rw [HLF.out]; rfl
        clear hb2d hb2 hB b0 b1 c0 c1 hbel HLF
        unfold RestK
        simp only [List.drop_succ_cons, List.drop_zero]
        rw [hcm]
        clear hcm
        cases he : (tx.toList == t.toList) with
        | true =>
          rw [he] at HH
          simp only [if_true]
          repeat (go_big_quiet_step (fail))
          refine wpQuiet_nil ?_
          intro _ hw'
          obtain ⟨nq, hw''⟩ := hw'
          subst hw''
          go_wp2
          go_ret2
          exact ⟨i, by rw [HH.out]; rfl, HP.out, below_drewN hw2 nq⟩
        | false =>
          rw [he] at HH
          simp only [Bool.false_eq_true, if_false]
          repeat (go_big_quiet_step (fail))
          refine wpQuiet_nil ?_
          intro _ hw'
          obtain ⟨nq, hw''⟩ := hw'
          subst hw''
          go_wp2
          go_ret2
          exact ⟨i, by rw [HH.out]; rfl, HP.out, below_drewN hw2 nq⟩
      · obtain rfl : i = hs.length := by omega
        have HH : Hid (hereH hs t hs.length = false) := by unfold Hid hereH; rw [decide_eq_false hn]; rfl
        go_wp2
        go_quiet (fail)
        go_wp2
        go_ret2
        exact ⟨hs.length, by rw [HH.out]; rfl, HP.out, below_drewN hbel _⟩
end Go.Proofs.YtgmfaganaeibkaaDoor
