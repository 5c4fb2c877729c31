/- impl.fieldGet: what is read of one part. -/
import Derived.Test.YtelkaieknliflaaDoorFldGetPlain
import Derived.Test.YtelkaieknliflaaDoorFigsI
import Derived.Test.YtelkaieknliflaaDoorCutAny
import Derived.Test.YtelkaieknliflaaDoorClone
import Derived.Test.YtelkaieknliflaaDoorBlk
namespace Go.Proofs.YtelkaieknliflaaDoor
open Go.RowKit
set_option linter.unusedVariables false

def resF (p : ByteArray) : Fld := if gok p then gfld p else ⟨⟨#[]⟩, 0, 0⟩
theorem cut58_any (p : ByteArray) (w : World) (hs : p.size ≤ 1048576) (hm : MaxL w) :
    Calls Tryd.prog 40 #[.string p, .string ⟨#[58]⟩] w fun e w' => ∃ b, e = .returned (.tuple #[.string (nameOf p), .string (restOf p), .bool b]) ∧ Below w.heap.size w w' := by
  cases h : two 58 p with
  | true =>
    refine (cut_yes p 58 w hs hm h).mono ?_
    rintro e w' ⟨rfl, hb⟩
    exact ⟨true, by rw [rest_yes h]; rfl, hb⟩
  | false =>
    refine (cut_no p 58 w hs hm h).mono ?_
    rintro e w' ⟨rfl, hb⟩
    exact ⟨false, by rw [(rest_no h).1, (rest_no h).2], hb⟩
theorem restOf_size (p : ByteArray) : (restOf p).size ≤ p.size ∧ (nameOf p).size ≤ p.size := by
  cases h : two 58 p with
  | true =>
    have h1 := pat_size 58 1 p 1 (by rw [two_len h]; omega)
    have h2 := pat_size 58 1 p 0 (by rw [two_len h]; omega)
    exact ⟨by rw [rest_yes h]; exact h1, h2⟩
  | false => rw [(rest_no h).1, (rest_no h).2]; exact ⟨Nat.zero_le _, Nat.le_refl _⟩

theorem blk3 {W : World} {b : Nat} {a0 a1 a2 : Value} {t : TypeId} (h : Blk W b #[a0, a1, a2] t) (x y z : Value) :
    Blk (((W.setCell ⟨b, 0, none⟩ x).setCell ⟨b, 1, none⟩ y).setCell ⟨b, 2, none⟩ z) b #[x, y, z] t := by
  have h3 := ((h.set 0 x).set 1 y).set 2 z
  simpa using h3
theorem num_list : sNum.toList = [110, 117, 109] := by rw [ByteArray.toList_eq]
theorem tag_list : sTag.toList = [116, 97, 103] := by rw [ByteArray.toList_eq]
theorem blk3_cells {W : World} {b : Nat} {x y z : Value} {t : TypeId} (h : Blk W b #[x, y, z] t) : W.cell? ⟨b, 0, none⟩ = some x ∧ W.cell? ⟨b, 1, none⟩ = some y ∧ W.cell? ⟨b, 2, none⟩ = some z := ⟨h.cell 0, h.cell 1, h.cell 2⟩

set_option maxRecDepth 100000 in
set_option maxHeartbeats 2000000 in
theorem fieldGet_any (p : ByteArray) (w : World) (hs : p.size ≤ 1048576) (hm : MaxL w) :
    Calls Tryd.prog 20 #[.string p] w fun e w' => e = .returned (.tuple #[.agg #[.string (resF p).name, .int .i64 (resF p).kind, .int .i64 (resF p).weight], .bool (gok p)]) ∧ Below w.heap.size w w' := by
  have hb0 : Below w.heap.size w (w.alloc (.cells #[.string ⟨#[]⟩, .int .i64 0, .int .i64 0] 33)) := (Below.refl _ w).alloc (Nat.le_refl _) _
  have B0 := Blk.new w #[.string ⟨#[]⟩, .int .i64 0, .int .i64 0] 33
  have s0 : (w.alloc (.cells #[.string ⟨#[]⟩, .int .i64 0, .int .i64 0] 33)).heap.size = w.heap.size + 1 := by simp
  have hrz := restOf_size p
  obtain ⟨hrz1, hrz2⟩ := hrz
  have HM : Hid (MaxL (w.alloc (.cells #[.string ⟨#[]⟩, .int .i64 0, .int .i64 0] 33))) := hm.below hb0
  clear hm
  go_enter Tryd.func20, Tryd.ntmps20
  go_wp2_with fail
  refine (cut58_any p _ hs HM.out).mono ?_
  rintro e w1 ⟨bb, rfl, hb1⟩
  rw [s0] at hb1
  have B1 := B0.below hb1 (by omega)
  have hw1 := hb0.trans (hb1.mono (by omega))
  clear HM B0 hb0 hb1 s0
  have HK : Hid (gkind p = if (restOf p).toList == sNum.toList then 2 else if (restOf p).toList == sTag.toList then 3 else if isTx (restOf p) then 1 else 0) := rfl
  have HGF : Hid (∀ k z, gok p = true → gkind p = k → (if k = 1 then figR (figOf (restOf p)) else 0) = z → resF p = ⟨nameOf p, k, z⟩) := fun k z h1 h2 h3 => by
    subst h2
    unfold resF gfld
    rw [h1, h3]
    rfl
  have HGN : Hid (gok p = false → resF p = ⟨⟨#[]⟩, 0, 0⟩) := fun h => by unfold resF; rw [h]; rfl
  have HOK : Hid (gok p = (gkind p == 2 || gkind p == 3 || (gkind p == 1 && figB (figOf (restOf p))))) := rfl
  have HTX := isTx_iff (restOf p)
  generalize restOf p = r at *
  generalize nameOf p = nm at *
  have hlt1 := B1.lt
  go_wp2_with fail
  refine (clone_any nm _ (by omega)).mono ?_
  rintro e w2 ⟨rfl, hb2⟩
  have B2 := B1.below hb2 hlt1
  have hlt2 : w.heap.size < w2.heap.size := by have := hb2.size; omega
  have hw2 : Below w.heap.size w w2 := hw1.trans (hb2.mono (by omega))
  have FIN : Hid (∀ (t : ByteArray) (k z : Int) (x : Obj),
      (((((w2.setCell ⟨w.heap.size, 0, none⟩ (.string t)).setCell ⟨w.heap.size, 1, none⟩ (.int .i64 k)).setCell ⟨w.heap.size, 2, none⟩ (.int .i64 z)).alloc x).cell? ⟨w.heap.size, 0, none⟩ = some (.string t) ∧ ((((w2.setCell ⟨w.heap.size, 0, none⟩ (.string t)).setCell ⟨w.heap.size, 1, none⟩ (.int .i64 k)).setCell ⟨w.heap.size, 2, none⟩ (.int .i64 z)).alloc x).cell? ⟨w.heap.size, 1, none⟩ = some (.int .i64 k) ∧ ((((w2.setCell ⟨w.heap.size, 0, none⟩ (.string t)).setCell ⟨w.heap.size, 1, none⟩ (.int .i64 k)).setCell ⟨w.heap.size, 2, none⟩ (.int .i64 z)).alloc x).cell? ⟨w.heap.size, 2, none⟩ = some (.int .i64 z)) ∧ Below w.heap.size w ((((w2.setCell ⟨w.heap.size, 0, none⟩ (.string t)).setCell ⟨w.heap.size, 1, none⟩ (.int .i64 k)).setCell ⟨w.heap.size, 2, none⟩ (.int .i64 z)).alloc x)) := fun t k z x =>
    ⟨blk3_cells ((blk3 B2 _ _ _).alloc x), (((hw2.setCell (Nat.le_refl _) _).setCell (Nat.le_refl _) _).setCell (Nat.le_refl _) _).alloc (by simp; omega) _⟩
  obtain ⟨b0, b1, b2⟩ := blk3_cells B2
  have g0 := B2.frozen 0
  have g1 := B2.frozen 1
  have g2 := B2.frozen 2
  have hne : w.heap.size ≠ w2.heap.size := by omega
  clear B1 hw1 hb2 hlt1 B2 hw2
  by_cases c1 : (r.toList == sNum.toList) = true
  · have hk : gkind p = 2 := by rw [HK.out, if_pos c1]
    have hok : gok p = true := by rw [HOK.out, hk]; rfl
    have HRF : Hid (resF p = ⟨nm, 2, 0⟩ ∧ gok p = true) := ⟨HGF.out 2 0 hok hk rfl, hok⟩
    obtain ⟨F1, F2⟩ := FIN.out nm 2 0 (.cells #[.string nm, .int .i64 2, .int .i64 0] 33)
    have HF1 : Hid (_ ∧ _ ∧ _) := F1
    have HF2 : Hid (Below _ _ _) := F2
    clear F1 F2 HK HGF HGN HOK HTX FIN hk hok
    rw [num_list] at c1
    go_wp2
    refine bodyPost_ret (v := .tuple #[.agg #[.string nm, .int .i64 2, .int .i64 0], .bool true]) (by simp [results, Tryd.results20, go_sem, HF1.out.1, HF1.out.2.1, HF1.out.2.2]) rfl ?_
    exact ⟨by rw [HRF.out.1, HRF.out.2], HF2.out⟩
  have c1n : (r.toList == sNum.toList) = false := by simpa using c1
  by_cases c2 : (r.toList == sTag.toList) = true
  · have hk : gkind p = 3 := by rw [HK.out, if_neg c1, if_pos c2]
    have hok : gok p = true := by rw [HOK.out, hk]; rfl
    have HRF : Hid (resF p = ⟨nm, 3, 0⟩ ∧ gok p = true) := ⟨HGF.out 3 0 hok hk rfl, hok⟩
    obtain ⟨F1, F2⟩ := FIN.out nm 3 0 (.cells #[.string nm, .int .i64 3, .int .i64 0] 33)
    have HF1 : Hid (_ ∧ _ ∧ _) := F1
    have HF2 : Hid (Below _ _ _) := F2
    clear F1 F2 HK HGF HGN HOK HTX FIN hk hok
    rw [tag_list] at c2
    rw [num_list] at c1n
    clear c1
    go_wp2
    refine bodyPost_ret (v := .tuple #[.agg #[.string nm, .int .i64 3, .int .i64 0], .bool true]) (by simp [results, Tryd.results20, go_sem, HF1.out.1, HF1.out.2.1, HF1.out.2.2]) rfl ?_
    exact ⟨by rw [HRF.out.1, HRF.out.2], HF2.out⟩
  have c2n : (r.toList == sTag.toList) = false := by simpa using c2
  rw [num_list] at c1n
  rw [tag_list] at c2n
  cases hx : isTx r with
  | false =>
    have hk : gkind p = 0 := by rw [HK.out, if_neg c1, if_neg c2, hx]; rfl
    have hok : gok p = false := by rw [HOK.out, hk]; rfl
    have HRF : Hid (resF p = ⟨⟨#[]⟩, 0, 0⟩ ∧ gok p = false) := ⟨HGN.out hok, hok⟩
    have hpf := HTX.1
    rw [hx] at hpf
    have HPX : Hid (∀ wx, Calls Tryd.prog 42 #[.string r, .string ⟨#[116, 101, 120, 116, 58]⟩] wx fun e w' => (∃ q : ByteArray, q.size ≤ r.size ∧ e = .returned (.tuple #[.string q, .bool false])) ∧ w' = wx) := fun wx => by
      refine (Tryd.strings_CutPrefix r ⟨#[116, 101, 120, 116, 58]⟩ wx).mono ?_
      rintro e w' ⟨rfl, rfl⟩
      have ht : Lib.trimPrefix r.data.toList sTextC.data.toList = r.data.toList := by unfold Lib.trimPrefix; rw [hpf]; rfl
      exact ⟨⟨_, by show (Lib.trimPrefix r.data.toList sTextC.data.toList).toArray.size ≤ _; rw [ht]; exact Nat.le_refl _, by rw [hpf]⟩, rfl⟩
    obtain ⟨F1, F2⟩ := FIN.out ⟨#[]⟩ 0 0 (.cells #[.string nm, .int .i64 0, .int .i64 0] 33)
    have HZ : Hid (_ ∧ _ ∧ _) := F1
    have HZ2 : Hid (Below _ _ _) := F2
    clear HK HGF HGN HOK HTX FIN hk hok hpf F1 F2 c1 c2
    go_wp2_with fail
    refine (HPX.out _).mono ?_
    rintro e w4 ⟨⟨q, hq, rfl⟩, rfl⟩
    go_wp2_with fail
    refine (figuresGet_any q _ (by unfold maxLen; omega)).mono ?_
    rintro e w4 ⟨rfl, rfl⟩
    go_wp2
    refine bodyPost_ret (v := .tuple #[.agg #[.string ⟨#[]⟩, .int .i64 0, .int .i64 0], .bool false]) (by simp [results, Tryd.results20, go_sem, HZ.out.1, HZ.out.2.1, HZ.out.2.2]) rfl ?_
    exact ⟨by rw [HRF.out.1, HRF.out.2], HZ2.out⟩
  | true =>
    have hk : gkind p = 1 := by rw [HK.out, if_neg c1, if_neg c2, hx]; rfl
    have hpf := HTX.1
    rw [hx] at hpf
    have htf := HTX.2 hx
    have hfz : (figOf r).size ≤ 1048576 := by
      have h2 := hx
      unfold isTx at h2
      rw [Bool.and_eq_true] at h2
      have := pat_size 58 1 r 1 (by rw [two_len h2.1]; omega)
      unfold figOf
      omega
    have HPX : Hid (∀ wx, Calls Tryd.prog 42 #[.string r, .string ⟨#[116, 101, 120, 116, 58]⟩] wx fun e w' => e = .returned (.tuple #[.string (figOf r), .bool true]) ∧ w' = wx) := fun wx => by
      refine (Tryd.strings_CutPrefix r ⟨#[116, 101, 120, 116, 58]⟩ wx).mono ?_
      rintro e w' ⟨rfl, rfl⟩
      refine ⟨?_, rfl⟩
      rw [hpf]
      exact congrArg (fun q => Ending.returned (.tuple #[.string q, .bool true])) htf
    cases hf : figB (figOf r) with
    | false =>
      have hok : gok p = false := by rw [HOK.out, hk, hf]; rfl
      have HRF : Hid (resF p = ⟨⟨#[]⟩, 0, 0⟩ ∧ gok p = false) := ⟨HGN.out hok, hok⟩
      obtain ⟨F1, F2⟩ := FIN.out ⟨#[]⟩ 0 0 (.cells #[.string nm, .int .i64 0, .int .i64 0] 33)
      have HZ : Hid (_ ∧ _ ∧ _) := F1
      have HZ2 : Hid (Below _ _ _) := F2
      clear HK HGF HGN HOK HTX FIN hk hok hpf F1 F2 c1 c2 htf
      generalize figOf r = q at *
      go_wp2_with fail
      refine (HPX.out _).mono ?_
      rintro e w4 ⟨rfl, rfl⟩
      go_wp2_with fail
      refine (figuresGet_any q _ (by unfold maxLen; omega)).mono ?_
      rintro e w4 ⟨rfl, rfl⟩
      rw [hf]
      go_wp2
      refine bodyPost_ret (v := .tuple #[.agg #[.string ⟨#[]⟩, .int .i64 0, .int .i64 0], .bool false]) (by simp [results, Tryd.results20, go_sem, HZ.out.1, HZ.out.2.1, HZ.out.2.2]) rfl ?_
      exact ⟨by rw [HRF.out.1, HRF.out.2], HZ2.out⟩
    | true =>
      have hok : gok p = true := by rw [HOK.out, hk, hf]; rfl
      have hrg : figR (figOf r) = figG (figOf r) := by rw [figR_yes hf, figG_yes hf]
      have HRF : Hid (resF p = ⟨nm, 1, figG (figOf r)⟩ ∧ gok p = true) := ⟨HGF.out 1 _ hok hk (by rw [if_pos rfl, hrg]), hok⟩
      obtain ⟨F1, F2⟩ := FIN.out nm 1 (figG (figOf r)) (.cells #[.string nm, .int .i64 1, .int .i64 (figG (figOf r))] 33)
      have HF1 : Hid (_ ∧ _ ∧ _) := F1
      have HF2 : Hid (Below _ _ _) := F2
      clear F1 F2 HK HGF HGN HOK HTX FIN hk hok hpf c1 c2 htf hrg
      generalize figOf r = q at *
      go_wp2_with fail
      refine (HPX.out _).mono ?_
      rintro e w4 ⟨rfl, rfl⟩
      go_wp2_with fail
      refine (figuresGet_any q _ (by unfold maxLen; omega)).mono ?_
      rintro e w4 ⟨rfl, rfl⟩
      rw [hf]
      generalize figG q = z at *
      go_wp2
      refine bodyPost_ret (v := .tuple #[.agg #[.string nm, .int .i64 1, .int .i64 z], .bool true]) (by simp [results, Tryd.results20, go_sem, HF1.out.1, HF1.out.2.1, HF1.out.2.2]) rfl ?_
      exact ⟨by rw [HRF.out.1, HRF.out.2], HF2.out⟩
end Go.Proofs.YtelkaieknliflaaDoor
