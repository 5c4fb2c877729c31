/- ServerNew of the program and of the model. -/
import Derived.Test.YtdijgdchmfpepaaIdxLaw
import Derived.StillTailTactics
namespace Go.Proofs.Ytdijgdchmfpepaa
open Go.RowKit
set_option linter.unusedVariables false

/-- What ServerNew answers: fields, and nothing else. -/
def SrvAns (w w' : World) (fs : List Fld) (e : Ending) : Prop := ∃ v, e = .returned (.tuple #[.agg #[v, .slice none 0 0, .slice none 0 0, .int .i64 0, .slice none 0 0, .slice none 0 0], .bool (fieldsB fs)]) ∧ w'.ownsRow w.heap.size 46 3 v (newF fs).length (fldCells (newF fs)) ∧ Below w.heap.size w w'
theorem own_set6 {w : World} {base : Nat} {e : TypeId} {size : Nat} {v : Value} {n B : Nat} {xs : List Value} (h : w.ownsRow base e size v n xs) (hB : v.ownBlock ≠ some B) (x0 x1 x2 x3 x4 x5 : Value) : ((((((w.setCell ⟨B, 0, none⟩ x0).setCell ⟨B, 1, none⟩ x1).setCell ⟨B, 2, none⟩ x2).setCell ⟨B, 3, none⟩ x3).setCell ⟨B, 4, none⟩ x4).setCell ⟨B, 5, none⟩ x5).ownsRow base e size v n xs :=
  ((own_set4 h hB x0 x1 x2 x3).kept (grown_cell _ _ 4 _) (.inr hB)).kept (grown_cell _ _ 5 _) (.inr hB)
theorem below_set6 {w0 w : World} {B : Nat} (h : Below w0.heap.size w0 w) (hB : w0.heap.size ≤ B) (x0 x1 x2 x3 x4 x5 : Value) : Below w0.heap.size w0 ((((((w.setCell ⟨B, 0, none⟩ x0).setCell ⟨B, 1, none⟩ x1).setCell ⟨B, 2, none⟩ x2).setCell ⟨B, 3, none⟩ x3).setCell ⟨B, 4, none⟩ x4).setCell ⟨B, 5, none⟩ x5) :=
  (((((h.setCell hB _).setCell hB _).setCell hB _).setCell hB _).setCell hB _).setCell hB _
theorem own_sl {w : World} {base : Nat} {e : TypeId} {s n : Nat} {v : Value} {xs : List Value} (h : w.ownsRow base e s v n xs) : ∃ p c, v = .slice p n c := by
  rcases h.2 with ⟨rfl, rfl⟩ | ⟨g, c, cur, rfl, _⟩
  · exact ⟨_, _, rfl⟩
  · exact ⟨_, _, rfl⟩

set_option maxRecDepth 100000 in
set_option maxHeartbeats 2000000 in
theorem newSrvS_any (a : Option Addr) (cap : Nat) (fs : List Fld) (w : World) (hz : fs.length ≤ 1048576) (hsm : FldsSmall fs) (hr : FldRow w a fs) :
    Calls Try.prog 5 #[.slice a fs.length cap] w fun e w' => SrvAns w w' fs e := by
  have D0 := Blk.new w #[.slice none 0 0, .slice none 0 0, .slice none 0 0, .int .i64 0, .slice none 0 0, .slice none 0 0] 32
  have hb0 : Below w.heap.size w (w.alloc (.cells #[.slice none 0 0, .slice none 0 0, .slice none 0 0, .int .i64 0, .slice none 0 0, .slice none 0 0] 32)) := (Below.refl _ w).alloc (Nat.le_refl _) _
  have HN : Hid (∀ wx, Below w.heap.size w wx → Calls Try.prog 14 #[.slice a fs.length cap] wx fun e w' => NewAns wx w' fs e) := fun wx h => newS_any a cap fs wx hz hsm (hr.below h)
  have HF : Hid (fieldsB fs = false → newF fs = []) := newF_no
  clear hr hsm
  unfold SrvAns
  unfold NewAns at HN
  generalize newF fs = T at *
  generalize fieldsB fs = bb at *
  go_enter Try.func5, Try.ntmps5
  go_wp2_with fail
  refine (HN.out _ hb0).mono ?_
  rintro e w1 ⟨v, rfl, ho, hb1⟩
  obtain ⟨p, c, rfl⟩ := own_sl ho
  have hA : Below w1.heap.size w1 (w1.alloc (.cells #[.slice p T.length c, .slice none 0 0, .slice none 0 0, .int .i64 0] 28)) := (Below.refl _ _).alloc (Nat.le_refl _) _
  have D1 := (D0.below hb1 D0.lt).alloc (.cells #[.slice p T.length c, .slice none 0 0, .slice none 0 0, .int .i64 0] 28)
  have ho1 := ho.alloc (.cells #[.slice p T.length c, .slice none 0 0, .slice none 0 0, .int .i64 0] 28)
  have hw1 := below_trans (below_trans hb0 hb1) hA
  have HO : Hid ((w1.alloc (.cells #[.slice p T.length c, .slice none 0 0, .slice none 0 0, .int .i64 0] 28)).ownsRow w.heap.size 46 3 (.slice p T.length c) T.length (fldCells T)) := ownsRow_mono ho1 (by simp)
  have hd := own_type ho1 D1 (by decide)
  clear ho ho1 hb0 hb1 hA D0
  have d0 := D1.cell 0
  have d1 := D1.cell 1
  have d2 := D1.cell 2
  have d3 := D1.cell 3
  have d4 := D1.cell 4
  have d5 := D1.cell 5
  have e0 := D1.frozen 0
  have e1 := D1.frozen 1
  have e2 := D1.frozen 2
  have e3 := D1.frozen 3
  have e4 := D1.frozen 4
  have e5 := D1.frozen 5
  simp at d0 d1 d2 d3 d4 d5
  cases bb with
  | false =>
    have HE : Hid (T = []) := HF.out rfl
    clear HF
    go_wp2
    refine bodyPost_ret (v := .tuple #[.agg #[.slice none 0 0, .slice none 0 0, .slice none 0 0, .int .i64 0, .slice none 0 0, .slice none 0 0], .bool false]) (by simp [results, Try.results5, go_sem, d0, d1, d2, d3, d4, d5]) rfl ⟨.slice none 0 0, rfl, by rw [HE.out]; exact World.ownsRow_nil _ _ _ _, ?_⟩
    exact below_set6 hw1 (Nat.le_refl _) _ _ _ _ _ _
  | true =>
    go_wp2
    refine bodyPost_ret (v := .tuple #[.agg #[.slice p T.length c, .slice none 0 0, .slice none 0 0, .int .i64 0, .slice none 0 0, .slice none 0 0], .bool true]) (by simp [results, Try.results5, go_sem, d0, d1, d2, d3, d4, d5]) rfl ⟨.slice p T.length c, rfl, ?_, ?_⟩
    · exact own_set6 HO.out hd _ _ _ _ _ _
    · exact below_set6 hw1 (Nat.le_refl _) _ _ _ _ _ _
set_option maxRecDepth 100000 in
set_option maxHeartbeats 2000000 in
theorem servingNew_any (a : Option Addr) (cap : Nat) (fs : List Fld) (w : World) (hz : fs.length ≤ 1048576) (hcap : fs.length ≤ cap) (hsm : FldsSmall fs) (hr : FldRow w a fs) :
    Calls Try.prog 16 #[.slice a fs.length cap] w fun e w' => SrvAns w w' fs e := by
  have D0 := Blk.new w #[.slice none 0 0, .slice none 0 0, .slice none 0 0, .int .i64 0, .slice none 0 0, .slice none 0 0] 49
  have hb0 : Below w.heap.size w (w.alloc (.cells #[.slice none 0 0, .slice none 0 0, .slice none 0 0, .int .i64 0, .slice none 0 0, .slice none 0 0] 49)) := (Below.refl _ w).alloc (Nat.le_refl _) _
  have HN : Hid (∀ wx, Below w.heap.size w wx → Calls Try.prog 30 #[.slice a fs.length cap] wx fun e w' => NewAns wx w' fs e) := fun wx h => newI_any a cap fs wx hz hcap hsm (hr.below h)
  clear hr hsm
  unfold SrvAns
  unfold NewAns at HN
  generalize newF fs = T at *
  generalize fieldsB fs = bb at *
  go_enter Try.func16, Try.ntmps16
  go_wp2_with fail
  refine (HN.out _ hb0).mono ?_
  rintro e w1 ⟨v, rfl, ho, hb1⟩
  obtain ⟨p, c, rfl⟩ := own_sl ho
  have hA : Below w1.heap.size w1 (w1.alloc (.cells #[.slice p T.length c, .slice none 0 0, .slice none 0 0, .int .i64 0] 28)) := (Below.refl _ _).alloc (Nat.le_refl _) _
  have D1 := (D0.below hb1 D0.lt).alloc (.cells #[.slice p T.length c, .slice none 0 0, .slice none 0 0, .int .i64 0] 28)
  have ho1 := ho.alloc (.cells #[.slice p T.length c, .slice none 0 0, .slice none 0 0, .int .i64 0] 28)
  have hw1 := below_trans (below_trans hb0 hb1) hA
  have HO : Hid ((w1.alloc (.cells #[.slice p T.length c, .slice none 0 0, .slice none 0 0, .int .i64 0] 28)).ownsRow w.heap.size 46 3 (.slice p T.length c) T.length (fldCells T)) := ownsRow_mono ho1 (by simp)
  have hd := own_type ho1 D1 (by decide)
  clear ho ho1 hb0 hb1 hA D0
  have d0 := D1.cell 0
  have d1 := D1.cell 1
  have d2 := D1.cell 2
  have d3 := D1.cell 3
  have d4 := D1.cell 4
  have d5 := D1.cell 5
  have e0 := D1.frozen 0
  have e1 := D1.frozen 1
  have e2 := D1.frozen 2
  have e3 := D1.frozen 3
  have e4 := D1.frozen 4
  have e5 := D1.frozen 5
  simp at d0 d1 d2 d3 d4 d5
  go_wp2
  refine bodyPost_ret (v := .tuple #[.agg #[.slice p T.length c, .slice none 0 0, .slice none 0 0, .int .i64 0, .slice none 0 0, .slice none 0 0], .bool bb]) (by simp [results, Try.results16, go_sem, d0, d1, d2, d3, d4, d5]) rfl ⟨.slice p T.length c, rfl, ?_, ?_⟩
  · exact own_set6 HO.out hd _ _ _ _ _ _
  · exact below_set6 hw1 (Nat.le_refl _) _ _ _ _ _ _
set_option maxRecDepth 100000 in
set_option maxHeartbeats 2000000 in
theorem server_any (B : Nat) (p : Option Addr) (n c : Nat) (w : World) (hB : Blk w B #[.slice p n c, .slice none 0 0, .slice none 0 0, .int .i64 0, .slice none 0 0, .slice none 0 0] 49) :
    Calls Try.prog 17 #[.pointer (some ⟨B, 0, none⟩)] w fun e w' => e = .returned (.agg #[.slice p n c, .slice none 0 0, .slice none 0 0, .int .i64 0, .slice none 0 0, .slice none 0 0]) ∧ Below w.heap.size w w' := by
  have hb0 : Below w.heap.size w (w.alloc (.cells #[.slice none 0 0, .slice none 0 0, .slice none 0 0, .int .i64 0, .slice none 0 0, .slice none 0 0] 32)) := (Below.refl _ w).alloc (Nat.le_refl _) _
  have D0 := Blk.new w #[.slice none 0 0, .slice none 0 0, .slice none 0 0, .int .i64 0, .slice none 0 0, .slice none 0 0] 32
  have B0 := hB.alloc (.cells #[.slice none 0 0, .slice none 0 0, .slice none 0 0, .int .i64 0, .slice none 0 0, .slice none 0 0] 32)
  have hl := hB.lt
  have b0 := B0.cell 0
  have b1 := B0.cell 1
  have b2 := B0.cell 2
  have b3 := B0.cell 3
  have b4 := B0.cell 4
  have b5 := B0.cell 5
  simp at b0 b1 b2 b3 b4 b5
  go_enter Try.func17, Try.ntmps17
  have d0 := D0.cell 0
  have d1 := D0.cell 1
  have d2 := D0.cell 2
  have d3 := D0.cell 3
  have d4 := D0.cell 4
  have d5 := D0.cell 5
  have e0 := D0.frozen 0
  have e1 := D0.frozen 1
  have e2 := D0.frozen 2
  have e3 := D0.frozen 3
  have e4 := D0.frozen 4
  have e5 := D0.frozen 5
  simp at d0 d1 d2 d3 d4 d5
  go_wp2
  go_region
  all_goals go_wp2
  all_goals
    have h := (Below.refl _ w).alloc (Nat.le_refl _) (.cells #[.slice p n c, .slice none 0 0, .slice none 0 0, .int .i64 0, .slice none 0 0, .slice none 0 0] 32)
    exact bodyPost_ret (v := .agg #[.slice p n c, .slice none 0 0, .slice none 0 0, .int .i64 0, .slice none 0 0, .slice none 0 0]) (by simp [results, Try.results17, go_sem]) rfl ⟨rfl, ⟨h.os, h.tape, h.output, h.size, h.block⟩⟩
set_option maxRecDepth 100000 in
set_option maxHeartbeats 2000000 in
theorem newSrvI_any (a : Option Addr) (cap : Nat) (fs : List Fld) (w : World) (hz : fs.length ≤ 1048576) (hcap : fs.length ≤ cap) (hsm : FldsSmall fs) (hr : FldRow w a fs) :
    Calls Try.prog 7 #[.slice a fs.length cap] w fun e w' => SrvAns w w' fs e := by
  have D0 := Blk.new w #[.slice none 0 0, .slice none 0 0, .slice none 0 0, .int .i64 0, .slice none 0 0, .slice none 0 0] 32
  have hb0 : Below w.heap.size w (w.alloc (.cells #[.slice none 0 0, .slice none 0 0, .slice none 0 0, .int .i64 0, .slice none 0 0, .slice none 0 0] 32)) := (Below.refl _ w).alloc (Nat.le_refl _) _
  have HN : Hid (∀ wx, Below w.heap.size w wx → Calls Try.prog 16 #[.slice a fs.length cap] wx fun e w' => SrvAns wx w' fs e) := fun wx h => servingNew_any a cap fs wx hz hcap hsm (hr.below h)
  clear hr hsm
  unfold SrvAns at *
  generalize newF fs = T at *
  generalize fieldsB fs = bb at *
  go_enter Try.func7, Try.ntmps7
  go_wp2_with fail
  refine (HN.out _ hb0).mono ?_
  rintro e w1 ⟨v, rfl, ho, hb1⟩
  obtain ⟨p, c, rfl⟩ := own_sl ho
  have hA : Below w1.heap.size w1 (w1.alloc (.cells #[.slice p T.length c, .slice none 0 0, .slice none 0 0, .int .i64 0, .slice none 0 0, .slice none 0 0] 49)) := (Below.refl _ _).alloc (Nat.le_refl _) _
  have G1 := Blk.new w1 #[.slice p T.length c, .slice none 0 0, .slice none 0 0, .int .i64 0, .slice none 0 0, .slice none 0 0] 49
  have D1 := (D0.below hb1 D0.lt).alloc (.cells #[.slice p T.length c, .slice none 0 0, .slice none 0 0, .int .i64 0, .slice none 0 0, .slice none 0 0] 49)
  have ho1 := ownsRow_mono (ho.alloc (.cells #[.slice p T.length c, .slice none 0 0, .slice none 0 0, .int .i64 0, .slice none 0 0, .slice none 0 0] 49)) hb0.size
  have hw1 := below_trans (below_trans hb0 hb1) hA
  clear ho hb0 hb1 hA D0 HN
  go_wp2_with fail
  refine (server_any w1.heap.size p T.length c _ G1).mono ?_
  rintro e w2 ⟨rfl, hb2⟩
  have D2 := D1.below hb2 D1.lt
  have HO : Hid (w2.ownsRow w.heap.size 46 3 (.slice p T.length c) T.length (fldCells T)) := ho1.kept (grown_none hb2) (Classical.em _)
  have hw2 := below_trans hw1 hb2
  have hd := own_type HO.out D2 (by decide)
  clear G1 D1 ho1 hw1 hb2
  have d0 := D2.cell 0
  have d1 := D2.cell 1
  have d2 := D2.cell 2
  have d3 := D2.cell 3
  have d4 := D2.cell 4
  have d5 := D2.cell 5
  have e0 := D2.frozen 0
  have e1 := D2.frozen 1
  have e2 := D2.frozen 2
  have e3 := D2.frozen 3
  have e4 := D2.frozen 4
  have e5 := D2.frozen 5
  simp at d0 d1 d2 d3 d4 d5
  go_wp2
  refine bodyPost_ret (v := .tuple #[.agg #[.slice p T.length c, .slice none 0 0, .slice none 0 0, .int .i64 0, .slice none 0 0, .slice none 0 0], .bool bb]) (by simp [results, Try.results7, go_sem, d0, d1, d2, d3, d4, d5]) rfl ⟨.slice p T.length c, rfl, ?_, ?_⟩
  · exact own_set6 HO.out hd _ _ _ _ _ _
  · exact below_set6 hw2 (Nat.le_refl _) _ _ _ _ _ _
end Go.Proofs.Ytdijgdchmfpepaa
