/- DrawMt, SdQy, Wrap: in one text. -/
import Derived.Test.YtjkimadnopeakaaGreatDoorDrB
import Derived.Test.YtjkimadnopeakaaGreatDoorDrA
import Derived.Test.YtjkimadnopeakaaGreatDoorDrawDoc4
import Derived.Test.YtjkimadnopeakaaGreatDoorQyTo
import Derived.Test.YtjkimadnopeakaaGreatDoorQySz
import Derived.Deep.RegionWith
import Derived.HandedShaped
import Derived.SizedLaws
/- spec.DrawMeets: fields, a document and a question, drawn. -/
namespace Go.Proofs.YtjkimadnopeakaaGreatDoor
open Go.RowKit
set_option linter.unusedVariables false

theorem row_sets {w : World} {B s m : Nat} {e : TypeId} {v : Value} {xs : List Value} (h : w.ownsRow B e s v m xs) {n1 n2 : Nat} (h1 : n1 < B) (h2 : n2 < B) (d0 d1 v0 v1 v2 v3 v4 v5 : Value) : ((((((((w.setCell ⟨n1, 0, none⟩ d0).setCell ⟨n1, 1, none⟩ d1).setCell ⟨n2, 0, none⟩ v0).setCell ⟨n2, 1, none⟩ v1).setCell ⟨n2, 2, none⟩ v2).setCell ⟨n2, 3, none⟩ v3).setCell ⟨n2, 4, none⟩ v4).setCell ⟨n2, 5, none⟩ v5).ownsRow B e s v m xs :=
  ownsRow_setCell_below (ownsRow_setCell_below (ownsRow_setCell_below (ownsRow_setCell_below (ownsRow_setCell_below (ownsRow_setCell_below (ownsRow_setCell_below (ownsRow_setCell_below (h) (a := ⟨n1, 0, none⟩) h1 d0) (a := ⟨n1, 1, none⟩) h1 d1) (a := ⟨n2, 0, none⟩) h2 v0) (a := ⟨n2, 1, none⟩) h2 v1) (a := ⟨n2, 2, none⟩) h2 v2) (a := ⟨n2, 3, none⟩) h2 v3) (a := ⟨n2, 4, none⟩) h2 v4) (a := ⟨n2, 5, none⟩) h2 v5
theorem at_sets {w : World} {B d : Nat} {a : Option Addr} {ps : List Qy} (h : QAt w B d a ps) {n1 n2 : Nat} (h1 : n1 < B) (h2 : n2 < B) (d0 d1 v0 v1 v2 v3 v4 v5 : Value) : QAt ((((((((w.setCell ⟨n1, 0, none⟩ d0).setCell ⟨n1, 1, none⟩ d1).setCell ⟨n2, 0, none⟩ v0).setCell ⟨n2, 1, none⟩ v1).setCell ⟨n2, 2, none⟩ v2).setCell ⟨n2, 3, none⟩ v3).setCell ⟨n2, 4, none⟩ v4).setCell ⟨n2, 5, none⟩ v5) B d a ps :=
  QAt.set (QAt.set (QAt.set (QAt.set (QAt.set (QAt.set (QAt.set (QAt.set (h) (x := ⟨n1, 0, none⟩) h1 d0) (x := ⟨n1, 1, none⟩) h1 d1) (x := ⟨n2, 0, none⟩) h2 v0) (x := ⟨n2, 1, none⟩) h2 v1) (x := ⟨n2, 2, none⟩) h2 v2) (x := ⟨n2, 3, none⟩) h2 v3) (x := ⟨n2, 4, none⟩) h2 v4) (x := ⟨n2, 5, none⟩) h2 v5
theorem below_sets {w0 w : World} {n n1 n2 : Nat} (h : Below n w0 w) (h1 : n ≤ n1) (h2 : n ≤ n2) (d0 d1 v0 v1 v2 v3 v4 v5 : Value) : Below n w0 ((((((((w.setCell ⟨n1, 0, none⟩ d0).setCell ⟨n1, 1, none⟩ d1).setCell ⟨n2, 0, none⟩ v0).setCell ⟨n2, 1, none⟩ v1).setCell ⟨n2, 2, none⟩ v2).setCell ⟨n2, 3, none⟩ v3).setCell ⟨n2, 4, none⟩ v4).setCell ⟨n2, 5, none⟩ v5) :=
  Below.setCell (Below.setCell (Below.setCell (Below.setCell (Below.setCell (Below.setCell (Below.setCell (Below.setCell (h) (p := ⟨n1, 0, none⟩) h1 d0) (p := ⟨n1, 1, none⟩) h1 d1) (p := ⟨n2, 0, none⟩) h2 v0) (p := ⟨n2, 1, none⟩) h2 v1) (p := ⟨n2, 2, none⟩) h2 v2) (p := ⟨n2, 3, none⟩) h2 v3) (p := ⟨n2, 4, none⟩) h2 v4) (p := ⟨n2, 5, none⟩) h2 v5
theorem avs_from {w : World} {L B d : Nat} {a : Option Addr} {ps : List Qy} (h : QAv w (fun b => L < b) d a ps) (hB : B ≤ L) : QAt w B d a ps := QAv.at (h.of (S' := fun b => B ≤ b) (Nat.le_refl _) fun b hs _ => ⟨rfl, by omega⟩)
theorem QSz.grow {n m : Nat} (h : n ≤ m) : ∀ {d : Nat} {ps : List Qy}, QSz n d ps → QSz m d ps
  | 0, _, hs => hs
  | d + 1, ps, hs => ⟨Nat.le_trans hs.1 h, fun i hi => ⟨Nat.le_trans (hs.2 i hi).1 h, Nat.le_trans (hs.2 i hi).2.1 h, QSz.grow h (hs.2 i hi).2.2⟩⟩
/-- Drawn fields, a document and a question. -/
def MqA (w : World) (e : Ending) (w' : World) : Prop := ∃ (vf : Value) (fs : List Fld) (key : ByteArray) (vc : Value) (cs : List Cel) (k lo hi : Int) (f t : ByteArray) (ps : List Qy) (p : Option Addr) (c : Nat), e = .returned (.tuple #[vf, .agg #[.string key, vc], .agg #[.int .i64 k, .string f, .string t, .int .i64 lo, .int .i64 hi, .slice p ps.length c]]) ∧ fs.length ≤ 5 ∧ FldsB fs ∧ w'.ownsRow (w.heap.size + 2) 72 3 vf fs.length (fldCells fs) ∧ key.size ≤ 9 ∧ cs.length ≤ 5 ∧ CelsB cs ∧ w'.ownsRow (w.heap.size + 2) 59 2 vc cs.length (celCells cs) ∧ f.size ≤ 16 ∧ t.size ≤ 16 ∧ QAt w' (w.heap.size + 2) 4 p ps ∧ QSz 16 4 ps ∧ Below w.heap.size w w'
theorem mqA {w w' : World} {vf vc : Value} {fs : List Fld} {key : ByteArray} {cs : List Cel} {k lo hi : Int} {f t : ByteArray} {ps : List Qy} {p : Option Addr} {c : Nat} (g1 : fs.length ≤ 5) (g2 : FldsB fs) (g3 : w'.ownsRow (w.heap.size + 2) 72 3 vf fs.length (fldCells fs)) (g4 : key.size ≤ 9) (g5 : cs.length ≤ 5) (g6 : CelsB cs) (g7 : w'.ownsRow (w.heap.size + 2) 59 2 vc cs.length (celCells cs)) (h1 : f.size ≤ 16) (h2 : t.size ≤ 16) (h3 : QAt w' (w.heap.size + 2) 4 p ps) (h4 : QSz 16 4 ps) (h5 : Below w.heap.size w w') : MqA w (.returned (.tuple #[vf, .agg #[.string key, vc], .agg #[.int .i64 k, .string f, .string t, .int .i64 lo, .int .i64 hi, .slice p ps.length c]])) w' := ⟨vf, fs, key, vc, cs, k, lo, hi, f, t, ps, p, c, rfl, g1, g2, g3, g4, g5, g6, g7, h1, h2, h3, h4, h5⟩
set_option maxRecDepth 100000 in
set_option maxHeartbeats 4000000 in
theorem drawMeets_any (a : Option Addr) (len cap : Nat) (w : World) (hB : BytesIn w a len cap) :
    Calls Tryz.prog 21 #[.slice a len cap] w fun e w' => MqA w e w' := by
  have hb0 : Below w.heap.size w ((w.alloc (.cells #[.string ⟨#[]⟩, .slice none 0 0] 37)).alloc (.cells #[.int .i64 0, .string ⟨#[]⟩, .string ⟨#[]⟩, .int .i64 0, .int .i64 0, .slice none 0 0] 41)) := ((Below.refl _ w).alloc (Nat.le_refl _) _).alloc (by simp) _
  have b1 := hB.below hb0
  have d0 : Blk ((w.alloc (.cells #[.string ⟨#[]⟩, .slice none 0 0] 37)).alloc (.cells #[.int .i64 0, .string ⟨#[]⟩, .string ⟨#[]⟩, .int .i64 0, .int .i64 0, .slice none 0 0] 41)) w.heap.size #[.string ⟨#[]⟩, .slice none 0 0] 37 := (Blk.new w _ _).alloc _
  have q0 : Blk ((w.alloc (.cells #[.string ⟨#[]⟩, .slice none 0 0] 37)).alloc (.cells #[.int .i64 0, .string ⟨#[]⟩, .string ⟨#[]⟩, .int .i64 0, .int .i64 0, .slice none 0 0] 41)) (w.heap.size + 1) #[.int .i64 0, .string ⟨#[]⟩, .string ⟨#[]⟩, .int .i64 0, .int .i64 0, .slice none 0 0] 41 := by
    have h := Blk.new (w.alloc (.cells #[.string ⟨#[]⟩, .slice none 0 0] 37)) #[.int .i64 0, .string ⟨#[]⟩, .string ⟨#[]⟩, .int .i64 0, .int .i64 0, .slice none 0 0] 41
    rw [World.size_alloc] at h
    exact h
  have s0 : ((w.alloc (.cells #[.string ⟨#[]⟩, .slice none 0 0] 37)).alloc (.cells #[.int .i64 0, .string ⟨#[]⟩, .string ⟨#[]⟩, .int .i64 0, .int .i64 0, .slice none 0 0] 41)).heap.size = w.heap.size + 1 + 1 := by simp
  obtain ⟨w0, hw0⟩ : ∃ w0, ((w.alloc (.cells #[.string ⟨#[]⟩, .slice none 0 0] 37)).alloc (.cells #[.int .i64 0, .string ⟨#[]⟩, .string ⟨#[]⟩, .int .i64 0, .int .i64 0, .slice none 0 0] 41)) = w0 := ⟨_, rfl⟩
  have HW0 : Hid (((w.alloc (.cells #[.string ⟨#[]⟩, .slice none 0 0] 37)).alloc (.cells #[.int .i64 0, .string ⟨#[]⟩, .string ⟨#[]⟩, .int .i64 0, .int .i64 0, .slice none 0 0] 41)) = w0) := hw0
  rw [hw0] at hb0 b1 d0 q0 s0
  have HB0 : Hid (Below w.heap.size w w0) := hb0
  clear hB hw0
  go_enter Tryz.func21, Tryz.ntmps21
  go_upto_region 1 with fail
  rw [HW0.out]
  clear HW0
  go_wp2_with fail
  refine (open_any a len cap _ b1).mono ?_
  rintro e w1 ⟨len', rfl, hR1, hC1, hb1⟩
  have d1 := d0.below hb1 d0.lt
  have q1 := q0.below hb1 q0.lt
  obtain ⟨R, hR⟩ : ∃ R, w0.heap.size = R := ⟨_, rfl⟩
  rw [hR] at hR1 hC1 ⊢
  have hRg : w.heap.size + 2 ≤ R := by omega
  have hw1 : Below w.heap.size w w1 := hb0.trans (hb1.mono hb0.size)
  have hl1 := hR1.lt
  clear b1 d0 q0 hb0 hb1 HB0 s0 hR
  go_wp2_with fail
  refine (l11AnyFields_any R a len' cap 0 w1 hR1 hC1 (by omega)).mono ?_
  rintro e w2 ⟨vf, fs, kf, rfl, hfl, hfb, hkf, hd⟩
  have hR2 := hd.2.1
  have hC2 := hC1.kept hd.2.2 hl1
  have hs12 := hd.2.2.size
  have d2 := d1.grown hd.2.2 (by simp; omega)
  have q2 := q1.grown hd.2.2 (by simp; omega)
  have hw2 : Below w.heap.size w w2 := hw1.grown hd.2.2 hw1.size (fun j hj => by cases hj; omega)
  have ho2 := ownsRow_mono (b' := w.heap.size + 2) hd.1 (by omega)
  have hown1 : ∀ j, vf.ownBlock = some j → w1.heap.size ≤ j := fun j hj => (hd.1.lt j hj).1
  obtain ⟨pf, cf, rfl, hcf, _, hrf⟩ := owns_fldRow hd.1 (fldTo_cells fs)
  have hFR : ∀ y, pf = some y → y.block ≠ R := fun y e => by
    cases y with
    | mk b o n =>
      have e2 : (Value.slice pf fs.length cf).ownBlock = some b := by rw [e]; rfl
      have := hown1 b e2
      show b ≠ R
      omega
  have HF2 : Hid (FldsB fs) := hfb
  have hl2 := hR2.lt
  clear hd d1 q1 hw1 hR1 hC1 hfb
  go_wp2_with fail
  refine (l11AnyDoc_any R pf cf a len' cap kf fs w2 hR2 hC2 (by omega) (by omega) hrf hFR).mono ?_
  rintro e w3 ⟨key, vc, cs, kd, rfl, hkey, hcs, hcb, hkd, hoc, hR3, hg3⟩
  have hC3 := hC2.kept hg3 hl2
  have hs23 := hg3.size
  have d3 := d2.grown hg3 (by simp; omega)
  have q3 := q2.grown hg3 (by simp; omega)
  have hw3 : Below w.heap.size w w3 := hw2.grown hg3 hw2.size (fun j hj => by cases hj; omega)
  have ho3 := ho2.kept hg3 (.inr (fun e => by have := hown1 _ e; omega))
  have hocm := ownsRow_mono (b' := w.heap.size + 2) hoc (by omega)
  have hownc : ∀ j, vc.ownBlock = some j → w2.heap.size ≤ j := fun j hj => (hoc.lt j hj).1
  obtain ⟨av, cv, rfl, -, -, -, -⟩ := owns_celRow hoc (celTo_cells cs)
  have HCB : Hid (CelsB cs) := hcb
  clear d2 q2 hw2 hR2 hC2 ho2 hrf hFR hg3 hoc hcb
  go_wp2_with fail
  refine (l11AnyQuery_any R a len' cap kd (.slice pf fs.length cf) w3 hR3 hC3 (by omega)).mono ?_
  rintro e w4 ⟨⟨k, f, t, lo, hi, ps⟩, p, c, kq, rfl, hf, ht, hav, hsz, _, _, hg4⟩
  simp only [agg6, Qy.kind, Qy.field, Qy.text, Qy.low, Qy.high, Qy.parts] at hf ht hav hsz ⊢
  have d4 := d3.grown hg4 (by simp; omega)
  have q4 := q3.grown hg4 (by simp; omega)
  have hw4 : Below w.heap.size w w4 := hw3.grown hg4 hw3.size (fun j hj => by cases hj; omega)
  have ho4 := ho3.kept hg4 (.inr (fun e => by have := hown1 _ e; omega))
  have hoc4 := hocm.kept hg4 (.inr (fun e => by have := hownc _ e; omega))
  have hat : QAt w4 (w.heap.size + 2) 4 p ps := avs_from hav (by omega)
  have HA := at_sets hat (n1 := w.heap.size) (n2 := w.heap.size + 1) (by omega) (by omega) (.string key) (.slice av cs.length cv) (.int .i64 k) (.string f) (.string t) (.int .i64 lo) (.int .i64 hi) (.slice p ps.length c)
  have HO := row_sets ho4 (n1 := w.heap.size) (n2 := w.heap.size + 1) (by omega) (by omega) (.string key) (.slice av cs.length cv) (.int .i64 k) (.string f) (.string t) (.int .i64 lo) (.int .i64 hi) (.slice p ps.length c)
  have HOC := row_sets hoc4 (n1 := w.heap.size) (n2 := w.heap.size + 1) (by omega) (by omega) (.string key) (.slice av cs.length cv) (.int .i64 k) (.string f) (.string t) (.int .i64 lo) (.int .i64 hi) (.slice p ps.length c)
  have HBB := below_sets hw4 (n1 := w.heap.size) (n2 := w.heap.size + 1) (by omega) (by omega) (.string key) (.slice av cs.length cv) (.int .i64 k) (.string f) (.string t) (.int .i64 lo) (.int .i64 hi) (.slice p ps.length c)
  have HAH : Hid _ := HA
  have HOH : Hid _ := HO
  have HOCH : Hid _ := HOC
  have HBH : Hid _ := HBB
  have HS : Hid (QSz 16 4 ps) := hsz
  have z0 := d4.cell 0
  have z1 := d4.cell 1
  have y0 := q4.cell 0
  have y1 := q4.cell 1
  have y2 := q4.cell 2
  have y3 := q4.cell 3
  have y4 := q4.cell 4
  have y5 := q4.cell 5
  have g0 := d4.frozen 0
  have g1 := d4.frozen 1
  have h0 := q4.frozen 0
  have h1 := q4.frozen 1
  have h2 := q4.frozen 2
  have h3 := q4.frozen 3
  have h4 := q4.frozen 4
  have h5 := q4.frozen 5
  simp at z0 z1 y0 y1 y2 y3 y4 y5
  clear HA HO HOC HBB hat hav hsz d3 q3 d4 q4 hw3 hw4 hg4 hR3 hC3 ho3 ho4 hocm hoc4 hown1 hownc
  go_wp2
  refine bodyPost_ret (v := .tuple #[.slice pf fs.length cf, .agg #[.string key, .slice av cs.length cv], .agg #[.int .i64 k, .string f, .string t, .int .i64 lo, .int .i64 hi, .slice p ps.length c]]) (by simp [results, Tryz.results21, go_sem, z0, z1, y0, y1, y2, y3, y4, y5]) rfl (mqA hfl HF2.out HOH.out hkey hcs HCB.out HOCH.out hf ht HAH.out HS.out HBH.out)
end Go.Proofs.YtjkimadnopeakaaGreatDoor

/- laws.sdQuery tells that two questions of the same content are the same. -/
namespace Go.Proofs.YtjkimadnopeakaaGreatDoor
open Go.RowKit
set_option linter.unusedVariables false

def SdQ (d : Nat) : Prop := ∀ (k : Int) (f t : ByteArray) (lo hi : Int) (ps : List Qy) (a b : Option Addr) (c c' : Nat) (w : World), QAt w 0 d a ps → QAt w 0 d b ps → QSz 1048576 d ps →
  Calls Tryz.prog 26 #[.agg #[.int .i64 k, .string f, .string t, .int .i64 lo, .int .i64 hi, .slice a ps.length c], .agg #[.int .i64 k, .string f, .string t, .int .i64 lo, .int .i64 hi, .slice b ps.length c']] w fun e w' => e = .returned (.bool true) ∧ Below w.heap.size w w'
set_option maxRecDepth 100000 in
set_option maxHeartbeats 4000000 in
theorem sdQ_of {d : Nat} (hF : ∀ d', d = d' + 1 → SdQ d') : SdQ d := by
  intro k f t lo hi ps a b ca cb w ha hb hsz
  have hz := hsz.len
  have hb0 : Below w.heap.size w ((w.alloc (.cells #[.int .i64 k, .string f, .string t, .int .i64 lo, .int .i64 hi, .slice a ps.length ca] 41)).alloc (.cells #[.int .i64 k, .string f, .string t, .int .i64 lo, .int .i64 hi, .slice b ps.length cb] 41)) := ((Below.refl _ w).alloc (Nat.le_refl _) _).alloc (by simp) _
  have P0 : Blk ((w.alloc (.cells #[.int .i64 k, .string f, .string t, .int .i64 lo, .int .i64 hi, .slice a ps.length ca] 41)).alloc (.cells #[.int .i64 k, .string f, .string t, .int .i64 lo, .int .i64 hi, .slice b ps.length cb] 41)) w.heap.size #[.int .i64 k, .string f, .string t, .int .i64 lo, .int .i64 hi, .slice a ps.length ca] 41 := (Blk.new w _ _).alloc _
  have R0 : Blk ((w.alloc (.cells #[.int .i64 k, .string f, .string t, .int .i64 lo, .int .i64 hi, .slice a ps.length ca] 41)).alloc (.cells #[.int .i64 k, .string f, .string t, .int .i64 lo, .int .i64 hi, .slice b ps.length cb] 41)) (w.heap.size + 1) #[.int .i64 k, .string f, .string t, .int .i64 lo, .int .i64 hi, .slice b ps.length cb] 41 := by
    have h := Blk.new (w.alloc (.cells #[.int .i64 k, .string f, .string t, .int .i64 lo, .int .i64 hi, .slice a ps.length ca] 41)) #[.int .i64 k, .string f, .string t, .int .i64 lo, .int .i64 hi, .slice b ps.length cb] 41
    rw [World.size_alloc] at h
    exact h
  have ha2 := ha.below hb0
  have hb2 := hb.below hb0
  obtain ⟨w2, hw2⟩ : ∃ w2, (w.alloc (.cells #[.int .i64 k, .string f, .string t, .int .i64 lo, .int .i64 hi, .slice a ps.length ca] 41)).alloc (.cells #[.int .i64 k, .string f, .string t, .int .i64 lo, .int .i64 hi, .slice b ps.length cb] 41) = w2 := ⟨_, rfl⟩
  have HW2 : Hid ((w.alloc (.cells #[.int .i64 k, .string f, .string t, .int .i64 lo, .int .i64 hi, .slice a ps.length ca] 41)).alloc (.cells #[.int .i64 k, .string f, .string t, .int .i64 lo, .int .i64 hi, .slice b ps.length cb] 41) = w2) := hw2
  rw [hw2] at hb0 P0 R0 ha2 hb2
  have HB0 : Hid (Below w.heap.size w w2) := hb0
  have HP : Hid (∀ wx, Below w2.heap.size w2 wx → wx.cell? ⟨w.heap.size, 5, none⟩ = some (.slice a ps.length ca) ∧ wx.cell? ⟨w.heap.size + 1, 5, none⟩ = some (.slice b ps.length cb)) := fun wx h => ⟨(P0.below h P0.lt).cell 5, (R0.below h R0.lt).cell 5⟩
  have HA : Hid (∀ wx, Below w2.heap.size w2 wx → QAt wx 0 d a ps) := fun wx h => ha2.below h
  have HB : Hid (∀ wx, Below w2.heap.size w2 wx → QAt wx 0 d b ps) := fun wx h => hb2.below h
  have HS : Hid (QSz 1048576 d ps) := hsz
  have HF : Hid (∀ d', d = d' + 1 → SdQ d') := hF
  have x0 := P0.cell 0
  have x1 := P0.cell 1
  have x2 := P0.cell 2
  have x3 := P0.cell 3
  have x4 := P0.cell 4
  have x5 := P0.cell 5
  have y0 := R0.cell 0
  have y1 := R0.cell 1
  have y2 := R0.cell 2
  have y3 := R0.cell 3
  have y4 := R0.cell 4
  have y5 := R0.cell 5
  simp at x0 x1 x2 x3 x4 x5 y0 y1 y2 y3 y4 y5
  clear ha hb hsz hF hw2 hb0 P0 R0 ha2 hb2
  go_enter Tryz.func26, Tryz.ntmps26
  go_upto_region 1 with fail
  rw [HW2.out]
  clear HW2
  go_wp2
  clear x0 x1 x2 x3 x4 x5 y0 y1 y2 y3 y4 y5
  go_loopw [5] (fun i wr => ∃ j : Nat, j ≤ ps.length ∧ i = .int .i64 j ∧ Below w2.heap.size w2 wr) (fun i _ => ps.length - (intOf i).toNat)
  case atStart => exact ⟨0, Nat.zero_le _, rfl, Below.refl _ _⟩
  case round =>
    obtain ⟨j, hj, rfl, hbel⟩ := hrel
    obtain ⟨x5, y5⟩ := HP.out _ hbel
    by_cases hlt : j < ps.length
    · have hji : (j : Int) < (ps.length : Int) := by omega
      obtain ⟨d', hd⟩ : ∃ d', d = d' + 1 := by
        cases d with
        | zero =>
          have e : ps = [] := HS.out
          rw [e] at hlt
          exact absurd hlt (by simp)
        | succ d' => exact ⟨d', rfl⟩
      have HF' : Hid (SdQ d') := HF.out d' hd
      subst hd
      obtain ⟨g1, o1, rfl, _, hg1, hc1⟩ := (HA.out wr hbel) (by omega)
      obtain ⟨g2, o2, rfl, _, hg2, hc2⟩ := (HB.out wr hbel) (by omega)
      obtain ⟨p1, e1, ⟨c0, c1, c2, c3, c4, c5⟩, hq1⟩ := hc1 j hlt
      obtain ⟨p2, e2, ⟨d0, d1, d2, d3, d4, d5⟩, hq2⟩ := hc2 j hlt
      have hss := (HS.out.2 j hlt).2.2
      clear hc1 hc2
      generalize qat ps j = q at *
      obtain ⟨kd, f', t', lo', hi', pp⟩ := q
      simp only [Qy.kind, Qy.field, Qy.text, Qy.low, Qy.high, Qy.parts] at c0 c1 c2 c3 c4 c5 d0 d1 d2 d3 d4 d5 hq1 hq2 hss
      have HC : Hid (Calls Tryz.prog 26 #[.agg #[.int .i64 kd, .string f', .string t', .int .i64 lo', .int .i64 hi', .slice p1 pp.length e1], .agg #[.int .i64 kd, .string f', .string t', .int .i64 lo', .int .i64 hi', .slice p2 pp.length e2]] wr.drew fun e w' => e = .returned (.bool true) ∧ Below wr.drew.heap.size wr.drew w') := HF'.out kd f' t' lo' hi' pp p1 p2 e1 e2 _ (hq1.below (below_drew (Below.refl _ _))) (hq2.below (below_drew (Below.refl _ _))) hss
      clear hq1 hq2 hss HF'
      go_wp2
      go_region_with (go_at_call 26; refine HC.out.mono ?_; rintro e w3 ⟨rfl, hb3d⟩; have hb3 : Below wr.heap.size wr w3 := ⟨hb3d.os, hb3d.tape, hb3d.output, hb3d.size, hb3d.block⟩; clear hb3d)
      all_goals
        have hw3 := below_trans hbel hb3
        clear HC hb3 c0 c1 c2 c3 c4 c5 d0 d1 d2 d3 d4 d5 x5 y5
        go_wp2
        go_roundw
        case rel => exact ⟨j + 1, by omega, by go_num, hw3⟩
        case measure => simp [intOf]; omega
    · have hjl : j = ps.length := by omega
      subst hjl
      have hww := HB0.out.trans (hbel.mono HB0.out.size)
      go_wp2
      go_ret
      exact ⟨rfl, hww⟩
theorem sdQ_any : ∀ d, SdQ d
  | 0 => sdQ_of (fun d' h => by omega)
  | d + 1 => sdQ_of (fun d' h => by obtain rfl : d = d' := by omega
                                    exact sdQ_any d)
end Go.Proofs.YtjkimadnopeakaaGreatDoor

/- The wrap of a card whose walk needs the world's shape. -/
namespace Go.Proofs.YtjkimadnopeakaaGreatDoor
variable {H : Type} {enc : TypeId × Value → H}
theorem wrap_shaped {a : Assume} {C : Checked} {os : Os} {f : FuncId} {fn : Func} {s : ChangeSpec} {conds : List PathCond} {apart fresh handsOn again : Bool} {X : World → Array Value → Prop}
    (hX : ∀ (w w' : World) (args : Array Value), w.heap = w'.heap → X w args → X w' args)
    (own : ownKnob C.prog.godebug = none) (started : os.Started) (noInit : C.prog.inits.idxOf? f = none) (hfn : C.prog.funcs[f]? = some fn)
    (witness : ∃ (w : World) (tape : Tape) (i : Input), w.os = os ∧ (w.forCall tape i).Shaped C.prog ∧ i.vars = [] ∧ Input.okWide C.prog (w.forCall tape i) .any w.heap.size f i ∧
      ((s.pre enc C.prog fn conds apart (w.forCall tape i).memory i.args ∧ X (w.forCall tape i).memory i.args) ∧ sizedMet enc C.prog fn (OpenSpec.ofChange s) apart (w.forCall tape i).memory i.args) ∧ a.holds C.prog (lone (Frame.enter C.prog f i.args .normal) [] (w.forCall tape i)))
    (walk : ∀ (W : World) (base : Nat) (args : Array Value) (ds gs : List (DataW H)) (before : List MemPlace),
      (∀ (j : Nat) t v, fn.params[j]? = some t → args[j]? = some v → Value.okWide C.prog W .any base t v) →
      DataW.Whole enc C.prog fn.params.toList s.vars apart W args.toList ds gs before → X W args → W.ShapedOpen C.prog →
      Calls C.prog f args W fun e W' => ∃ v, e = .returned v ∧ s.post enc C.prog fn apart fresh handsOn again W args v W') :
    ReturnsInHanded a C os f .any (fun w args => (s.pre enc C.prog fn conds apart w args ∧ X w args) ∧ sizedMet enc C.prog fn (OpenSpec.ofChange s) apart w args) (s.post enc C.prog fn apart fresh handsOn again) := by
  refine returnsInHanded_of_calls own started noInit witness ?_
  intro w tape i _ hsh _ hok hpre _
  obtain ⟨_, _, _, fn', hfn', _, _, _, _, hval⟩ := hok
  obtain rfl : fn' = fn := Option.some.inj (hfn'.symm.trans hfn)
  obtain ⟨⟨⟨ds, gs, before, hw, _⟩, hx⟩, _⟩ := hpre
  refine (walk (w.forCall tape i) w.heap.size i.args ds gs before hval (DataW.Whole.of_heap (w' := w.forCall tape i) (by rfl) hw) (hX _ _ _ (by rfl) hx) hsh).mono fun e W' ⟨v, he, hp⟩ => ?_
  subst he
  exact ChangeSpec.post_blind hp
end Go.Proofs.YtjkimadnopeakaaGreatDoor
