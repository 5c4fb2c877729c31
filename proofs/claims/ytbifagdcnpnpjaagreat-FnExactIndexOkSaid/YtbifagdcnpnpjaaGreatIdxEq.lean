/- Two indexes that hold the same are told to be the same. -/
import Derived.Test.YtbifagdcnpnpjaaGreatIdxSz
import Derived.Test.YtbifagdcnpnpjaaGreatEqInts
import Derived.Test.YtbifagdcnpnpjaaGreatFldsOk3
namespace Go.Proofs.YtbifagdcnpnpjaaGreat
open Go.RowKit
set_option linter.unusedVariables false

theorem eqPost_same (x : Pst) (a b : Option Addr) (ca cb : Nat) (w : World) (hl : PstSm x) (ha : IntRow w a x.ats) (hb : IntRow w b x.ats) :
    Calls Tryz.prog 75 #[.agg #[.int .i64 x.doc, .slice a x.ats.length ca], .agg #[.int .i64 x.doc, .slice b x.ats.length cb]] w fun e w' => e = .returned (.bool true) ∧ Below w.heap.size w w' := by
  obtain ⟨d, zs⟩ := x
  have hl' : zs.length ≤ 1048576 := hl
  simp only at ha hb ⊢
  have hb0 : Below w.heap.size w ((w.alloc (.cells #[.int .i64 d, .slice a zs.length ca] 107)).alloc (.cells #[.int .i64 d, .slice b zs.length cb] 107)) := ((Below.refl _ w).alloc (Nat.le_refl _) _).alloc (by simp) _
  have a0 := ha.below hb0
  have b0 := hb.below hb0
  clear ha hb hl
  go_enter Tryz.func75, Tryz.ntmps75
  go_wp2_with fail
  refine (eqIntS_same a b ca cb zs _ (by omega) a0 b0).mono ?_
  rintro e w2 ⟨rfl, hb2⟩
  have hb3 : Below w.heap.size w w2 := hb0.trans (hb2.mono (by simp; omega))
  clear a0 b0
  go_wp2
  go_ret
  exact ⟨rfl, hb3⟩

set_option maxHeartbeats 1000000 in
theorem eqPostS_same (a b : Option Addr) (ca cb : Nat) (ls : List Pst) (w : World) (hl : ls.length ≤ 1048576) (hsm : ∀ x ∈ ls, PstSm x) (ha : PstRow w a ls) (hb : PstRow w b ls) :
    Calls Tryz.prog 34 #[.slice a ls.length ca, .slice b ls.length cb] w fun e w' => e = .returned (.bool true) ∧ Below w.heap.size w w' := by
  go_enter Tryz.func34, Tryz.ntmps34
  go_wp2
  go_loopw [5] (fun i wr => ∃ k : Nat, k ≤ ls.length ∧ i = .int .i64 k ∧ Below w.heap.size w wr) (fun i _ => ls.length - (intOf i).toNat)
  case atStart => exact ⟨0, Nat.zero_le _, rfl, Below.refl _ _⟩
  case round =>
    obtain ⟨k, hk, rfl, hbel⟩ := hrel
    by_cases hlt : k < ls.length
    · obtain ⟨g1, o1, rfl, hg1, hc1⟩ := (ha.below hbel) (by omega)
      obtain ⟨g2, o2, rfl, hg2, hc2⟩ := (hb.below hbel) (by omega)
      have hget : ls[k]? = some ls[k] := List.getElem?_eq_getElem hlt
      obtain ⟨q1, e1, r0, r1, _, x1⟩ := hc1 k ls[k] hget
      obtain ⟨q2, e2, s0, s1, _, x2⟩ := hc2 k ls[k] hget
      have HS : Hid (PstSm ls[k]) := hsm _ (List.getElem_mem hlt)
      have HC : Hid (∀ wx, Below wr.heap.size wr wx → Calls Tryz.prog 75 #[.agg #[.int .i64 ls[k].doc, .slice q1 ls[k].ats.length e1], .agg #[.int .i64 ls[k].doc, .slice q2 ls[k].ats.length e2]] wx fun e w' => e = .returned (.bool true) ∧ Below wx.heap.size wx w') := fun wx hbx => eqPost_same ls[k] q1 q2 e1 e2 wx HS.out (x1.below hbx) (x2.below hbx)
      clear ha hb hc1 hc2 hget x1 x2 hsm
      generalize ls[k] = el at *
      have HD : Hid (Below wr.heap.size wr wr.drew) := below_drew (Below.refl _ _)
      go_wp2
      go_region_with (go_at_call 75; refine (HC.out _ HD.out).mono ?_; rintro e w2 ⟨rfl, hb2d⟩; have hb2 : Below wr.heap.size wr w2 := ⟨hb2d.os, hb2d.tape, hb2d.output, hb2d.size, hb2d.block⟩; clear hb2d)
      all_goals
        go_wp2
        go_roundw
        case rel => exact ⟨k + 1, by omega, by go_num, hbel.trans (hb2.mono hbel.size)⟩
        case measure => simp [intOf]; omega
    · clear ha hb
      go_wp2
      go_ret
      exact ⟨rfl, hbel⟩

theorem eqEntry_same (x : Ent) (a b : Option Addr) (ca cb : Nat) (w : World) (hl : EntSm x) (ha : PstRow w a x.posts) (hb : PstRow w b x.posts) :
    Calls Tryz.prog 98 #[.agg #[.string x.field, .string x.term, .slice a x.posts.length ca], .agg #[.string x.field, .string x.term, .slice b x.posts.length cb]] w fun e w' => e = .returned (.bool true) ∧ Below w.heap.size w w' := by
  obtain ⟨f, t, ps⟩ := x
  obtain ⟨_, _, hp⟩ := hl
  simp only at ha hb hp ⊢
  have HP : Hid (PstsSm ps) := hp
  clear hp
  have hb0 : Below w.heap.size w ((w.alloc (.cells #[.string f, .string t, .slice a ps.length ca] 99)).alloc (.cells #[.string f, .string t, .slice b ps.length cb] 99)) := ((Below.refl _ w).alloc (Nat.le_refl _) _).alloc (by simp) _
  have a0 := ha.below hb0
  have b0 := hb.below hb0
  clear ha hb
  go_enter Tryz.func98, Tryz.ntmps98
  go_wp2_with fail
  refine (eqPostS_same a b ca cb ps _ HP.out.1 HP.out.2 a0 b0).mono ?_
  rintro e w2 ⟨rfl, hb2⟩
  have hb3 : Below w.heap.size w w2 := hb0.trans (hb2.mono (by simp; omega))
  clear a0 b0
  go_wp2
  go_ret
  exact ⟨rfl, hb3⟩

set_option maxHeartbeats 1000000 in
theorem eqEntryS_same (a b : Option Addr) (ca cb : Nat) (ls : List Ent) (w : World) (hl : ls.length ≤ 1048576) (hsm : ∀ x ∈ ls, EntSm x) (ha : EntRow w a ls) (hb : EntRow w b ls) :
    Calls Tryz.prog 52 #[.slice a ls.length ca, .slice b ls.length cb] w fun e w' => e = .returned (.bool true) ∧ Below w.heap.size w w' := by
  go_enter Tryz.func52, Tryz.ntmps52
  go_wp2
  go_loopw [5] (fun i wr => ∃ k : Nat, k ≤ ls.length ∧ i = .int .i64 k ∧ Below w.heap.size w wr) (fun i _ => ls.length - (intOf i).toNat)
  case atStart => exact ⟨0, Nat.zero_le _, rfl, Below.refl _ _⟩
  case round =>
    obtain ⟨k, hk, rfl, hbel⟩ := hrel
    by_cases hlt : k < ls.length
    · obtain ⟨g1, o1, rfl, hg1, hc1⟩ := (ha.below hbel) (by omega)
      obtain ⟨g2, o2, rfl, hg2, hc2⟩ := (hb.below hbel) (by omega)
      have hget : ls[k]? = some ls[k] := List.getElem?_eq_getElem hlt
      obtain ⟨q1, e1, r0, r1, r2, _, x1⟩ := hc1 k ls[k] hget
      obtain ⟨q2, e2, s0, s1, s2, _, x2⟩ := hc2 k ls[k] hget
      have HS : Hid (EntSm ls[k]) := hsm _ (List.getElem_mem hlt)
      have HC : Hid (∀ wx, Below wr.heap.size wr wx → Calls Tryz.prog 98 #[.agg #[.string ls[k].field, .string ls[k].term, .slice q1 ls[k].posts.length e1], .agg #[.string ls[k].field, .string ls[k].term, .slice q2 ls[k].posts.length e2]] wx fun e w' => e = .returned (.bool true) ∧ Below wx.heap.size wx w') := fun wx hbx => eqEntry_same ls[k] q1 q2 e1 e2 wx HS.out (x1.below hbx) (x2.below hbx)
      clear ha hb hc1 hc2 hget x1 x2 hsm
      generalize ls[k] = el at *
      have HD : Hid (Below wr.heap.size wr wr.drew) := below_drew (Below.refl _ _)
      go_wp2
      go_region_with (go_at_call 98; refine (HC.out _ HD.out).mono ?_; rintro e w2 ⟨rfl, hb2d⟩; have hb2 : Below wr.heap.size wr w2 := ⟨hb2d.os, hb2d.tape, hb2d.output, hb2d.size, hb2d.block⟩; clear hb2d)
      all_goals
        go_wp2
        go_roundw
        case rel => exact ⟨k + 1, by omega, by go_num, hbel.trans (hb2.mono hbel.size)⟩
        case measure => simp [intOf]; omega
    · clear ha hb
      go_wp2
      go_ret
      exact ⟨rfl, hbel⟩

theorem eqRow_same (x : Rw) (a b : Option Addr) (ca cb : Nat) (w : World) (hl : RwSm x) (ha : CelRow w a x.cells) (hb : CelRow w b x.cells) :
    Calls Tryz.prog 97 #[.agg #[.int .i64 x.id, .string x.key, .slice a x.cells.length ca], .agg #[.int .i64 x.id, .string x.key, .slice b x.cells.length cb]] w fun e w' => e = .returned (.bool true) ∧ Below w.heap.size w w' := by
  obtain ⟨d, k, cs⟩ := x
  obtain ⟨_, hp, _⟩ := hl
  simp only at ha hb hp ⊢
  have hb0 : Below w.heap.size w ((w.alloc (.cells #[.int .i64 d, .string k, .slice a cs.length ca] 69)).alloc (.cells #[.int .i64 d, .string k, .slice b cs.length cb] 69)) := ((Below.refl _ w).alloc (Nat.le_refl _) _).alloc (by simp) _
  have a0 := ha.below hb0
  have b0 := hb.below hb0
  clear ha hb
  go_enter Tryz.func97, Tryz.ntmps97
  go_wp2_with fail
  refine (eqDoc_same k a b ca cb cs _ (by omega) a0 b0).mono ?_
  rintro e w2 ⟨rfl, hb2⟩
  have hb3 : Below w.heap.size w w2 := hb0.trans (hb2.mono (by simp; omega))
  clear a0 b0
  go_wp2
  go_ret
  exact ⟨rfl, hb3⟩

set_option maxHeartbeats 1000000 in
theorem eqRowS_same (a b : Option Addr) (ca cb : Nat) (ls : List Rw) (w : World) (hl : ls.length ≤ 1048576) (hsm : ∀ x ∈ ls, RwSm x) (ha : RwRow w a ls) (hb : RwRow w b ls) :
    Calls Tryz.prog 51 #[.slice a ls.length ca, .slice b ls.length cb] w fun e w' => e = .returned (.bool true) ∧ Below w.heap.size w w' := by
  go_enter Tryz.func51, Tryz.ntmps51
  go_wp2
  go_loopw [5] (fun i wr => ∃ k : Nat, k ≤ ls.length ∧ i = .int .i64 k ∧ Below w.heap.size w wr) (fun i _ => ls.length - (intOf i).toNat)
  case atStart => exact ⟨0, Nat.zero_le _, rfl, Below.refl _ _⟩
  case round =>
    obtain ⟨k, hk, rfl, hbel⟩ := hrel
    by_cases hlt : k < ls.length
    · obtain ⟨g1, o1, rfl, hg1, hc1⟩ := (ha.below hbel) (by omega)
      obtain ⟨g2, o2, rfl, hg2, hc2⟩ := (hb.below hbel) (by omega)
      have hget : ls[k]? = some ls[k] := List.getElem?_eq_getElem hlt
      obtain ⟨q1, e1, r0, r1, r2, _, x1⟩ := hc1 k ls[k] hget
      obtain ⟨q2, e2, s0, s1, s2, _, x2⟩ := hc2 k ls[k] hget
      have HS : Hid (RwSm ls[k]) := hsm _ (List.getElem_mem hlt)
      have HC : Hid (∀ wx, Below wr.heap.size wr wx → Calls Tryz.prog 97 #[.agg #[.int .i64 ls[k].id, .string ls[k].key, .slice q1 ls[k].cells.length e1], .agg #[.int .i64 ls[k].id, .string ls[k].key, .slice q2 ls[k].cells.length e2]] wx fun e w' => e = .returned (.bool true) ∧ Below wx.heap.size wx w') := fun wx hbx => eqRow_same ls[k] q1 q2 e1 e2 wx HS.out (x1.below hbx) (x2.below hbx)
      clear ha hb hc1 hc2 hget x1 x2 hsm
      generalize ls[k] = el at *
      have HD : Hid (Below wr.heap.size wr wr.drew) := below_drew (Below.refl _ _)
      go_wp2
      go_region_with (go_at_call 97; refine (HC.out _ HD.out).mono ?_; rintro e w2 ⟨rfl, hb2d⟩; have hb2 : Below wr.heap.size wr w2 := ⟨hb2d.os, hb2d.tape, hb2d.output, hb2d.size, hb2d.block⟩; clear hb2d)
      all_goals
        go_wp2
        go_roundw
        case rel => exact ⟨k + 1, by omega, by go_num, hbel.trans (hb2.mono hbel.size)⟩
        case measure => simp [intOf]; omega
    · clear ha hb
      go_wp2
      go_ret
      exact ⟨rfl, hbel⟩

theorem eqIndex_same (x : Idx) (pf : Option Addr) (cf : Nat) (pr : Option Addr) (cr : Nat) (pe : Option Addr) (ce : Nat) (pf' : Option Addr) (cf' : Nat) (pr' : Option Addr) (cr' : Nat) (pe' : Option Addr) (ce' : Nat) (w : World) (hs : IdxSm x) (ha : IdxAt w pf cf pr cr pe ce x) (hb : IdxAt w pf' cf' pr' cr' pe' ce' x) :
    Calls Tryz.prog 13 #[.agg (idxC pf cf pr cr pe ce x), .agg (idxC pf' cf' pr' cr' pe' ce' x)] w fun e w' => e = .returned (.bool true) ∧ Below w.heap.size w w' := by
  unfold idxC
  have hb0 : Below w.heap.size w ((w.alloc (.cells #[.slice pf x.fields.length cf, .slice pr x.rows.length cr, .slice pe x.ents.length ce, .int .i64 x.next] 33)).alloc (.cells #[.slice pf' x.fields.length cf', .slice pr' x.rows.length cr', .slice pe' x.ents.length ce', .int .i64 x.next] 33)) := ((Below.refl _ w).alloc (Nat.le_refl _) _).alloc (by simp) _
  have A0 := (Blk.new w #[.slice pf x.fields.length cf, .slice pr x.rows.length cr, .slice pe x.ents.length ce, .int .i64 x.next] 33).alloc (.cells #[.slice pf' x.fields.length cf', .slice pr' x.rows.length cr', .slice pe' x.ents.length ce', .int .i64 x.next] 33)
  have B0 : Blk ((w.alloc (.cells #[.slice pf x.fields.length cf, .slice pr x.rows.length cr, .slice pe x.ents.length ce, .int .i64 x.next] 33)).alloc (.cells #[.slice pf' x.fields.length cf', .slice pr' x.rows.length cr', .slice pe' x.ents.length ce', .int .i64 x.next] 33)) (w.heap.size + 1) #[.slice pf' x.fields.length cf', .slice pr' x.rows.length cr', .slice pe' x.ents.length ce', .int .i64 x.next] 33 := by
    have h := Blk.new (w.alloc (.cells #[.slice pf x.fields.length cf, .slice pr x.rows.length cr, .slice pe x.ents.length ce, .int .i64 x.next] 33)) #[.slice pf' x.fields.length cf', .slice pr' x.rows.length cr', .slice pe' x.ents.length ce', .int .i64 x.next] 33
    rw [show (w.alloc (.cells #[.slice pf x.fields.length cf, .slice pr x.rows.length cr, .slice pe x.ents.length ce, .int .i64 x.next] 33)).heap.size = w.heap.size + 1 from by simp] at h
    exact h
  have HA : Hid (∀ wx, Below w.heap.size w wx → IdxAt wx pf cf pr cr pe ce x) := fun wx h => ha.below h
  have HB : Hid (∀ wx, Below w.heap.size w wx → IdxAt wx pf' cf' pr' cr' pe' ce' x) := fun wx h => hb.below h
  have HS : Hid (IdxSm x) := hs
  clear ha hb hs
  go_enter Tryz.func13, Tryz.ntmps13
  go_wp2_with fail
  refine (eqFieldS_same pf pf' cf cf' x.fields _ (by have := HS.out.fl; omega) (HA.out _ hb0).f (HB.out _ hb0).f).mono ?_
  rintro e w1 ⟨rfl, hb1⟩
  have A1 := A0.below hb1 A0.lt
  have B1 := B0.below hb1 B0.lt
  have hw1 := below_trans hb0 hb1
  clear A0 B0 hb0 hb1
  have a1 := A1.cell 1
  have b1 := B1.cell 1
  simp at a1 b1
  go_wp2_with fail
  refine (eqRowS_same pr pr' cr cr' x.rows _ HS.out.rs.1 HS.out.rs.2 (HA.out _ hw1).r (HB.out _ hw1).r).mono ?_
  rintro e w2 ⟨rfl, hb2⟩
  have A2 := A1.below hb2 A1.lt
  have B2 := B1.below hb2 B1.lt
  have hw2 := below_trans hw1 hb2
  clear A1 B1 hw1 hb2 a1 b1
  have a2 := A2.cell 2
  have b2 := B2.cell 2
  simp at a2 b2
  go_wp2_with fail
  refine (eqEntryS_same pe pe' ce ce' x.ents _ HS.out.es.1 HS.out.es.2 (HA.out _ hw2).e (HB.out _ hw2).e).mono ?_
  rintro e w3 ⟨rfl, hb3⟩
  have A3 := A2.below hb3 A2.lt
  have B3 := B2.below hb3 B2.lt
  have hw3 := below_trans hw2 hb3
  clear A2 B2 hw2 hb3 a2 b2
  have a3 := A3.cell 3
  have b3 := B3.cell 3
  simp at a3 b3
  go_wp2
  go_ret
  exact ⟨rfl, hw3⟩
end Go.Proofs.YtbifagdcnpnpjaaGreat
