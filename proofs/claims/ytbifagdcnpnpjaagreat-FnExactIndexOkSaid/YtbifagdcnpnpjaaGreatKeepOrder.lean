/- keepOrder: a new word where it stands among all others. -/
import Derived.Test.YtbifagdcnpnpjaaGreatSpotFind
import Derived.Test.YtbifagdcnpnpjaaGreatInsertK
import Derived.Test.YtbifagdcnpnpjaaGreatPstMore
import Derived.Test.YtbifagdcnpnpjaaGreatMg0FnExactIndexOk
import Derived.Test.YtbifagdcnpnpjaaGreatMg5FnExactIndexOk
namespace Go.Proofs.YtbifagdcnpnpjaaGreat
open Go Go.Sort Go.RowKit Go.BigFrame
set_option linter.unusedVariables false

theorem own_type' {w : World} {B s n b : Nat} {e T : TypeId} {v : Value} {xs : List Value} {cs : Array Value} (hown : w.ownsRow B e s v n xs) (hb : Blk w b cs T) (hTe : T ≠ e) : v.ownBlock ≠ some b := own_type hown hb hTe
def KeepA (B bw : Nat) (mm : Option Nat) (vo : Value) (ks' : List Ky) (w w' : World) (e : Ending) : Prop := e = .returned (.tuple #[]) ∧ ∃ vo', Blk w' bw #[.map mm, vo'] 82 ∧ w'.ownsRow B 149 2 vo' ks'.length (kyCells ks') ∧ Tch (bw :: vo.ownBlock.toList) w w'
def keepK (ks : List Ky) (f t : ByteArray) : List Ky := if t.size = 0 then ks else putK ks f t
set_option maxRecDepth 100000 in
set_option maxHeartbeats 4000000 in
theorem keepOrder_any (B bw : Nat) (mm : Option Nat) (vo : Value) (ks : List Ky) (f t : ByteArray) (w : World) (hB : B ≤ w.heap.size) (hl : ks.length ≤ 1000000) (hasc : KAsc ks) (hbx : Blk w bw #[.map mm, vo] 82) (ho : w.ownsRow B 149 2 vo ks.length (kyCells ks)) :
    Calls Tryz.prog 139 #[.pointer (some ⟨bw, 0, none⟩), .agg #[.string f, .string t]] w fun e w' => KeepA B bw mm vo (keepK ks f t) w w' e := by
  obtain ⟨po, co, rfl, hco, hpn, hrow⟩ := owns_spots ho
  obtain ⟨W0, hW0⟩ : ∃ W0, w.alloc (.cells #[.string f, .string t] 149) = W0 := ⟨_, rfl⟩
  have hb0 : Below w.heap.size w W0 := by rw [← hW0]; exact (Below.refl _ w).alloc (Nat.le_refl _) _
  have S0 : Blk W0 w.heap.size #[.string f, .string t] 149 := by rw [← hW0]; exact Blk.new w _ _
  have X0 := hbx.below hb0 hbx.lt
  have HO0 : Hid (W0.ownsRow B 149 2 (.slice po ks.length co) ks.length (kyCells ks)) := row_same ho fun g hg => hb0.block g (ho.lt g hg).2
  have HR0 : Hid (SpotRow W0 po ks) := hrow.below hb0
  have HA : Hid (KAsc ks) := hasc
  have hbwl := hbx.lt
  have s0 := S0.cell 0
  have s1 := S0.cell 1
  have x1 := X0.cell 1
  simp at s0 s1 x1
  have hne : w.heap.size ≠ bw := by omega
  by_cases ht : t.size = 0
  · have n1 : t.toList.isEmpty = true := by rw [size_nil ht, ByteArray.toList_eq]; rfl
    have HFIN : Hid (KeepA B bw mm (.slice po ks.length co) (keepK ks f t) w W0 (.returned (.tuple #[]))) := ⟨rfl, _, X0, by unfold keepK; rw [if_pos ht]; exact HO0.out, Tch.of_below hb0⟩
    clear hbx ho hrow X0 S0 HO0 HR0 ht
    go_enter Tryz.func139, Tryz.ntmps139
    go_wp2
    exact bodyPost_ret (v := .tuple #[]) (by simp [results, Tryz.results139, go_sem]) rfl HFIN.out
  · have n1 : t.toList.isEmpty = false := nil_empty t ht
    have HKK : Hid (keepK ks f t = ks.take (placeK ks f t) ++ [(f, t)] ++ ks.drop (placeK ks f t)) := by unfold Hid keepK putK; rw [if_neg ht]; simp
    have hpl := placeK_le ks f t
    have HSR : Hid (Calls Tryz.prog 152 #[.slice po ks.length co, .agg #[.string f, .string t], .func (.func 153) #[] #[]] W0.drew fun e w' => FoundK ks f t W0.drew w' e) := searchK_any po co ks f t W0.drew (by omega) hasc HR0.out
    clear hbx ho hrow HR0 ht
    go_enter Tryz.func139, Tryz.ntmps139
    go_wp2
    refine wp_region_still_one 5 (by kernel_rfl) (by kernel_rfl) rfl ?_
    simp only [List.take_succ_cons, List.take_zero]
    repeat still_step
    refine wpStill_nil ?_
    refine oneK_want rfl ?_
    go_simp
    go_at_call 152
    refine HSR.out.mono ?_
    rintro e w2 ⟨b, rfl, hb2d⟩
    have hb2 : Below W0.heap.size W0 w2 := ⟨hb2d.os, hb2d.tape, hb2d.output, hb2d.size, hb2d.block⟩
    generalize placeK ks f t = k at *
    unfold RestK
    simp only [List.drop_succ_cons, List.drop_zero]
    repeat (go_big_quiet_step (fail))
    refine wpQuiet_nil ?_
    intro _ hw'
    obtain ⟨nq, hw''⟩ := hw'
    subst hw''
    have hb3 : Below W0.heap.size W0 (w2.drewN nq) := below_drewN hb2 _
    clear hb2 hb2d HSR s0 s1 x1
    generalize w2.drewN nq = w3 at *
    have S3 := S0.below hb3 S0.lt
    have X3 := X0.below hb3 X0.lt
    have hO3 : w3.ownsRow B 149 2 (.slice po ks.length co) ks.length (kyCells ks) := row_same HO0.out fun g hg => hb3.block g (HO0.out.lt g hg).2
    have HO3 : Hid (w3.ownsRow B 149 2 (.slice po ks.length co) ks.length (kyCells ks)) := hO3
    have s0 := S3.cell 0
    have s1 := S3.cell 1
    have x1 := X3.cell 1
    simp at s0 s1 x1
    have hs3 : w.heap.size ≤ w3.heap.size := Nat.le_trans hb0.size hb3.size
    have hbw3 := X3.lt
    have hvb : Value.ownBlock (.slice po ks.length co) ≠ some bw := own_type hO3 X3 (by decide)
    obtain ⟨W4, hW4⟩ : ∃ W4, (w3.drew).alloc (.cells #[.string f, .string t] 149) = W4 := ⟨_, rfl⟩
    have hb4 : Below w3.heap.size w3 W4 := by rw [← hW4]; exact (below_drew (Below.refl _ w3)).alloc (Nat.le_refl _) _
    have V4 : Blk W4 w3.heap.size #[.string f, .string t] 149 := by rw [← hW4]; exact Blk.new w3.drew _ _
    have X4 := X3.below hb4 X3.lt
    have hO4 : W4.ownsRow B 149 2 (.slice po ks.length co) ks.length (kyCells ks) := row_same HO3.out fun g hg => hb4.block g (HO3.out.lt g hg).2
    have HIN : Hid (Calls Tryz.prog 154 #[.slice po ks.length co, .int .i64 k, .slice (some ⟨w3.heap.size, 0, none⟩) 1 1] W4 fun e w' => ∃ v', e = .returned v' ∧ w'.ownsRow B 149 2 v' (ks.length + 1) (kyCells (ks.take k ++ [⟨f, t⟩] ++ ks.drop k)) ∧ W4.grownBy w' (Value.slice po ks.length co).ownBlock) :=
      insertK_any B w3.heap.size k po co ks f t W4 (by omega) hpl (by have := hb4.size; omega) hO4 V4 (fun y e h => by
        have hlt := (HO3.out.lt y.block (by rw [e]; rfl)).2
        omega)
    have HFIN : Hid (∀ v' w5, w5.ownsRow B 149 2 v' (ks.length + 1) (kyCells (ks.take k ++ [⟨f, t⟩] ++ ks.drop k)) → W4.grownBy w5 (Value.slice po ks.length co).ownBlock → KeepA B bw mm (.slice po ks.length co) (keepK ks f t) w (w5.setCell ⟨bw, 1, none⟩ v') (.returned (.tuple #[]))) := fun v' w5 h5 hg5 => by
      have X5 := X4.grown hg5 (fun e => hvb e.symm)
      have hlen : (ks.take k ++ [(f, t)] ++ ks.drop k).length = ks.length + 1 := by simp; omega
      refine ⟨rfl, v', X5.set 1 v', ?_, ?_⟩
      · rw [HKK.out, hlen]
        exact row_set h5 (own_type h5 X5 (by decide)) _
      · refine ((((Tch.of_below hb0).trans (Tch.of_below hb3)).trans (Tch.of_below hb4)).trans (Tch.of_grown hg5 (fun b hb => ?_))).trans (Tch.set (by simp) _)
        rw [hb]
        simp
    have HX5 : Hid (∀ w5, W4.grownBy w5 (Value.slice po ks.length co).ownBlock → Blk w5 bw #[.map mm, .slice po ks.length co] 82) := fun w5 hg5 => X4.grown hg5 (fun e => hvb e.symm)
    have z1 := X4.cell 1
    have S4 := S3.below hb4 S3.lt
    have z2 := S4.cell 0
    have z3 := S4.cell 1
    simp at z1 z2 z3
    clear S4 S0 X0 HO0 HA HKK hb3 S3 X3 hO3 HO3 X4 hO4 V4 hb4 hW0 hb0 hvb
    go_wp2
    go_region_with (first
      | (go_at_call 154; refine HIN.out.mono ?_; rintro e w5 ⟨v', rfl, h5, hg5⟩; obtain ⟨p', c', hv', _, _, _, _⟩ := row_val h5; subst hv'; have HE := HFIN.out _ w5 h5 hg5; have X5 := HX5.out w5 hg5; have y1 := X5.cell 1; have y2 := X5.frozen 1; simp at y1; clear h5 hg5 X5)
      | fail)
    all_goals
      go_wp2
      go_end0
      exact HE
end Go.Proofs.YtbifagdcnpnpjaaGreat
