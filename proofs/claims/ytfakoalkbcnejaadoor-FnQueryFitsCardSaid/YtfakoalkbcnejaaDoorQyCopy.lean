/- partsMade and queryCopy of the program. -/
import Derived.Test.YtfakoalkbcnejaaDoorQyMade
namespace Go.Proofs.YtfakoalkbcnejaaDoor
open Go.RowKit
set_option linter.unusedVariables false

theorem six_one (q : Qy) (p : Option Addr) (c : Nat) : ∀ u ∈ qVal q p c, u.oneCell' = true := by
  intro u hu
  unfold qVal at hu
  simp only [List.mem_cons, List.not_mem_nil, or_false] at hu
  rcases hu with rfl | rfl | rfl | rfl | rfl | rfl <;> rfl
/-- What is made of a question lies in blocks of its own. -/
def Makes (d' : Nat) (fid : FuncId) (q q' : Qy) (p : Option Addr) (c : Nat) (w : World) : Prop :=
  Calls Tryd.prog fid #[.agg #[.int .i64 q.kind, .string q.field, .string q.text, .int .i64 q.low, .int .i64 q.high, .slice p q.parts.length c]] w fun e w' => ∃ p' c' fp, e = .returned (.agg #[.int .i64 q'.kind, .string q'.field, .string q'.text, .int .i64 q'.low, .int .i64 q'.high, .slice p' q'.parts.length c']) ∧ (QOwn w' d' p' c' q'.parts fp ∧ ∀ b ∈ fp, w.heap.size ≤ b) ∧ Below w.heap.size w w'
theorem partsMade_nil (fid : FuncId) (a : Option Addr) (c : Nat) (w : World) : Calls Tryd.prog 77 #[.slice a 0 c, .func (.func fid) #[] #[]] w fun e w' => e = .returned (.slice none 0 0) ∧ w' = w := by
  go_enter Tryd.func77, Tryd.ntmps77
  go_wp2
  refine wp_loop_rounds 1 ?_
  rw [rounds_succ]
  go_wp2
  go_ret
  exact ⟨rfl, rfl⟩
set_option maxRecDepth 100000 in
set_option maxHeartbeats 4000000 in
theorem partsMade_any (fid : FuncId) (hfid : fid = 52 ∨ fid = 76) (d d' : Nat) (ps : List Qy) (made : Nat → Qy) (rs : List Qy) (hrs : (List.range ps.length).map made = rs) (a : Option Addr) (c : Nat) (w : World) (ha : QAt w 0 (d + 1) a ps) (hz : ps.length ≤ 1048576)
    (hm : ∀ i, i < ps.length → ∀ p c wx, Below w.heap.size w wx → QAt wx 0 d p (qat ps i).parts → Makes d' fid (qat ps i) (made i) p c wx) :
    Calls Tryd.prog 77 #[.slice a ps.length c, .func (.func fid) #[] #[]] w fun e w' => ∃ p' c' fp, e = .returned (.slice p' rs.length c') ∧ (QOwn w' (d' + 1) p' c' rs fp ∧ ∀ b ∈ fp, w.heap.size ≤ b) ∧ Below w.heap.size w w' := by
  obtain ⟨i0, hi0, hz0, hz1, hz2⟩ := info_parts infoQy
  have HA : Hid (∀ wx, Below w.heap.size w wx → QAt wx 0 (d + 1) a ps) := fun wx h => ha.below h
  have HM : Hid (∀ i, i < ps.length → ∀ p c wx, Below w.heap.size w wx → QAt wx 0 d p (qat ps i).parts → Makes d' fid (qat ps i) (made i) p c wx) := hm
  have HRS : Hid ((List.range ps.length).map made = rs) := hrs
  clear ha hm hrs
  rcases hfid with rfl | rfl
  all_goals
    go_enter Tryd.func77, Tryd.ntmps77
    go_wp2
    go_loopw [5, 10] (fun v i wr => ∃ (j : Nat) (xs : List Value) (fps : Nat → List Nat), j ≤ ps.length ∧ i = .int .i64 j ∧ QList wr w.heap.size d' v xs ((List.range j).map made) fps ∧ Below w.heap.size w wr) (fun _ i _ => ps.length - (intOf i).toNat)
    case atStart => exact ⟨0, [], fun _ => [], Nat.zero_le _, rfl, QList.nil _ _ _, Below.refl _ _⟩
    case round =>
      obtain ⟨j, xs, fps, hj, rfl, hql, hbel⟩ := hrel
      by_cases hlt : j < ps.length
      · have hji : (j : Int) < (ps.length : Int) := by omega
        obtain ⟨g, off, rfl, _, hg, hc⟩ := (HA.out wr hbel) (by omega)
        obtain ⟨p, c, ⟨c0, c1, c2, c3, c4, c5⟩, hq⟩ := hc j hlt
        have HMJ : Hid (∀ p c wx, Below w.heap.size w wx → QAt wx 0 d p (qat ps j).parts → Makes d' _ (qat ps j) (made j) p c wx) := HM.out j hlt
        have HSN : Hid ((List.range (j + 1)).map made = (List.range j).map made ++ [made j]) := by unfold Hid; rw [List.range_succ, List.map_append]; rfl
        have HLJ : Hid (((List.range j).map made).length = j) := by unfold Hid; simp
        generalize made j = q' at *
        generalize qat ps j = q at *
        obtain ⟨kd, f, t, lo, hi', pp⟩ := q
        simp only [Qy.kind, Qy.field, Qy.text, Qy.low, Qy.high, Qy.parts] at c0 c1 c2 c3 c4 c5 hq
        have hba : Below wr.heap.size wr (wr.alloc (.cells #[.int .i64 kd, .string f, .string t, .int .i64 lo, .int .i64 hi', .slice p pp.length c] 29)) := (Below.refl _ wr).alloc (Nat.le_refl _) _
        have hqa := hq.below hba
        have hwa := hbel.trans (hba.mono hbel.size)
        have HMK := HMJ.out p c _ hwa hqa
        have HQL : Hid (QList wr w.heap.size d' _ xs ((List.range j).map made) fps) := hql
        clear hc hql HM
        generalize (List.range j).map made = qs at *
        go_wp2_with fail
        refine HMK.mono ?_
        rintro e w2 ⟨p', c', fp, rfl, ⟨hq2, hfp2⟩, hb2⟩
        have hw2 := hwa.trans (hb2.mono hwa.size)
        have hwr2 := hba.trans (hb2.mono hba.size)
        clear c0 c1 c2 c3 c4 c5 hq hqa hwa hba hb2 HMK HMJ
        obtain ⟨kd', f', t', lo', hi2, pp'⟩ := q'
        have h3 := (Below.refl w2.heap.size w2).alloc (Nat.le_refl _) (.cells #[.int .i64 kd', .string f', .string t', .int .i64 lo', .int .i64 hi2, .slice p' pp'.length c'] 29)
        have HR3 : Hid ((w2.alloc (.cells #[.int .i64 kd', .string f', .string t', .int .i64 lo', .int .i64 hi2, .slice p' pp'.length c'] 29)).ownsRow w.heap.size 29 6 _ qs.length xs) := (HQL.out.row.kept (grown_none hwr2) (Classical.em _)).alloc _
        have HW3 : Hid (Below w.heap.size w (w2.alloc (.cells #[.int .i64 kd', .string f', .string t', .int .i64 lo', .int .i64 hi2, .slice p' pp'.length c'] 29))) := hw2.trans (h3.mono hw2.size)
        have HWR3 : Hid (Below wr.heap.size wr (w2.alloc (.cells #[.int .i64 kd', .string f', .string t', .int .i64 lo', .int .i64 hi2, .slice p' pp'.length c'] 29))) := hwr2.trans (h3.mono hwr2.size)
        have HQ3 : Hid (QOwn (w2.alloc (.cells #[.int .i64 kd', .string f', .string t', .int .i64 lo', .int .i64 hi2, .slice p' pp'.length c'] 29)) d' p' c' pp' fp ∧ ∀ b ∈ fp, wr.heap.size ≤ b) := ⟨hq2.below h3, fun b hb => by have := hfp2 b hb; simp at this; omega⟩
        have HBR : Hid (w.heap.size ≤ wr.heap.size) := hbel.size
        have HLQ : Hid (qs.length ≤ 1048576) := by unfold Hid; rw [HLJ.out]; omega
        clear hq2 hfp2 hwr2 h3 hw2 hbel
        have T2 : Hid (∀ u ∈ [Value.int .i64 kd', .string f', .string t', .int .i64 lo', .int .i64 hi2, .slice p' pp'.length c'], u.oneCell' = true) := six_one (.mk kd' f' t' lo' hi2 pp') p' c'
        have T6 : Hid (qs.length + 1 ≤ maxLen) := by have := HLQ.out; unfold Hid maxLen; omega
        have T4 : Hid ((qs.length + 1) * 80 ≤ 140737488355328) := by have := HLQ.out; unfold Hid; omega
        have T7 : Hid (w.heap.size ≤ (w2.alloc (.cells #[.int .i64 kd', .string f', .string t', .int .i64 lo', .int .i64 hi2, .slice p' pp'.length c'] 29)).heap.size) := HW3.out.size
        go_wp2_with (at_builtin; refine wpList_append_own_at _ rfl _ _ 27 rfl w.heap.size 29 i0 (.agg #[.int .i64 0, .string ⟨#[]⟩, .string ⟨#[]⟩, .int .i64 0, .int .i64 0, .slice none 0 0]) 6 80 Tryd.underlying27 hi0 hz0 hz1 hz2 rfl (by decide) _ _ _ rfl HR3.out ⟨w2.heap.size, 0, none⟩ 1 1 [.int .i64 kd', .string f', .string t', .int .i64 lo', .int .i64 hi2, .slice p' pp'.length c'] rfl rfl (cells_new _ _ _) T2.out T6.out T4.out T7.out ?_)
        intro v' w4 hown' hgrow _ hat
        have HN : Hid (QList w4 w.heap.size d' v' (xs ++ qVal (.mk kd' f' t' lo' hi2 pp') p' c') (qs ++ [.mk kd' f' t' lo' hi2 pp']) (fun i => if i = qs.length then fp else fps i)) := HQL.out.snoc HBR.out HWR3.out HQ3.out.1 HQ3.out.2 hown' hgrow (by rw [World.size_alloc]; exact hat)
        have HW4 : Hid (Below w.heap.size w w4) := HW3.out.grown hgrow HW3.out.size (fun j hj => (HQL.out.row.lt j hj).1)
        clear hown' hgrow hat HQL HR3 HW3 HWR3 HQ3 T2 T6 T4 T7
        go_wp2
        go_roundw
        case rel => exact ⟨j + 1, _, _, by omega, by go_num, by rw [HSN.out]; exact HN.out, HW4.out⟩
        case measure => simp [intOf]; omega
      · have hjl : j = ps.length := by omega
        subst hjl
        rw [HRS.out] at hql
        obtain ⟨p', c', fp, hv, hq, hf⟩ := hql.own
        subst hv
        have HQ : Hid (QOwn wr (d' + 1) p' c' rs fp ∧ ∀ b ∈ fp, w.heap.size ≤ b) := ⟨hq, hf⟩
        clear hql hq hf HA HM HRS
        go_wp2
        go_ret
        exact ⟨p', c', fp, rfl, HQ.out, hbel⟩
end Go.Proofs.YtfakoalkbcnejaaDoor
