/- The walk of the law FnHintAll. -/
import Derived.Test.YtgmfaganaeibkaaDoorWHintLess
namespace Go.Proofs.YtgmfaganaeibkaaDoor
open Go.RowKit
set_option linter.unusedVariables false

theorem insAt_perm (hs : List Hn) (k : Nat) (y : Hn) : (insAt hs k y).Perm (y :: hs) := by
  unfold insAt
  rw [List.append_assoc, List.singleton_append]
  have h := List.perm_middle (a := y) (l₁ := hs.take k) (l₂ := hs.drop k)
  rwa [List.take_append_drop] at h
theorem insW_perm (l : List Hn) (y : Hn) : (insW l y).Perm (y :: l) := insAt_perm l _ y
theorem sortW_perm (l : List Hn) : (sortW l).Perm l := by
  have key : ∀ (l acc : List Hn), (l.foldl insW acc).Perm (l ++ acc) := fun l => by
    induction l with
    | nil => intro acc; exact List.Perm.refl _
    | cons a l ih =>
      intro acc
      rw [List.foldl_cons]
      refine (ih _).trans ?_
      refine (List.Perm.append_left l (insW_perm acc a)).trans ?_
      exact List.perm_middle
  have := key l []
  rwa [List.append_nil] at this
theorem findH_nothing (hs : List Hn) : findH hs ⟨#[]⟩ = hs := by
  unfold findH
  rw [List.filter_eq_self]
  intro a _
  unfold preB
  have e : (a.text.extract 0 (⟨#[]⟩ : ByteArray).size) = ⟨#[]⟩ := by
    apply ByteArray.ext
    apply Array.toList_inj.1
    rw [ByteArray.data_extract]
    show (a.text.data.extract 0 0).toList = []
    simp
  rw [e]
  have e0 : (⟨#[]⟩ : ByteArray).size = 0 := rfl
  rw [e0, decide_eq_true (Nat.zero_le _)]
  simp
/-- Texts of hints that are ok are unlike each other. -/
theorem texts_apart {hs : List Hn} (h : AscH hs) : hs.Pairwise fun a b => a.text ≠ b.text := by
  rw [List.pairwise_iff_getElem]
  intro i j hi hj hij e
  have := h i j hij hj
  rw [hnat_get _ _ hi, hnat_get _ _ hj, e, less_irrefl] at this
  cases this
theorem apart_perm {a b : List Hn} (h : a.Perm b) (ha : b.Pairwise fun a b => a.text ≠ b.text) : a.Pairwise fun a b => a.text ≠ b.text :=
  (List.Perm.pairwise_iff (fun h e => h e.symm) h).2 ha
/-- What was put in one by one. -/
def AllI (Y A : List Hn) (i : Nat) : Prop := hintsB A = true ∧ A.Perm (Y.take i)
theorem all_start (Y : List Hn) : AllI Y [] 0 := ⟨by rw [hints_iff]; exact ⟨by simp, fun i hi => absurd hi (by simp), fun i j _ hj => absurd hj (by simp)⟩, by simp⟩
theorem all_step {L Y A : List Hn} {i : Nat} (hL : hintsB L = true) (hY : Y.Perm L) (hA : AllI Y A i) (hi : i < Y.length) {r : List Hn} {b : Bool} (h : AddH A (hnat Y i).text (hnat Y i).weight (r, b)) : b = true ∧ AllI Y r (i + 1) := by
  obtain ⟨h10, hok, hasc⟩ := hints_iff.1 hL
  obtain ⟨hB, hp⟩ := hA
  have hlen : A.length = i := by rw [hp.length_eq, List.length_take]; omega
  have hYl : Y.length = L.length := hY.length_eq
  have hmem : hnat Y i ∈ L := hY.mem_iff.1 (by rw [hnat_get _ _ hi]; exact List.getElem_mem hi)
  obtain ⟨j, hj, hje⟩ := List.getElem_of_mem hmem
  obtain ⟨ht, hw⟩ := hok j hj
  rw [hnat_get _ _ hj, hje] at ht hw
  have hap := apart_perm hY (texts_apart hasc)
  rcases h with ⟨h1, _⟩ | ⟨_, h1, _⟩ | ⟨_, _, k, hpos, h1⟩
  · rw [hB] at h1; cases h1
  · rw [ht, hw] at h1; cases h1
  · have hh : hereH A (hnat Y i).text k = false := by
      cases hh : hereH A (hnat Y i).text k with
      | false => rfl
      | true =>
        exfalso
        have hk := hereH_lt hh
        have hm : hnat A k ∈ Y.take i := hp.mem_iff.1 (by rw [hnat_get _ _ hk]; exact List.getElem_mem hk)
        obtain ⟨q, hq, hqe⟩ := List.getElem_of_mem hm
        have hq2 := hq
        rw [List.length_take] at hq2
        rw [List.getElem_take] at hqe
        have := List.pairwise_iff_getElem.1 hap q i (by omega) hi (by omega)
        apply this
        rw [hqe, hereH_text hh, hnat_get _ _ hi]
    unfold addAt at h1
    rw [hh, if_neg (by simp), if_pos (by omega)] at h1
    injection h1 with h1 h2
    refine ⟨h2, ?_, ?_⟩
    · rw [h1]
      exact ins_ok hB (by omega) ht hw hpos hh
    · rw [h1]
      refine (insAt_perm A k (hnat Y i)).trans ?_
      rw [take_snoc _ _ hi]
      exact (List.Perm.cons _ hp).trans (List.perm_append_singleton _ _).symm
theorem all_end {L Y A : List Hn} (hL : hintsB L = true) (hY : Y.Perm L) (hA : AllI Y A Y.length) : A = L := by
  obtain ⟨hB, hp⟩ := hA
  rw [List.take_of_length_le (Nat.le_refl _)] at hp
  obtain ⟨_, _, a1⟩ := hints_iff.1 hB
  obtain ⟨_, _, a2⟩ := hints_iff.1 hL
  have pw : ∀ {l : List Hn}, AscH l → l.Pairwise fun a b => Op.bytesLess a.text.toList b.text.toList = true := fun {l} h => by
    rw [List.pairwise_iff_getElem]
    intro i j hi hj hij
    have := h i j hij hj
    rwa [hnat_get _ _ hi, hnat_get _ _ hj] at this
  refine List.Perm.eq_of_pairwise (fun a b _ _ h1 h2 => ?_) (pw a1) (pw a2) (hp.trans hY)
  have := less_trans _ _ _ h1 h2
  rw [less_irrefl] at this
  cases this
set_option maxRecDepth 100000 in
set_option maxHeartbeats 4000000 in
theorem wFnHintAll (a0 : Option Addr) (len0 cap0 : Nat) (w : World) (hm : MaxL w) (b0 : BytesIn w a0 len0 cap0) :
    Calls Tryd.prog 5 #[.slice a0 len0 cap0] w fun e w' => e = .returned (.bool true) ∧ Below w.heap.size w w' := by
  have m0 := b0.le
  have m1 := b0.max
  unfold maxLen at m1
  by_cases hbig0 : 1048576 < (len0 : Int)
  · clear b0 hm
    go_enter Tryd.func5, Tryd.ntmps5
    go_wp2
    go_ret
    exact ⟨rfl, Below.refl _ _⟩
  have HM : Hid (∀ wx, Below w.heap.size w wx → MaxL wx) := fun wx h => hm.below h
  clear hm
  go_enter Tryd.func5, Tryd.ntmps5
  go_wp2_with fail
  refine (drawHintFind_any _ _ _ _ b0).mono ?_
  rintro e u1 ⟨G, C, L, t, x, rfl, hL, ht, hx, hD, hb1⟩
  have HSM : Hid (HnsSmall L) := hD.2.1
  have HR : Hid (∀ wx, Below u1.heap.size u1 wx → HnRow wx (some ⟨G, 0, none⟩) L) := fun wx h => hD.row.below h
  have HMU : Hid (∀ wx, Below u1.heap.size u1 wx → MaxL wx) := fun wx h => HM.out wx (below_trans hb1 h)
  have hl1 := findR_len L ⟨#[]⟩ 10
  clear hD b0 HM
  go_wp2_with fail
  refine (findI_row (some ⟨G, 0, none⟩) C L ⟨#[]⟩ 10 u1 (by omega) HSM.out (HMU.out _ (Below.refl _ _)) (HR.out _ (Below.refl _ _))).mono ?_
  rintro e u2 ⟨p2, c2, rfl, r2, hb2⟩
  go_wp2_with fail
  refine (findS_row (some ⟨G, 0, none⟩) C L ⟨#[]⟩ 10 u2 (by omega) HSM.out (HR.out _ hb2)).mono ?_
  rintro e u3 ⟨p3, c3, rfl, q3, hb3⟩
  have r3 := r2.below hb3
  have hb13 := below_trans hb2 hb3
  clear r2 hb2 hb3
  go_wp2_with fail
  refine (sdHints_same p2 p3 c2 c3 _ _ (by omega) r3 q3).mono ?_
  rintro e u4 ⟨rfl, hb4⟩
  have r4 := r3.below hb4
  have hb14 := below_trans hb13 hb4
  clear r3 q3 hb13 hb4
  go_wp2_with fail
  refine (hintsS_any (some ⟨G, 0, none⟩) C L _ (by omega) HSM.out (HR.out _ hb14)).mono ?_
  rintro e u5 ⟨rfl, hb5⟩
  have r5 := r4.below hb5
  have hb15 := below_trans hb14 hb5
  clear r4 hb14 hb5
  cases hB : hintsB L with
  | false =>
    go_wp2_with fail
    refine (findS_row (some ⟨G, 0, none⟩) C L ⟨#[]⟩ 10 u5 (by omega) HSM.out (HR.out _ hb15)).mono ?_
    rintro e u6 ⟨p6, c6, rfl, q6, hb6⟩
    have r6 := r5.below hb6
    go_wp2_with fail
    refine (sdHints_same p2 p6 c2 c6 _ _ (by omega) r6 q6).mono ?_
    rintro e u7 ⟨rfl, hb7⟩
    clear r5 r6 q6
    go_wp2
    go_ret
    exact ⟨rfl, below_trans hb1 (below_trans hb15 (below_trans hb6 hb7))⟩
  | true =>
    have hY : FindR L ⟨#[]⟩ 10 = sortW L := by rw [findR_all hB, findH_nothing]
    have HYP : Hid ((sortW L).Perm L) := sortW_perm L
    have hYl : (sortW L).length = L.length := sortW_len L
    rw [hY] at r5
    rw [hY]
    clear hY hl1
    have HSY : Hid (∀ i, i < (sortW L).length → (hnat (sortW L) i).text.size ≤ 1048576 ∧ 1 ≤ (hnat (sortW L) i).weight ∧ (hnat (sortW L) i).weight ≤ 999999999) := fun i hi => by
      have hm : hnat (sortW L) i ∈ L := HYP.out.mem_iff.1 (by rw [hnat_get _ _ hi]; exact List.getElem_mem hi)
      obtain ⟨j, hj, hje⟩ := List.getElem_of_mem hm
      have h1 := (hints_facts hB).2 j hj
      rw [hnat_get _ _ hj, hje] at h1
      exact ⟨by omega, h1.2⟩
    have HST : Hid (∀ i A r b, AllI (sortW L) A i → i < (sortW L).length → AddH A (hnat (sortW L) i).text (hnat (sortW L) i).weight (r, b) → b = true ∧ AllI (sortW L) r (i + 1)) := fun i A r b h1 h2 h3 => all_step hB HYP.out h1 h2 h3
    have HEN : Hid (∀ A, AllI (sortW L) A (sortW L).length → A = L) := fun A h => all_end hB HYP.out h
    have HS0 : Hid (AllI (sortW L) [] 0) := all_start _
    generalize sortW L = Y at *
    have HRY : Hid (∀ wx, Below u5.heap.size u5 wx → HnRow wx p2 Y) := fun wx h => r5.below h
    have HRL : Hid (∀ wx, Below u5.heap.size u5 wx → HnRow wx (some ⟨G, 0, none⟩) L) := fun wx h => HR.out wx (below_trans hb15 h)
    have HM5 : Hid (∀ wx, Below u5.heap.size u5 wx → MaxL wx) := fun wx h => HMU.out wx (below_trans hb15 h)
    have hw5 := below_trans hb1 hb15
    have hY10 : Y.length ≤ 16 := by omega
    have hbl : Below u5.heap.size u5 (u5.alloc (.cells #[] 31)) := (Below.refl _ u5).alloc (Nat.le_refl _) _
    clear r5 HYP hb15 HR HMU hb1
    go_wp2
    go_loopw [7, 8] (fun va vi wr => ∃ (i c : Nat) (p : Option Addr) (A : List Hn), vi = .int .i64 i ∧ va = .slice p A.length c ∧ i ≤ Y.length ∧ A.length ≤ 16 ∧ AllI Y A i ∧ HnsSmall A ∧ HnRow wr p A ∧ Below u5.heap.size u5 wr) (fun _ vi _ => Y.length - (intOf vi).toNat)
    case atStart => exact ⟨0, 0, some ⟨u5.heap.size, 0, none⟩, [], rfl, rfl, Nat.zero_le _, by simp, HS0.out, fun i hi => absurd hi (by simp), fun h => absurd h (by simp), hbl⟩
    case round =>
      obtain ⟨i, c, p, A, rfl, rfl, hi, hA16, hAI, hsA, hrA, hbr⟩ := hrel
      clear hbl
      by_cases hlt : i < Y.length
      · have hii : (i : Int) < (Y.length : Int) := by omega
        obtain ⟨g, off, rfl, hg, hc⟩ := HRY.out _ hbr (by omega)
        obtain ⟨d0, d1⟩ := hc i hlt
        obtain ⟨z1, z2, z3⟩ := HSY.out i hlt
        have HST1 : Hid (∀ r b, AddH A (hnat Y i).text (hnat Y i).weight (r, b) → b = true ∧ AllI Y r (i + 1)) := fun r b h => HST.out i A r b hAI hlt h
        generalize hnat Y i = y at *
        obtain ⟨ty, xy⟩ := y
        simp only at d0 d1 z1 z2 z3 HST1
        clear hc hAI
        go_wp2_with fail
        refine wp_region_still_one 11 (by kernel_rfl) (by kernel_rfl) rfl ?_
        simp only [List.take_succ_cons, List.take_zero]
        still_step
        still_step
        still_step
        still_step
        still_step
        still_step
        still_step
        still_step
        still_step
        still_step
        still_step
        refine wpStill_nil ?_
        unfold OneK
        go_simp
        go_at_call 12
        refine (hintAddI_any p c A ty xy _ (by omega) hsA z1 (by omega) (by exact HM5.out _ (below_drew hbr)) (by exact hrA.below (below_drew (Below.refl _ _)))).mono ?_
        rintro e w2 ⟨v2, ⟨r, b⟩, rfl, hadd, hlr, ho, hb2d⟩
        have hb2 : Below wr.heap.size wr w2 := ⟨hb2d.os, hb2d.tape, hb2d.output, hb2d.size, hb2d.block⟩
        simp only at hlr ho
        obtain ⟨rfl, hAI2⟩ := HST1.out r b hadd
        have HSR : Hid (HnsSmall r) := addH_small hadd hsA z1
        obtain ⟨pr, cr, rfl, hrr⟩ := own_hns2 ho
        have hbq := hbr.trans (hb2.mono hbr.size)
        have HAI2 : Hid (AllI Y r (i + 1)) := hAI2
        have hr16 : r.length ≤ 16 := by
          have h1 := hAI2.2.length_eq
          rw [List.length_take] at h1
          omega
        clear hadd ho hAI2 HST1 hrA hsA hbr hb2 hb2d d0 d1
        unfold RestK
        simp only [List.drop_succ_cons, List.drop_zero]
        repeat (go_big_quiet_step (fail))
        refine wpQuiet_nil ?_
        intro _ hw'
        obtain ⟨nq, hw''⟩ := hw'
        subst hw''
        go_wp2
        go_roundw
        case rel => exact ⟨i + 1, cr, pr, r, by go_num, rfl, by omega, hr16, HAI2.out, HSR.out, hrr.below (below_drewN (Below.refl _ _) nq), below_drewN hbq nq⟩
        case measure => simp [intOf]; omega
      · have hie : i = Y.length := by omega
        subst hie
        have hAL := HEN.out A hAI
        subst hAL
        go_wp2_with fail
        refine (sdHints_same p (some ⟨G, 0, none⟩) c C A _ (by omega) hrA (HRL.out _ hbr)).mono ?_
        rintro e u6 ⟨rfl, hb6⟩
        clear hrA
        go_wp2
        go_ret
        exact ⟨rfl, below_trans hw5 (hbr.trans (hb6.mono hbr.size))⟩
end Go.Proofs.YtgmfaganaeibkaaDoor
