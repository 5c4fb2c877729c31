/- HintFind of the model. -/
import Derived.Test.YtgmfaganaeibkaaDoorFindAll
namespace Go.Proofs.YtgmfaganaeibkaaDoor
open Go.RowKit
set_option linter.unusedVariables false

/-- What an answer of the model's HintFind is, in memory. -/
def FindAnsS (w : World) (L : List Hn) (e : Ending) (w' : World) : Prop := ∃ g c, e = .returned (.slice (some ⟨g, 0, none⟩) L.length c) ∧ w'.ownsRow w.heap.size 31 2 (.slice (some ⟨g, 0, none⟩) L.length c) L.length (hnCells L) ∧ Below w.heap.size w w'
theorem findAnsS_cut {w w' : World} {L R : List Hn} {g c k : Nat} (ho : w'.ownsRow w.heap.size 31 2 (.slice (some ⟨g, 0, none⟩) R.length c) R.length (hnCells R)) (hk : k ≤ R.length) (hL : L = R.take k) (hb : Below w.heap.size w w') : FindAnsS w L (.returned (.slice (some ⟨g, 0, none⟩) k c)) w' := by
  have e : L.length = k := by rw [hL, List.length_take, Nat.min_eq_left hk]
  have h := own_cut ho hk
  rw [← hnCells_take, ← hL] at h
  subst e
  exact ⟨g, c, rfl, h, hb⟩
set_option maxRecDepth 100000 in
set_option maxHeartbeats 8000000 in
theorem hintFindS_any (a : Option Addr) (cap : Nat) (hs : List Hn) (b : ByteArray) (m : Int) (w : World) (hz : hs.length ≤ 1048576) (hsm : HnsSmall hs) (hr : HnRow w a hs) :
    Calls Tryd.prog 19 #[.slice a hs.length cap, .string b, .int .i64 m] w fun e w' => FindAnsS w (FindR hs b m) e w' := by
  obtain ⟨i0, hi, hz0, hz1, hz2⟩ := info_parts infoHn
  have hb0 : Below w.heap.size w (w.alloc (.cells #[] 31)) := (Below.refl _ w).alloc (Nat.le_refl _) _
  have hlit : (w.alloc (.cells #[] 31)).ownsRow w.heap.size 31 2 (.slice (some ⟨w.heap.size, 0, none⟩) 0 0) 0 [] := World.ownsRow_lit w #[] 0 (Nat.le_refl _) (by decide) rfl
  have HH := hintsS_any a cap hs _ hz hsm (hr.below hb0)
  have HR : Hid (∀ wx, Below w.heap.size w wx → HnRow wx a hs) := fun wx h => hr.below h
  have HB0 : Hid (Below w.heap.size w (w.alloc (.cells #[] 31))) := hb0
  have HO0 : Hid ((w.alloc (.cells #[] 31)).ownsRow w.heap.size 31 2 (.slice (some ⟨w.heap.size, 0, none⟩) 0 0) 0 []) := hlit
  clear hr hb0 hlit
  by_cases hok : hintsB hs = true ∧ 0 ≤ m
  · obtain ⟨hB, hm⟩ := hok
    have HF : Hid (FindR hs b m = (sortW (findH hs b)).take m.toNat) := if_pos ⟨hB, hm⟩
    obtain ⟨h10, _⟩ := hints_facts hB
    have hmd : decide (m < 0) = false := decide_eq_false (by omega)
    rw [hB] at HH
    go_enter Tryd.func19, Tryd.ntmps19
    go_wp2_with fail
    refine HH.mono ?_
    rintro e w1 ⟨rfl, hb1⟩
    have HB1 : Hid (Below w.heap.size w w1) := HB0.out.trans (hb1.mono HB0.out.size)
    have HO1 : Hid (w1.ownsRow w.heap.size 31 2 (.slice (some ⟨w.heap.size, 0, none⟩) 0 0) 0 []) := HO0.out.kept (grown_none hb1) (Classical.em _)
    clear HH HB0 HO0 hb1
    go_wp2
    go_loopw [7, 8] (fun vo vi wr => ∃ (i G CC : Nat) (L : List Hn), vi = .int .i64 i ∧ vo = .slice (some ⟨G, 0, none⟩) L.length CC ∧ i ≤ hs.length ∧ L = sortW (findH (hs.take i) b) ∧ L.length ≤ CC ∧ wr.ownsRow w.heap.size 31 2 (.slice (some ⟨G, 0, none⟩) L.length CC) L.length (hnCells L) ∧ Below w.heap.size w wr) (fun _ vi _ => hs.length - (intOf vi).toNat)
    case atStart => exact ⟨0, w.heap.size, 0, [], rfl, rfl, Nat.zero_le _, by simp [findH, sortW], by simp, HO1.out, HB1.out⟩
    case round =>
      obtain ⟨i, G, CC, L, rfl, rfl, hil, hL, hLC, hor, hbr⟩ := hrel
      have HL : Hid (L = sortW (findH (hs.take i) b)) := hL
      have HOR : Hid (wr.ownsRow w.heap.size 31 2 (.slice (some ⟨G, 0, none⟩) L.length CC) L.length (hnCells L)) := hor
      have HBR : Hid (Below w.heap.size w wr) := hbr
      have hLl : L.length ≤ 10 := by
        rw [hL, sortW_len]
        have := findH_len (hs.take i) b
        rw [List.length_take] at this
        omega
      clear hL hor hbr HB1 HO1
      by_cases hlt : i < hs.length
      · have hii : (i : Int) < (hs.length : Int) := by omega
        obtain ⟨g, off, rfl, hg, hc⟩ := (HR.out wr HBR.out) (by omega)
        obtain ⟨c0, c1⟩ := hc i hlt
        have HCW : Hid (∀ wx, Below w.heap.size w wx → wx.cell? ⟨g, off + i * 2, none⟩ = some (.string (hnat hs i).text) ∧ wx.cell? ⟨g, off + i * 2 + 1, none⟩ = some (.int .i64 (hnat hs i).weight)) := fun wx h => by
          obtain ⟨g', off', e, _, hc'⟩ := (HR.out wx h) (by omega)
          cases e
          exact hc' i hlt
        have HFT : Hid (findH (hs.take (i + 1)) b = findH (hs.take i) b ++ (if preB b (hnat hs i).text = true then [hnat hs i] else [])) := findH_take hs b i hlt
        generalize hnat hs i = h0 at *
        obtain ⟨t, x⟩ := h0
        simp only at c0 c1 HCW HFT
        clear hc
        go_wp2_with fail
        refine (l4Begins_any t b wr).mono ?_
        rintro e wr ⟨rfl, rfl⟩
        cases hp : preB b t with
        | false =>
          have HIN : Hid (L = sortW (findH (hs.take (i + 1)) b)) := by
            unfold Hid
            rw [HFT.out, if_neg (by rw [hp]; simp), List.append_nil]
            exact HL.out
          clear HFT HL
          go_wp2
          go_roundw
          case rel => exact ⟨i + 1, G, CC, L, by go_num, rfl, by omega, HIN.out, hLC, HOR.out, HBR.out⟩
          case measure => simp [intOf]; omega
        | true =>
          have HIN : Hid (sortW (findH (hs.take (i + 1)) b) = insW L ⟨t, x⟩) := by
            unfold Hid
            rw [HFT.out, if_pos hp, sortW_snoc, ← HL.out]
          clear HFT HL c0 c1
          obtain ⟨n, hn⟩ : ∃ n, L.length = n := ⟨_, rfl⟩
          have HNL : Hid (L.length = n) := hn
          rw [hn] at hLC hLl HOR
          rw [hn]
          have hinsd : insW L ⟨t, x⟩ = L.take (posW L x n) ++ [⟨t, x⟩] ++ L.drop (posW L x n) := by unfold insW; rw [hn]
          have HINS : Hid (insW L ⟨t, x⟩ = L.take (posW L x n) ++ [⟨t, x⟩] ++ L.drop (posW L x n)) := hinsd
          clear hinsd hn
          go_wp2
          go_loopw [9] (fun vk w4 => ∃ k : Nat, vk = .int .i64 k ∧ k ≤ n ∧ posW L x n = posW L x k ∧ w4.ownsRow w.heap.size 31 2 (.slice (some ⟨G, 0, none⟩) n CC) n (hnCells L) ∧ Below w.heap.size w w4) (fun vk _ => (intOf vk).toNat)
          case atStart => exact ⟨n, rfl, Nat.le_refl _, rfl, HOR.out, HBR.out⟩
          case round =>
            rename World => w4
            obtain ⟨k, rfl, hkn, hpos, ho4, hb4⟩ := hrel
            have HP : Hid (posW L x n = posW L x k) := hpos
            have HO4 : Hid (w4.ownsRow w.heap.size 31 2 (.slice (some ⟨G, 0, none⟩) n CC) n (hnCells L)) := ho4
            have HB4 : Hid (Below w.heap.size w w4) := hb4
            obtain ⟨y0, y1⟩ := HCW.out w4 hb4
            clear hpos hb4 HOR HBR
            by_cases hk0 : k = 0
            · have HK : Hid (posW L x n = k) := by unfold Hid; rw [HP.out, hk0]; rfl
              have hkd : decide ((0 : Int) < (k : Int)) = false := decide_eq_false (by omega)
              have hkd2 : decide (0 < k) = false := decide_eq_false (by omega)
              clear HP hk0 ho4
              go_wp2
              go_quiet (fail)
              have ho5 := own_drewN HO4.out nq
              have hb5 := below_drewN HB4.out nq
              generalize w4.drewN nq = w5 at *
              have HO5 : Hid (w5.ownsRow w.heap.size 31 2 (.slice (some ⟨G, 0, none⟩) n CC) n (hnCells L)) := ho5
              have HB5 : Hid (Below w.heap.size w w5) := hb5
              clear ho5 hb5 HO4 HB4 y0 y1
              have HRD : Hid (∀ wx, Below w5.heap.size w5 wx → ∀ k m, k + m ≤ L.length → ∀ j u, (((hnCells L).drop (k * 2)).take (m * 2))[j]? = some u → wx.cell? ((⟨G, k * 2, none⟩ : Addr).add j) = some u) := fun wx h k m hk => by
                obtain ⟨p, c, e, hrL⟩ : ∃ p c, Value.slice (some ⟨G, 0, none⟩) L.length CC = .slice p L.length c ∧ HnRow w5 p L := by
                  have h4 := HO5.out
                  rw [← HNL.out] at h4
                  obtain ⟨p, c, e, _, _, _, hr⟩ := owns_hnRow h4 (hnTo_cells L)
                  exact ⟨p, c, e, hr⟩
                injection e with e1 _ _
                subst e1
                exact hnRead hrL h k m hk
              have HL0 : Hid ((hnCells L).length = n * 2) := by unfold Hid; rw [hnCells_len, HNL.out]
              have hkc : (k : Int) ≤ (CC : Int) := by omega
              have hki : (k : Int) ≤ (n : Int) := by omega
              obtain ⟨T1, hT1⟩ : ∃ T1, (hnCells L).take (k * 2) = T1 := ⟨_, rfl⟩
              obtain ⟨T3, hT3⟩ : ∃ T3, ((hnCells L).drop (k * 2)).take ((n - k) * 2) = T3 := ⟨_, rfl⟩
              have HL1 : Hid (T1.length = k * 2) := by unfold Hid; rw [← hT1, List.length_take, HL0.out]; omega
              have HL3 : Hid (T3.length = (n - k) * 2) := by unfold Hid; rw [← hT3, List.length_take, List.length_drop, HL0.out]; omega
              have HC1 : Hid (∀ u ∈ T1, u.oneCell' = true) := fun u hu => hns_one L u (by rw [← hT1] at hu; exact List.mem_of_mem_take hu)
              have HC3 : Hid (∀ u ∈ T3, u.oneCell' = true) := fun u hu => hns_one L u (by rw [← hT3] at hu; exact List.mem_of_mem_drop (List.mem_of_mem_take hu))
              have HJ : Hid (T1 ++ [.string t, .int .i64 x] ++ T3 = hnCells (insW L ⟨t, x⟩)) := by
                unfold Hid
                have hq : ((hnCells L).drop (k * 2)).take ((n - k) * 2) = (hnCells L).drop (k * 2) := List.take_of_length_le (by rw [List.length_drop, HL0.out]; omega)
                rw [HINS.out, HK.out, ← hT1, ← hT3, hq, hnCells_app, hnCells_app, hnCells_take, hnCells_drop]
                rfl
              have HR1 : Hid (∀ wx, Below w5.heap.size w5 wx → ∀ j u, T1[j]? = some u → wx.cell? ((⟨G, 0, none⟩ : Addr).add j) = some u) := fun wx hb j u hj => by
                have := HRD.out wx hb 0 k (by rw [HNL.out]; omega) j u (by rw [Nat.zero_mul, List.drop_zero, hT1]; exact hj)
                rw [Nat.zero_mul] at this
                exact this
              have HR3 : Hid (∀ wx, Below w5.heap.size w5 wx → ∀ j u, T3[j]? = some u → wx.cell? ((⟨G, k * 2, none⟩ : Addr).add j) = some u) := fun wx hb j u hj =>
                HRD.out wx hb k (n - k) (by rw [HNL.out]; omega) j u (by rw [hT3]; exact hj)
              have HCL : Hid (∀ wx, Below w5.heap.size w5 wx → wx.cell? ⟨g, off + i * 2, none⟩ = some (.string t) ∧ wx.cell? ⟨g, off + i * 2 + 1, none⟩ = some (.int .i64 x)) := fun wx h => HCW.out wx (HB5.out.trans (h.mono HB5.out.size))
              have HLN : Hid ((insW L ⟨t, x⟩).length = n + 1) := by unfold Hid; rw [insW_len, HNL.out]
              clear hT1 hT3 HRD HL0 HO5 HK HINS
              have HA0 : (w5.alloc (.cells #[] 31)).ownsRow w5.heap.size 31 2 (.slice (some ⟨w5.heap.size, 0, none⟩) 0 0) 0 [] := World.ownsRow_lit w5 #[] 0 (Nat.le_refl _) (by decide) rfl
              have HA : Hid ((w5.alloc (.cells #[] 31)).drew.ownsRow w5.heap.size 31 2 (.slice (some ⟨w5.heap.size, 0, none⟩) 0 0) 0 []) := And.intro HA0.1 HA0.2
              have HC : Hid (((w5.alloc (.cells #[] 31)).alloc (.cells #[.string t, .int .i64 x] 31)).drew.ownsRow w5.heap.size 31 2 (.slice (some ⟨w5.heap.size, 0, none⟩) 0 0) 0 []) := And.intro (HA0.alloc (.cells #[.string t, .int .i64 x] 31)).1 (HA0.alloc (.cells #[.string t, .int .i64 x] 31)).2
              have HF0 : ((w5.alloc (.cells #[.string t, .int .i64 x] 31)).alloc (.cells #[] 31)).ownsRow w5.heap.size 31 2 (.slice (some ⟨w5.heap.size + 1, 0, none⟩) 0 0) 0 [] := by
                have h := World.ownsRow_lit (e := 31) (size := 2) (w5.alloc (.cells #[.string t, .int .i64 x] 31)) #[] 0 (Nat.le_refl _) (by decide) rfl
                rw [show (w5.alloc (.cells #[.string t, .int .i64 x] 31)).heap.size = w5.heap.size + 1 from by simp] at h
                exact ownsRow_mono h (by omega)
              have HF : Hid (((w5.alloc (.cells #[.string t, .int .i64 x] 31)).alloc (.cells #[] 31)).drew.ownsRow w5.heap.size 31 2 (.slice (some ⟨w5.heap.size + 1, 0, none⟩) 0 0) 0 []) := And.intro HF0.1 HF0.2
              have hb0 := (Below.refl w5.heap.size w5).alloc (Nat.le_refl _) (.cells #[] 31)
              have hb1 := hb0.alloc hb0.size (.cells #[.string t, .int .i64 x] 31)
              have hb2 := (Below.refl w5.heap.size w5).alloc (Nat.le_refl _) (.cells #[.string t, .int .i64 x] 31)
              have hb3 := hb2.alloc hb2.size (.cells #[] 31)
              have hbA : Below w5.heap.size w5 (w5.alloc (.cells #[] 31)).drew := ⟨hb0.os, hb0.tape, hb0.output, hb0.size, hb0.block⟩
              have hbC : Below w5.heap.size w5 ((w5.alloc (.cells #[] 31)).alloc (.cells #[.string t, .int .i64 x] 31)).drew := ⟨hb1.os, hb1.tape, hb1.output, hb1.size, hb1.block⟩
              have hbF : Below w5.heap.size w5 ((w5.alloc (.cells #[.string t, .int .i64 x] 31)).alloc (.cells #[] 31)).drew := ⟨hb3.os, hb3.tape, hb3.output, hb3.size, hb3.block⟩
              have HNA : Hid (∀ j u, T1[j]? = some u → (w5.alloc (.cells #[] 31)).drew.cell? ((⟨G, 0, none⟩ : Addr).add j) = some u) := HR1.out _ hbA
              have HNC : Hid (∀ j u, T1[j]? = some u → ((w5.alloc (.cells #[] 31)).alloc (.cells #[.string t, .int .i64 x] 31)).drew.cell? ((⟨G, 0, none⟩ : Addr).add j) = some u) := HR1.out _ hbC
              have HNF : Hid (∀ j u, T1[j]? = some u → ((w5.alloc (.cells #[.string t, .int .i64 x] 31)).alloc (.cells #[] 31)).drew.cell? ((⟨G, 0, none⟩ : Addr).add j) = some u) := HR1.out _ hbF
              have HLC : Hid (∀ j u, [Value.string t, .int .i64 x][j]? = some u → ((w5.alloc (.cells #[] 31)).alloc (.cells #[.string t, .int .i64 x] 31)).drew.cell? ((⟨w5.heap.size + 1, 0, none⟩ : Addr).add j) = some u) := by
                have h := cells_new (w5.alloc (.cells #[] 31)) [Value.string t, .int .i64 x] 31
                rw [show (w5.alloc (.cells #[] 31)).heap.size = w5.heap.size + 1 from by simp] at h
                exact h
              have HLF : Hid (∀ j u, [Value.string t, .int .i64 x][j]? = some u → ((w5.alloc (.cells #[.string t, .int .i64 x] 31)).alloc (.cells #[] 31)).drew.cell? ((⟨w5.heap.size, 0, none⟩ : Addr).add j) = some u) := fun j u h => by
                have h1 := cells_new w5 [Value.string t, .int .i64 x] 31 j u h
                rw [addr_add] at h1 ⊢
                exact (((Below.refl _ (w5.alloc (.cells #[.string t, .int .i64 x] 31))).alloc (Nat.le_refl _) (.cells #[] 31)).cell (p := ⟨w5.heap.size, 0 + j, none⟩) (by simp)).trans h1
              have hgl : g < w5.heap.size := by
                obtain ⟨g', off', e, hl, _⟩ := (HR.out w5 HB5.out) (by omega)
                cases e
                exact hl
              obtain ⟨y0, y1⟩ := HCL.out w5 (Below.refl _ _)
              clear HA0 HF0 hb0 hb1 hb2 hb3 HR1 HCW
              by_cases hck : CC = k
              · have HT3 : Hid (T3 = []) := List.eq_nil_of_length_eq_zero (by rw [HL3.out]; omega)
                rw [HT3.out] at HJ
                have hne : n - k = 0 := by omega
                clear HR3 HC3 HL3 HT3 hne
                subst hck
                go_wp2_with fail
                go_region_law (first
                  | (refine step_append_own2 (by rfl) _ _ 23 (by rfl) w5.heap.size 31 i0 (.agg #[.string ⟨#[]⟩, .int .i64 0]) 2 24 Tryd.underlying23 hi hz0 hz1 hz2 rfl (by decide) (.slice (some ⟨w5.heap.size, 0, none⟩) 0 0) 0 [] (by rfl) (by with_reducible exact HA.out) ⟨G, 0, none⟩ CC CC T1 (by rfl) HL1.out (by with_reducible exact HNA.out) HC1.out (by unfold maxLen; omega) (by omega) (by simp <;> omega) ?_; intro v6 w6 hown6 hgrow6 hnn6; have hb6 : Below w5.heap.size w5 w6 := hbA.grown ⟨hgrow6.os, hgrow6.tape, hgrow6.output, hgrow6.size, hgrow6.block⟩ hbA.size (fun j hj => by cases hj; first | exact Nat.le_refl _ | exact Nat.le_succ _); have HO6 : Hid (w6.ownsRow w5.heap.size 31 2 v6 CC T1) := by { unfold Hid; simpa using hown6 }; have hs6 := hb6.size; obtain ⟨z0, z1⟩ := HCL.out w6 hb6; clear hown6 hgrow6)
                  | (refine step_append_own2 (by rfl) _ _ 23 (by rfl) w5.heap.size 31 i0 (.agg #[.string ⟨#[]⟩, .int .i64 0]) 2 24 Tryd.underlying23 hi hz0 hz1 hz2 rfl (by decide) (.slice (some ⟨w5.heap.size, 0, none⟩) 0 0) 0 [] (by rfl) (by with_reducible exact HC.out) ⟨G, 0, none⟩ CC CC T1 (by rfl) HL1.out (by with_reducible exact HNC.out) HC1.out (by unfold maxLen; omega) (by omega) (by simp <;> omega) ?_; intro v6 w6 hown6 hgrow6 hnn6; have hb6 : Below w5.heap.size w5 w6 := hbC.grown ⟨hgrow6.os, hgrow6.tape, hgrow6.output, hgrow6.size, hgrow6.block⟩ hbC.size (fun j hj => by cases hj; first | exact Nat.le_refl _ | exact Nat.le_succ _); have hl6 : ∀ j u, [Value.string t, .int .i64 x][j]? = some u → w6.cell? ((⟨w5.heap.size + 1, 0, none⟩ : Addr).add j) = some u := fun j u h => hgrow6.cell (HLC.out j u h) (by rw [addr_add]; simp [Value.ownBlock]); have HO6 : Hid (w6.ownsRow w5.heap.size 31 2 v6 CC T1) := by { unfold Hid; simpa using hown6 }; have hs6 := hb6.size; obtain ⟨z0, z1⟩ := HCL.out w6 hb6; clear hown6 hgrow6)
                  | (refine step_append_own2 (by rfl) _ _ 23 (by rfl) w5.heap.size 31 i0 (.agg #[.string ⟨#[]⟩, .int .i64 0]) 2 24 Tryd.underlying23 hi hz0 hz1 hz2 rfl (by decide) (.slice (some ⟨w5.heap.size + 1, 0, none⟩) 0 0) 0 [] (by rfl) (by with_reducible exact HF.out) ⟨G, 0, none⟩ CC CC T1 (by rfl) HL1.out (by with_reducible exact HNF.out) HC1.out (by unfold maxLen; omega) (by omega) (by simp <;> omega) ?_; intro v6 w6 hown6 hgrow6 hnn6; have hb6 : Below w5.heap.size w5 w6 := hbF.grown ⟨hgrow6.os, hgrow6.tape, hgrow6.output, hgrow6.size, hgrow6.block⟩ hbF.size (fun j hj => by cases hj; first | exact Nat.le_refl _ | exact Nat.le_succ _); have hl6 : ∀ j u, [Value.string t, .int .i64 x][j]? = some u → w6.cell? ((⟨w5.heap.size, 0, none⟩ : Addr).add j) = some u := fun j u h => hgrow6.cell (HLF.out j u h) (by rw [addr_add]; simp [Value.ownBlock]); have HO6 : Hid (w6.ownsRow w5.heap.size 31 2 v6 CC T1) := by { unfold Hid; simpa using hown6 }; have hs6 := hb6.size; obtain ⟨z0, z1⟩ := HCL.out w6 hb6; clear hown6 hgrow6)
                  | (refine step_append_own2 (by rfl) _ _ 23 (by rfl) w5.heap.size 31 i0 (.agg #[.string ⟨#[]⟩, .int .i64 0]) 2 24 Tryd.underlying23 hi hz0 hz1 hz2 rfl (by decide) v6 CC T1 (by rfl) (HO6.out.alloc _) ⟨w6.heap.size, 0, none⟩ 1 1 [.string t, .int .i64 x] (by rfl) rfl (cells_new _ _ _) (hn_one _ _) (by unfold maxLen; omega) (by omega) (by first | omega | (simp; omega)) ?_; intro v7 w7 hown7 hgrow7 hnn7; have hb7 : Below w5.heap.size w5 w7 := (hb6.alloc hb6.size (.cells #[.string t, .int .i64 x] 31)).grown ⟨hgrow7.os, hgrow7.tape, hgrow7.output, hgrow7.size, hgrow7.block⟩ (hb6.alloc hb6.size (.cells #[.string t, .int .i64 x] 31)).size (fun j hj => (HO6.out.lt j hj).1); have HO7 : Hid (w7.ownsRow w5.heap.size 31 2 v7 (CC + 1) (T1 ++ [.string t, .int .i64 x])) := hown7; have HN7 : Hid (v7 ≠ .slice none 0 0) := (fun e => by have := (hnn7.1 e).2; cases this); have hs7 := hb7.size; clear hown7 hgrow7 hnn7)
                  | (refine step_append_own2 (by rfl) _ _ 23 (by rfl) w5.heap.size 31 i0 (.agg #[.string ⟨#[]⟩, .int .i64 0]) 2 24 Tryd.underlying23 hi hz0 hz1 hz2 rfl (by decide) v6 CC T1 (by rfl) HO6.out ⟨w5.heap.size + 1, 0, none⟩ 1 1 [.string t, .int .i64 x] (by rfl) rfl (hl6) (hn_one _ _) (by unfold maxLen; omega) (by omega) (by first | omega | (simp; omega)) ?_; intro v7 w7 hown7 hgrow7 hnn7; have hb7 : Below w5.heap.size w5 w7 := (hb6).grown ⟨hgrow7.os, hgrow7.tape, hgrow7.output, hgrow7.size, hgrow7.block⟩ (hb6).size (fun j hj => (HO6.out.lt j hj).1); have HO7 : Hid (w7.ownsRow w5.heap.size 31 2 v7 (CC + 1) (T1 ++ [.string t, .int .i64 x])) := hown7; have HN7 : Hid (v7 ≠ .slice none 0 0) := (fun e => by have := (hnn7.1 e).2; cases this); have hs7 := hb7.size; clear hown7 hgrow7 hnn7)
                  | (refine step_append_own2 (by rfl) _ _ 23 (by rfl) w5.heap.size 31 i0 (.agg #[.string ⟨#[]⟩, .int .i64 0]) 2 24 Tryd.underlying23 hi hz0 hz1 hz2 rfl (by decide) v6 CC T1 (by rfl) HO6.out ⟨w5.heap.size, 0, none⟩ 1 1 [.string t, .int .i64 x] (by rfl) rfl (hl6) (hn_one _ _) (by unfold maxLen; omega) (by omega) (by first | omega | (simp; omega)) ?_; intro v7 w7 hown7 hgrow7 hnn7; have hb7 : Below w5.heap.size w5 w7 := (hb6).grown ⟨hgrow7.os, hgrow7.tape, hgrow7.output, hgrow7.size, hgrow7.block⟩ (hb6).size (fun j hj => (HO6.out.lt j hj).1); have HO7 : Hid (w7.ownsRow w5.heap.size 31 2 v7 (CC + 1) (T1 ++ [.string t, .int .i64 x])) := hown7; have HN7 : Hid (v7 ≠ .slice none 0 0) := (fun e => by have := (hnn7.1 e).2; cases this); have hs7 := hb7.size; clear hown7 hgrow7 hnn7)
                  | (refine step_append_own2 (by rfl) _ _ 23 (by rfl) w5.heap.size 31 i0 (.agg #[.string ⟨#[]⟩, .int .i64 0]) 2 24 Tryd.underlying23 hi hz0 hz1 hz2 rfl (by decide) v7 (CC + 1) (T1 ++ [.string t, .int .i64 x]) (by rfl) HO7.out ⟨G, 0, none⟩ 0 0 [] (by rfl) rfl (by simp) (by simp) (by unfold maxLen; omega) (by omega) (by omega) ?_; intro v8 w8 hown8 hgrow8 hnn8; have hb8 : Below w5.heap.size w5 w8 := hb7.grown ⟨hgrow8.os, hgrow8.tape, hgrow8.output, hgrow8.size, hgrow8.block⟩ hb7.size (fun j hj => (HO7.out.lt j hj).1); have HO8 : Hid (w8.ownsRow w5.heap.size 31 2 v8 (CC + 1) (T1 ++ [.string t, .int .i64 x] ++ [])) := hown8; have HN8 : Hid (v8 ≠ .slice none 0 0) := (fun e => HN7.out (hnn8.1 e).1); clear hown8 hgrow8 hnn8)
                  | fail)
                all_goals
                  have hb8' : Below w5.heap.size w5 w8 := hb8
                  have ho := HO8.out
                  rw [HJ.out] at ho
                  have HFIN : Hid (∃ G' C', v8 = .slice (some ⟨G', 0, none⟩) (insW L ⟨t, x⟩).length C' ∧ (insW L ⟨t, x⟩).length ≤ C' ∧ w8.ownsRow w.heap.size 31 2 (.slice (some ⟨G', 0, none⟩) (insW L ⟨t, x⟩).length C') (insW L ⟨t, x⟩).length (hnCells (insW L ⟨t, x⟩)) ∧ Below w.heap.size w w8) := by
                    obtain ⟨G', C', hv, hc', ho'⟩ := ret_hrow (by rw [HLN.out]; omega) ho HN8.out
                    exact ⟨G', C', hv, hc', ownsRow_mono ho' HB5.out.size, HB5.out.trans (hb8'.mono HB5.out.size)⟩
                  clear ho HO8 HN8 hb8 hb8' HO7 HN7 HO6 hb7 hb6
                  obtain ⟨G', C', rfl, hgc', ho', hbw⟩ := HFIN.out
                  have HOW : Hid (w8.ownsRow w.heap.size 31 2 (.slice (some ⟨G', 0, none⟩) (insW L ⟨t, x⟩).length C') (insW L ⟨t, x⟩).length (hnCells (insW L ⟨t, x⟩))) := ho'
                  have HBW : Hid (Below w.heap.size w w8) := hbw
                  clear ho' hbw HFIN
                  go_wp2
                  go_roundw
                  case rel => exact ⟨i + 1, G', C', insW L ⟨t, x⟩, by go_num, rfl, by omega, HIN.out.symm, hgc', HOW.out, HBW.out⟩
                  case measure => simp [intOf]; omega
              · go_wp2_with fail
                go_region_law (first
                  | (refine step_append_own2 (by rfl) _ _ 23 (by rfl) w5.heap.size 31 i0 (.agg #[.string ⟨#[]⟩, .int .i64 0]) 2 24 Tryd.underlying23 hi hz0 hz1 hz2 rfl (by decide) (.slice (some ⟨w5.heap.size, 0, none⟩) 0 0) 0 [] (by rfl) (by with_reducible exact HA.out) ⟨G, 0, none⟩ k CC T1 (by rfl) HL1.out (by with_reducible exact HNA.out) HC1.out (by unfold maxLen; omega) (by omega) (by simp <;> omega) ?_; intro v6 w6 hown6 hgrow6 hnn6; have hb6 : Below w5.heap.size w5 w6 := hbA.grown ⟨hgrow6.os, hgrow6.tape, hgrow6.output, hgrow6.size, hgrow6.block⟩ hbA.size (fun j hj => by cases hj; first | exact Nat.le_refl _ | exact Nat.le_succ _); have HO6 : Hid (w6.ownsRow w5.heap.size 31 2 v6 k T1) := by { unfold Hid; simpa using hown6 }; have hs6 := hb6.size; obtain ⟨z0, z1⟩ := HCL.out w6 hb6; clear hown6 hgrow6)
                  | (refine step_append_own2 (by rfl) _ _ 23 (by rfl) w5.heap.size 31 i0 (.agg #[.string ⟨#[]⟩, .int .i64 0]) 2 24 Tryd.underlying23 hi hz0 hz1 hz2 rfl (by decide) (.slice (some ⟨w5.heap.size, 0, none⟩) 0 0) 0 [] (by rfl) (by with_reducible exact HC.out) ⟨G, 0, none⟩ k CC T1 (by rfl) HL1.out (by with_reducible exact HNC.out) HC1.out (by unfold maxLen; omega) (by omega) (by simp <;> omega) ?_; intro v6 w6 hown6 hgrow6 hnn6; have hb6 : Below w5.heap.size w5 w6 := hbC.grown ⟨hgrow6.os, hgrow6.tape, hgrow6.output, hgrow6.size, hgrow6.block⟩ hbC.size (fun j hj => by cases hj; first | exact Nat.le_refl _ | exact Nat.le_succ _); have hl6 : ∀ j u, [Value.string t, .int .i64 x][j]? = some u → w6.cell? ((⟨w5.heap.size + 1, 0, none⟩ : Addr).add j) = some u := fun j u h => hgrow6.cell (HLC.out j u h) (by rw [addr_add]; simp [Value.ownBlock]); have HO6 : Hid (w6.ownsRow w5.heap.size 31 2 v6 k T1) := by { unfold Hid; simpa using hown6 }; have hs6 := hb6.size; obtain ⟨z0, z1⟩ := HCL.out w6 hb6; clear hown6 hgrow6)
                  | (refine step_append_own2 (by rfl) _ _ 23 (by rfl) w5.heap.size 31 i0 (.agg #[.string ⟨#[]⟩, .int .i64 0]) 2 24 Tryd.underlying23 hi hz0 hz1 hz2 rfl (by decide) (.slice (some ⟨w5.heap.size + 1, 0, none⟩) 0 0) 0 [] (by rfl) (by with_reducible exact HF.out) ⟨G, 0, none⟩ k CC T1 (by rfl) HL1.out (by with_reducible exact HNF.out) HC1.out (by unfold maxLen; omega) (by omega) (by simp <;> omega) ?_; intro v6 w6 hown6 hgrow6 hnn6; have hb6 : Below w5.heap.size w5 w6 := hbF.grown ⟨hgrow6.os, hgrow6.tape, hgrow6.output, hgrow6.size, hgrow6.block⟩ hbF.size (fun j hj => by cases hj; first | exact Nat.le_refl _ | exact Nat.le_succ _); have hl6 : ∀ j u, [Value.string t, .int .i64 x][j]? = some u → w6.cell? ((⟨w5.heap.size, 0, none⟩ : Addr).add j) = some u := fun j u h => hgrow6.cell (HLF.out j u h) (by rw [addr_add]; simp [Value.ownBlock]); have HO6 : Hid (w6.ownsRow w5.heap.size 31 2 v6 k T1) := by { unfold Hid; simpa using hown6 }; have hs6 := hb6.size; obtain ⟨z0, z1⟩ := HCL.out w6 hb6; clear hown6 hgrow6)
                  | (refine step_append_own2 (by rfl) _ _ 23 (by rfl) w5.heap.size 31 i0 (.agg #[.string ⟨#[]⟩, .int .i64 0]) 2 24 Tryd.underlying23 hi hz0 hz1 hz2 rfl (by decide) v6 k T1 (by rfl) (HO6.out.alloc _) ⟨w6.heap.size, 0, none⟩ 1 1 [.string t, .int .i64 x] (by rfl) rfl (cells_new _ _ _) (hn_one _ _) (by unfold maxLen; omega) (by omega) (by first | omega | (simp; omega)) ?_; intro v7 w7 hown7 hgrow7 hnn7; have hb7 : Below w5.heap.size w5 w7 := (hb6.alloc hb6.size (.cells #[.string t, .int .i64 x] 31)).grown ⟨hgrow7.os, hgrow7.tape, hgrow7.output, hgrow7.size, hgrow7.block⟩ (hb6.alloc hb6.size (.cells #[.string t, .int .i64 x] 31)).size (fun j hj => (HO6.out.lt j hj).1); have HO7 : Hid (w7.ownsRow w5.heap.size 31 2 v7 (k + 1) (T1 ++ [.string t, .int .i64 x])) := hown7; have HN7 : Hid (v7 ≠ .slice none 0 0) := (fun e => by have := (hnn7.1 e).2; cases this); have hs7 := hb7.size; clear hown7 hgrow7 hnn7)
                  | (refine step_append_own2 (by rfl) _ _ 23 (by rfl) w5.heap.size 31 i0 (.agg #[.string ⟨#[]⟩, .int .i64 0]) 2 24 Tryd.underlying23 hi hz0 hz1 hz2 rfl (by decide) v6 k T1 (by rfl) HO6.out ⟨w5.heap.size + 1, 0, none⟩ 1 1 [.string t, .int .i64 x] (by rfl) rfl (hl6) (hn_one _ _) (by unfold maxLen; omega) (by omega) (by first | omega | (simp; omega)) ?_; intro v7 w7 hown7 hgrow7 hnn7; have hb7 : Below w5.heap.size w5 w7 := (hb6).grown ⟨hgrow7.os, hgrow7.tape, hgrow7.output, hgrow7.size, hgrow7.block⟩ (hb6).size (fun j hj => (HO6.out.lt j hj).1); have HO7 : Hid (w7.ownsRow w5.heap.size 31 2 v7 (k + 1) (T1 ++ [.string t, .int .i64 x])) := hown7; have HN7 : Hid (v7 ≠ .slice none 0 0) := (fun e => by have := (hnn7.1 e).2; cases this); have hs7 := hb7.size; clear hown7 hgrow7 hnn7)
                  | (refine step_append_own2 (by rfl) _ _ 23 (by rfl) w5.heap.size 31 i0 (.agg #[.string ⟨#[]⟩, .int .i64 0]) 2 24 Tryd.underlying23 hi hz0 hz1 hz2 rfl (by decide) v6 k T1 (by rfl) HO6.out ⟨w5.heap.size, 0, none⟩ 1 1 [.string t, .int .i64 x] (by rfl) rfl (hl6) (hn_one _ _) (by unfold maxLen; omega) (by omega) (by first | omega | (simp; omega)) ?_; intro v7 w7 hown7 hgrow7 hnn7; have hb7 : Below w5.heap.size w5 w7 := (hb6).grown ⟨hgrow7.os, hgrow7.tape, hgrow7.output, hgrow7.size, hgrow7.block⟩ (hb6).size (fun j hj => (HO6.out.lt j hj).1); have HO7 : Hid (w7.ownsRow w5.heap.size 31 2 v7 (k + 1) (T1 ++ [.string t, .int .i64 x])) := hown7; have HN7 : Hid (v7 ≠ .slice none 0 0) := (fun e => by have := (hnn7.1 e).2; cases this); have hs7 := hb7.size; clear hown7 hgrow7 hnn7)
                  | (refine step_append_own2 (by rfl) _ _ 23 (by rfl) w5.heap.size 31 i0 (.agg #[.string ⟨#[]⟩, .int .i64 0]) 2 24 Tryd.underlying23 hi hz0 hz1 hz2 rfl (by decide) v7 (k + 1) (T1 ++ [.string t, .int .i64 x]) (by rfl) HO7.out ⟨G, k * 2, none⟩ (n - k) (CC - k) T3 (by rfl) HL3.out (HR3.out _ hb7) HC3.out (by unfold maxLen; omega) (by omega) (by omega) ?_; intro v8 w8 hown8 hgrow8 hnn8; have hb8 : Below w5.heap.size w5 w8 := hb7.grown ⟨hgrow8.os, hgrow8.tape, hgrow8.output, hgrow8.size, hgrow8.block⟩ hb7.size (fun j hj => (HO7.out.lt j hj).1); have HO8 : Hid (w8.ownsRow w5.heap.size 31 2 v8 (k + 1 + (n - k)) (T1 ++ [.string t, .int .i64 x] ++ T3)) := hown8; have HN8 : Hid (v8 ≠ .slice none 0 0) := (fun e => HN7.out (hnn8.1 e).1); clear hown8 hgrow8 hnn8)
                  | fail)
                all_goals
                  have hb8' : Below w5.heap.size w5 w8 := hb8
                  have ho := HO8.out
                  rw [HJ.out] at ho
                  have HFIN : Hid (∃ G' C', v8 = .slice (some ⟨G', 0, none⟩) (insW L ⟨t, x⟩).length C' ∧ (insW L ⟨t, x⟩).length ≤ C' ∧ w8.ownsRow w.heap.size 31 2 (.slice (some ⟨G', 0, none⟩) (insW L ⟨t, x⟩).length C') (insW L ⟨t, x⟩).length (hnCells (insW L ⟨t, x⟩)) ∧ Below w.heap.size w w8) := by
                    obtain ⟨G', C', hv, hc', ho'⟩ := ret_hrow (by rw [HLN.out]; omega) ho HN8.out
                    exact ⟨G', C', hv, hc', ownsRow_mono ho' HB5.out.size, HB5.out.trans (hb8'.mono HB5.out.size)⟩
                  clear ho HO8 HN8 hb8 hb8' HO7 HN7 HO6 hb7 hb6
                  obtain ⟨G', C', rfl, hgc', ho', hbw⟩ := HFIN.out
                  have HOW : Hid (w8.ownsRow w.heap.size 31 2 (.slice (some ⟨G', 0, none⟩) (insW L ⟨t, x⟩).length C') (insW L ⟨t, x⟩).length (hnCells (insW L ⟨t, x⟩))) := ho'
                  have HBW : Hid (Below w.heap.size w w8) := hbw
                  clear ho' hbw HFIN
                  go_wp2
                  go_roundw
                  case rel => exact ⟨i + 1, G', C', insW L ⟨t, x⟩, by go_num, rfl, by omega, HIN.out.symm, hgc', HOW.out, HBW.out⟩
                  case measure => simp [intOf]; omega
            · obtain ⟨kp, rfl⟩ : ∃ kp, k = kp + 1 := ⟨k - 1, by omega⟩
              have HQ : Hid (posW L x (kp + 1) = if (hnat L kp).weight < x then posW L x kp else kp + 1) := rfl
              have hkl : kp < L.length := by rw [HNL.out]; omega
              obtain ⟨q0, q1⟩ := hnTo_cells L kp hkl
              have hlL : (hnCells L).length = n * 2 := by rw [hnCells_len, HNL.out]
              rw [← ho4.cellAt (kp * 2 + 1) (by omega)] at q1
              generalize (hnat L kp).weight = px at *
              have hwp : IntKind.i64.wrap (kp : Int) = (kp : Int) := by rw [IntKind.wrap_i64]; omega
              have jz : (kp : Int) + 1 ≤ (n : Int) := by omega
              have jz1 : (kp : Int) < (n : Int) := by omega
              have p1 : (0 : Int) < (kp : Int) + 1 := by omega
              have p0 : (0 : Int) ≤ (kp : Int) + 1 := by omega
              have e0 : ((kp : Int) + 1).toNat = kp + 1 := by omega
              clear hk0 ho4 q0 hlL hkl
              by_cases hpx : px < x
              · have HPP : Hid (posW L x n = posW L x kp) := by unfold Hid; rw [HP.out, HQ.out, if_pos hpx]
                clear HP HQ HINS
                go_wp2
                go_quiet (fail)
                go_wp2
                go_roundw
                case rel => exact ⟨kp, rfl, by omega, HPP.out, own_drewN HO4.out nq, below_drewN HB4.out nq⟩
                case measure => simp [intOf]
              · have HK : Hid (posW L x n = kp + 1) := by unfold Hid; rw [HP.out, HQ.out, if_neg hpx]
                have hpd : decide (px < x) = false := decide_eq_false hpx
                clear HP HQ
                go_wp2
                go_quiet (fail)
                have ho5 := own_drewN HO4.out nq
                have hb5 := below_drewN HB4.out nq
                generalize w4.drewN nq = w5 at *
                have HO5 : Hid (w5.ownsRow w.heap.size 31 2 (.slice (some ⟨G, 0, none⟩) n CC) n (hnCells L)) := ho5
                have HB5 : Hid (Below w.heap.size w w5) := hb5
                clear ho5 hb5 HO4 HB4 y0 y1
                have HRD : Hid (∀ wx, Below w5.heap.size w5 wx → ∀ k m, k + m ≤ L.length → ∀ j u, (((hnCells L).drop (k * 2)).take (m * 2))[j]? = some u → wx.cell? ((⟨G, k * 2, none⟩ : Addr).add j) = some u) := fun wx h k m hk => by
                  obtain ⟨p, c, e, hrL⟩ : ∃ p c, Value.slice (some ⟨G, 0, none⟩) L.length CC = .slice p L.length c ∧ HnRow w5 p L := by
                    have h4 := HO5.out
                    rw [← HNL.out] at h4
                    obtain ⟨p, c, e, _, _, _, hr⟩ := owns_hnRow h4 (hnTo_cells L)
                    exact ⟨p, c, e, hr⟩
                  injection e with e1 _ _
                  subst e1
                  exact hnRead hrL h k m hk
                have HL0 : Hid ((hnCells L).length = n * 2) := by unfold Hid; rw [hnCells_len, HNL.out]
                have hkc : ((kp : Int) + 1) ≤ (CC : Int) := by omega
                have hki : ((kp : Int) + 1) ≤ (n : Int) := by omega
                obtain ⟨T1, hT1⟩ : ∃ T1, (hnCells L).take ((kp + 1) * 2) = T1 := ⟨_, rfl⟩
                obtain ⟨T3, hT3⟩ : ∃ T3, ((hnCells L).drop ((kp + 1) * 2)).take ((n - (kp + 1)) * 2) = T3 := ⟨_, rfl⟩
                have HL1 : Hid (T1.length = (kp + 1) * 2) := by unfold Hid; rw [← hT1, List.length_take, HL0.out]; omega
                have HL3 : Hid (T3.length = (n - (kp + 1)) * 2) := by unfold Hid; rw [← hT3, List.length_take, List.length_drop, HL0.out]; omega
                have HC1 : Hid (∀ u ∈ T1, u.oneCell' = true) := fun u hu => hns_one L u (by rw [← hT1] at hu; exact List.mem_of_mem_take hu)
                have HC3 : Hid (∀ u ∈ T3, u.oneCell' = true) := fun u hu => hns_one L u (by rw [← hT3] at hu; exact List.mem_of_mem_drop (List.mem_of_mem_take hu))
                have HJ : Hid (T1 ++ [.string t, .int .i64 x] ++ T3 = hnCells (insW L ⟨t, x⟩)) := by
                  unfold Hid
                  have hq : ((hnCells L).drop ((kp + 1) * 2)).take ((n - (kp + 1)) * 2) = (hnCells L).drop ((kp + 1) * 2) := List.take_of_length_le (by rw [List.length_drop, HL0.out]; omega)
                  rw [HINS.out, HK.out, ← hT1, ← hT3, hq, hnCells_app, hnCells_app, hnCells_take, hnCells_drop]
                  rfl
                have HR1 : Hid (∀ wx, Below w5.heap.size w5 wx → ∀ j u, T1[j]? = some u → wx.cell? ((⟨G, 0, none⟩ : Addr).add j) = some u) := fun wx hb j u hj => by
                  have := HRD.out wx hb 0 (kp + 1) (by rw [HNL.out]; omega) j u (by rw [Nat.zero_mul, List.drop_zero, hT1]; exact hj)
                  rw [Nat.zero_mul] at this
                  exact this
                have HR3 : Hid (∀ wx, Below w5.heap.size w5 wx → ∀ j u, T3[j]? = some u → wx.cell? ((⟨G, (kp + 1) * 2, none⟩ : Addr).add j) = some u) := fun wx hb j u hj =>
                  HRD.out wx hb (kp + 1) (n - (kp + 1)) (by rw [HNL.out]; omega) j u (by rw [hT3]; exact hj)
                have HCL : Hid (∀ wx, Below w5.heap.size w5 wx → wx.cell? ⟨g, off + i * 2, none⟩ = some (.string t) ∧ wx.cell? ⟨g, off + i * 2 + 1, none⟩ = some (.int .i64 x)) := fun wx h => HCW.out wx (HB5.out.trans (h.mono HB5.out.size))
                have HLN : Hid ((insW L ⟨t, x⟩).length = n + 1) := by unfold Hid; rw [insW_len, HNL.out]
                clear hT1 hT3 HRD HL0 HO5 HK HINS
                have HA0 : (w5.alloc (.cells #[] 31)).ownsRow w5.heap.size 31 2 (.slice (some ⟨w5.heap.size, 0, none⟩) 0 0) 0 [] := World.ownsRow_lit w5 #[] 0 (Nat.le_refl _) (by decide) rfl
                have HA : Hid ((w5.alloc (.cells #[] 31)).drew.ownsRow w5.heap.size 31 2 (.slice (some ⟨w5.heap.size, 0, none⟩) 0 0) 0 []) := And.intro HA0.1 HA0.2
                have HC : Hid (((w5.alloc (.cells #[] 31)).alloc (.cells #[.string t, .int .i64 x] 31)).drew.ownsRow w5.heap.size 31 2 (.slice (some ⟨w5.heap.size, 0, none⟩) 0 0) 0 []) := And.intro (HA0.alloc (.cells #[.string t, .int .i64 x] 31)).1 (HA0.alloc (.cells #[.string t, .int .i64 x] 31)).2
                have HF0 : ((w5.alloc (.cells #[.string t, .int .i64 x] 31)).alloc (.cells #[] 31)).ownsRow w5.heap.size 31 2 (.slice (some ⟨w5.heap.size + 1, 0, none⟩) 0 0) 0 [] := by
                  have h := World.ownsRow_lit (e := 31) (size := 2) (w5.alloc (.cells #[.string t, .int .i64 x] 31)) #[] 0 (Nat.le_refl _) (by decide) rfl
                  rw [show (w5.alloc (.cells #[.string t, .int .i64 x] 31)).heap.size = w5.heap.size + 1 from by simp] at h
                  exact ownsRow_mono h (by omega)
                have HF : Hid (((w5.alloc (.cells #[.string t, .int .i64 x] 31)).alloc (.cells #[] 31)).drew.ownsRow w5.heap.size 31 2 (.slice (some ⟨w5.heap.size + 1, 0, none⟩) 0 0) 0 []) := And.intro HF0.1 HF0.2
                have hb0 := (Below.refl w5.heap.size w5).alloc (Nat.le_refl _) (.cells #[] 31)
                have hb1 := hb0.alloc hb0.size (.cells #[.string t, .int .i64 x] 31)
                have hb2 := (Below.refl w5.heap.size w5).alloc (Nat.le_refl _) (.cells #[.string t, .int .i64 x] 31)
                have hb3 := hb2.alloc hb2.size (.cells #[] 31)
                have hbA : Below w5.heap.size w5 (w5.alloc (.cells #[] 31)).drew := ⟨hb0.os, hb0.tape, hb0.output, hb0.size, hb0.block⟩
                have hbC : Below w5.heap.size w5 ((w5.alloc (.cells #[] 31)).alloc (.cells #[.string t, .int .i64 x] 31)).drew := ⟨hb1.os, hb1.tape, hb1.output, hb1.size, hb1.block⟩
                have hbF : Below w5.heap.size w5 ((w5.alloc (.cells #[.string t, .int .i64 x] 31)).alloc (.cells #[] 31)).drew := ⟨hb3.os, hb3.tape, hb3.output, hb3.size, hb3.block⟩
                have HNA : Hid (∀ j u, T1[j]? = some u → (w5.alloc (.cells #[] 31)).drew.cell? ((⟨G, 0, none⟩ : Addr).add j) = some u) := HR1.out _ hbA
                have HNC : Hid (∀ j u, T1[j]? = some u → ((w5.alloc (.cells #[] 31)).alloc (.cells #[.string t, .int .i64 x] 31)).drew.cell? ((⟨G, 0, none⟩ : Addr).add j) = some u) := HR1.out _ hbC
                have HNF : Hid (∀ j u, T1[j]? = some u → ((w5.alloc (.cells #[.string t, .int .i64 x] 31)).alloc (.cells #[] 31)).drew.cell? ((⟨G, 0, none⟩ : Addr).add j) = some u) := HR1.out _ hbF
                have HLC : Hid (∀ j u, [Value.string t, .int .i64 x][j]? = some u → ((w5.alloc (.cells #[] 31)).alloc (.cells #[.string t, .int .i64 x] 31)).drew.cell? ((⟨w5.heap.size + 1, 0, none⟩ : Addr).add j) = some u) := by
                  have h := cells_new (w5.alloc (.cells #[] 31)) [Value.string t, .int .i64 x] 31
                  rw [show (w5.alloc (.cells #[] 31)).heap.size = w5.heap.size + 1 from by simp] at h
                  exact h
                have HLF : Hid (∀ j u, [Value.string t, .int .i64 x][j]? = some u → ((w5.alloc (.cells #[.string t, .int .i64 x] 31)).alloc (.cells #[] 31)).drew.cell? ((⟨w5.heap.size, 0, none⟩ : Addr).add j) = some u) := fun j u h => by
                  have h1 := cells_new w5 [Value.string t, .int .i64 x] 31 j u h
                  rw [addr_add] at h1 ⊢
                  exact (((Below.refl _ (w5.alloc (.cells #[.string t, .int .i64 x] 31))).alloc (Nat.le_refl _) (.cells #[] 31)).cell (p := ⟨w5.heap.size, 0 + j, none⟩) (by simp)).trans h1
                have hgl : g < w5.heap.size := by
                  obtain ⟨g', off', e, hl, _⟩ := (HR.out w5 HB5.out) (by omega)
                  cases e
                  exact hl
                obtain ⟨y0, y1⟩ := HCL.out w5 (Below.refl _ _)
                clear HA0 HF0 hb0 hb1 hb2 hb3 HR1 HCW
                by_cases hck : CC = (kp + 1)
                · have HT3 : Hid (T3 = []) := List.eq_nil_of_length_eq_zero (by rw [HL3.out]; omega)
                  rw [HT3.out] at HJ
                  have hne : n - (kp + 1) = 0 := by omega
                  clear HR3 HC3 HL3 HT3 hne
                  subst hck
                  go_wp2_with fail
                  go_region_law (first
                    | (refine step_append_own2 (by rfl) _ _ 23 (by rfl) w5.heap.size 31 i0 (.agg #[.string ⟨#[]⟩, .int .i64 0]) 2 24 Tryd.underlying23 hi hz0 hz1 hz2 rfl (by decide) (.slice (some ⟨w5.heap.size, 0, none⟩) 0 0) 0 [] (by rfl) (by with_reducible exact HA.out) ⟨G, 0, none⟩ (kp + 1) (kp + 1) T1 (by rfl) HL1.out (by with_reducible exact HNA.out) HC1.out (by unfold maxLen; omega) (by omega) (by simp <;> omega) ?_; intro v6 w6 hown6 hgrow6 hnn6; have hb6 : Below w5.heap.size w5 w6 := hbA.grown ⟨hgrow6.os, hgrow6.tape, hgrow6.output, hgrow6.size, hgrow6.block⟩ hbA.size (fun j hj => by cases hj; first | exact Nat.le_refl _ | exact Nat.le_succ _); have HO6 : Hid (w6.ownsRow w5.heap.size 31 2 v6 (kp + 1) T1) := by { unfold Hid; simpa using hown6 }; have hs6 := hb6.size; obtain ⟨z0, z1⟩ := HCL.out w6 hb6; clear hown6 hgrow6)
                    | (refine step_append_own2 (by rfl) _ _ 23 (by rfl) w5.heap.size 31 i0 (.agg #[.string ⟨#[]⟩, .int .i64 0]) 2 24 Tryd.underlying23 hi hz0 hz1 hz2 rfl (by decide) (.slice (some ⟨w5.heap.size, 0, none⟩) 0 0) 0 [] (by rfl) (by with_reducible exact HC.out) ⟨G, 0, none⟩ (kp + 1) (kp + 1) T1 (by rfl) HL1.out (by with_reducible exact HNC.out) HC1.out (by unfold maxLen; omega) (by omega) (by simp <;> omega) ?_; intro v6 w6 hown6 hgrow6 hnn6; have hb6 : Below w5.heap.size w5 w6 := hbC.grown ⟨hgrow6.os, hgrow6.tape, hgrow6.output, hgrow6.size, hgrow6.block⟩ hbC.size (fun j hj => by cases hj; first | exact Nat.le_refl _ | exact Nat.le_succ _); have hl6 : ∀ j u, [Value.string t, .int .i64 x][j]? = some u → w6.cell? ((⟨w5.heap.size + 1, 0, none⟩ : Addr).add j) = some u := fun j u h => hgrow6.cell (HLC.out j u h) (by rw [addr_add]; simp [Value.ownBlock]); have HO6 : Hid (w6.ownsRow w5.heap.size 31 2 v6 (kp + 1) T1) := by { unfold Hid; simpa using hown6 }; have hs6 := hb6.size; obtain ⟨z0, z1⟩ := HCL.out w6 hb6; clear hown6 hgrow6)
                    | (refine step_append_own2 (by rfl) _ _ 23 (by rfl) w5.heap.size 31 i0 (.agg #[.string ⟨#[]⟩, .int .i64 0]) 2 24 Tryd.underlying23 hi hz0 hz1 hz2 rfl (by decide) (.slice (some ⟨w5.heap.size + 1, 0, none⟩) 0 0) 0 [] (by rfl) (by with_reducible exact HF.out) ⟨G, 0, none⟩ (kp + 1) (kp + 1) T1 (by rfl) HL1.out (by with_reducible exact HNF.out) HC1.out (by unfold maxLen; omega) (by omega) (by simp <;> omega) ?_; intro v6 w6 hown6 hgrow6 hnn6; have hb6 : Below w5.heap.size w5 w6 := hbF.grown ⟨hgrow6.os, hgrow6.tape, hgrow6.output, hgrow6.size, hgrow6.block⟩ hbF.size (fun j hj => by cases hj; first | exact Nat.le_refl _ | exact Nat.le_succ _); have hl6 : ∀ j u, [Value.string t, .int .i64 x][j]? = some u → w6.cell? ((⟨w5.heap.size, 0, none⟩ : Addr).add j) = some u := fun j u h => hgrow6.cell (HLF.out j u h) (by rw [addr_add]; simp [Value.ownBlock]); have HO6 : Hid (w6.ownsRow w5.heap.size 31 2 v6 (kp + 1) T1) := by { unfold Hid; simpa using hown6 }; have hs6 := hb6.size; obtain ⟨z0, z1⟩ := HCL.out w6 hb6; clear hown6 hgrow6)
                    | (refine step_append_own2 (by rfl) _ _ 23 (by rfl) w5.heap.size 31 i0 (.agg #[.string ⟨#[]⟩, .int .i64 0]) 2 24 Tryd.underlying23 hi hz0 hz1 hz2 rfl (by decide) v6 (kp + 1) T1 (by rfl) (HO6.out.alloc _) ⟨w6.heap.size, 0, none⟩ 1 1 [.string t, .int .i64 x] (by rfl) rfl (cells_new _ _ _) (hn_one _ _) (by unfold maxLen; omega) (by omega) (by first | omega | (simp; omega)) ?_; intro v7 w7 hown7 hgrow7 hnn7; have hb7 : Below w5.heap.size w5 w7 := (hb6.alloc hb6.size (.cells #[.string t, .int .i64 x] 31)).grown ⟨hgrow7.os, hgrow7.tape, hgrow7.output, hgrow7.size, hgrow7.block⟩ (hb6.alloc hb6.size (.cells #[.string t, .int .i64 x] 31)).size (fun j hj => (HO6.out.lt j hj).1); have HO7 : Hid (w7.ownsRow w5.heap.size 31 2 v7 ((kp + 1) + 1) (T1 ++ [.string t, .int .i64 x])) := hown7; have HN7 : Hid (v7 ≠ .slice none 0 0) := (fun e => by have := (hnn7.1 e).2; cases this); have hs7 := hb7.size; clear hown7 hgrow7 hnn7)
                    | (refine step_append_own2 (by rfl) _ _ 23 (by rfl) w5.heap.size 31 i0 (.agg #[.string ⟨#[]⟩, .int .i64 0]) 2 24 Tryd.underlying23 hi hz0 hz1 hz2 rfl (by decide) v6 (kp + 1) T1 (by rfl) HO6.out ⟨w5.heap.size + 1, 0, none⟩ 1 1 [.string t, .int .i64 x] (by rfl) rfl (hl6) (hn_one _ _) (by unfold maxLen; omega) (by omega) (by first | omega | (simp; omega)) ?_; intro v7 w7 hown7 hgrow7 hnn7; have hb7 : Below w5.heap.size w5 w7 := (hb6).grown ⟨hgrow7.os, hgrow7.tape, hgrow7.output, hgrow7.size, hgrow7.block⟩ (hb6).size (fun j hj => (HO6.out.lt j hj).1); have HO7 : Hid (w7.ownsRow w5.heap.size 31 2 v7 ((kp + 1) + 1) (T1 ++ [.string t, .int .i64 x])) := hown7; have HN7 : Hid (v7 ≠ .slice none 0 0) := (fun e => by have := (hnn7.1 e).2; cases this); have hs7 := hb7.size; clear hown7 hgrow7 hnn7)
                    | (refine step_append_own2 (by rfl) _ _ 23 (by rfl) w5.heap.size 31 i0 (.agg #[.string ⟨#[]⟩, .int .i64 0]) 2 24 Tryd.underlying23 hi hz0 hz1 hz2 rfl (by decide) v6 (kp + 1) T1 (by rfl) HO6.out ⟨w5.heap.size, 0, none⟩ 1 1 [.string t, .int .i64 x] (by rfl) rfl (hl6) (hn_one _ _) (by unfold maxLen; omega) (by omega) (by first | omega | (simp; omega)) ?_; intro v7 w7 hown7 hgrow7 hnn7; have hb7 : Below w5.heap.size w5 w7 := (hb6).grown ⟨hgrow7.os, hgrow7.tape, hgrow7.output, hgrow7.size, hgrow7.block⟩ (hb6).size (fun j hj => (HO6.out.lt j hj).1); have HO7 : Hid (w7.ownsRow w5.heap.size 31 2 v7 ((kp + 1) + 1) (T1 ++ [.string t, .int .i64 x])) := hown7; have HN7 : Hid (v7 ≠ .slice none 0 0) := (fun e => by have := (hnn7.1 e).2; cases this); have hs7 := hb7.size; clear hown7 hgrow7 hnn7)
                    | (refine step_append_own2 (by rfl) _ _ 23 (by rfl) w5.heap.size 31 i0 (.agg #[.string ⟨#[]⟩, .int .i64 0]) 2 24 Tryd.underlying23 hi hz0 hz1 hz2 rfl (by decide) v7 ((kp + 1) + 1) (T1 ++ [.string t, .int .i64 x]) (by rfl) HO7.out ⟨G, 0, none⟩ 0 0 [] (by rfl) rfl (by simp) (by simp) (by unfold maxLen; omega) (by omega) (by omega) ?_; intro v8 w8 hown8 hgrow8 hnn8; have hb8 : Below w5.heap.size w5 w8 := hb7.grown ⟨hgrow8.os, hgrow8.tape, hgrow8.output, hgrow8.size, hgrow8.block⟩ hb7.size (fun j hj => (HO7.out.lt j hj).1); have HO8 : Hid (w8.ownsRow w5.heap.size 31 2 v8 ((kp + 1) + 1) (T1 ++ [.string t, .int .i64 x] ++ [])) := hown8; have HN8 : Hid (v8 ≠ .slice none 0 0) := (fun e => HN7.out (hnn8.1 e).1); clear hown8 hgrow8 hnn8)
                    | fail)
                  all_goals
                    have hb8' : Below w5.heap.size w5 w8 := hb8
                    have ho := HO8.out
                    rw [HJ.out] at ho
                    have HFIN : Hid (∃ G' C', v8 = .slice (some ⟨G', 0, none⟩) (insW L ⟨t, x⟩).length C' ∧ (insW L ⟨t, x⟩).length ≤ C' ∧ w8.ownsRow w.heap.size 31 2 (.slice (some ⟨G', 0, none⟩) (insW L ⟨t, x⟩).length C') (insW L ⟨t, x⟩).length (hnCells (insW L ⟨t, x⟩)) ∧ Below w.heap.size w w8) := by
                      obtain ⟨G', C', hv, hc', ho'⟩ := ret_hrow (by rw [HLN.out]; omega) ho HN8.out
                      exact ⟨G', C', hv, hc', ownsRow_mono ho' HB5.out.size, HB5.out.trans (hb8'.mono HB5.out.size)⟩
                    clear ho HO8 HN8 hb8 hb8' HO7 HN7 HO6 hb7 hb6
                    obtain ⟨G', C', rfl, hgc', ho', hbw⟩ := HFIN.out
                    have HOW : Hid (w8.ownsRow w.heap.size 31 2 (.slice (some ⟨G', 0, none⟩) (insW L ⟨t, x⟩).length C') (insW L ⟨t, x⟩).length (hnCells (insW L ⟨t, x⟩))) := ho'
                    have HBW : Hid (Below w.heap.size w w8) := hbw
                    clear ho' hbw HFIN
                    go_wp2
                    go_roundw
                    case rel => exact ⟨i + 1, G', C', insW L ⟨t, x⟩, by go_num, rfl, by omega, HIN.out.symm, hgc', HOW.out, HBW.out⟩
                    case measure => simp [intOf]; omega
                · go_wp2_with fail
                  go_region_law (first
                    | (refine step_append_own2 (by rfl) _ _ 23 (by rfl) w5.heap.size 31 i0 (.agg #[.string ⟨#[]⟩, .int .i64 0]) 2 24 Tryd.underlying23 hi hz0 hz1 hz2 rfl (by decide) (.slice (some ⟨w5.heap.size, 0, none⟩) 0 0) 0 [] (by rfl) (by with_reducible exact HA.out) ⟨G, 0, none⟩ (kp + 1) CC T1 (by rfl) HL1.out (by with_reducible exact HNA.out) HC1.out (by unfold maxLen; omega) (by omega) (by simp <;> omega) ?_; intro v6 w6 hown6 hgrow6 hnn6; have hb6 : Below w5.heap.size w5 w6 := hbA.grown ⟨hgrow6.os, hgrow6.tape, hgrow6.output, hgrow6.size, hgrow6.block⟩ hbA.size (fun j hj => by cases hj; first | exact Nat.le_refl _ | exact Nat.le_succ _); have HO6 : Hid (w6.ownsRow w5.heap.size 31 2 v6 (kp + 1) T1) := by { unfold Hid; simpa using hown6 }; have hs6 := hb6.size; obtain ⟨z0, z1⟩ := HCL.out w6 hb6; clear hown6 hgrow6)
                    | (refine step_append_own2 (by rfl) _ _ 23 (by rfl) w5.heap.size 31 i0 (.agg #[.string ⟨#[]⟩, .int .i64 0]) 2 24 Tryd.underlying23 hi hz0 hz1 hz2 rfl (by decide) (.slice (some ⟨w5.heap.size, 0, none⟩) 0 0) 0 [] (by rfl) (by with_reducible exact HC.out) ⟨G, 0, none⟩ (kp + 1) CC T1 (by rfl) HL1.out (by with_reducible exact HNC.out) HC1.out (by unfold maxLen; omega) (by omega) (by simp <;> omega) ?_; intro v6 w6 hown6 hgrow6 hnn6; have hb6 : Below w5.heap.size w5 w6 := hbC.grown ⟨hgrow6.os, hgrow6.tape, hgrow6.output, hgrow6.size, hgrow6.block⟩ hbC.size (fun j hj => by cases hj; first | exact Nat.le_refl _ | exact Nat.le_succ _); have hl6 : ∀ j u, [Value.string t, .int .i64 x][j]? = some u → w6.cell? ((⟨w5.heap.size + 1, 0, none⟩ : Addr).add j) = some u := fun j u h => hgrow6.cell (HLC.out j u h) (by rw [addr_add]; simp [Value.ownBlock]); have HO6 : Hid (w6.ownsRow w5.heap.size 31 2 v6 (kp + 1) T1) := by { unfold Hid; simpa using hown6 }; have hs6 := hb6.size; obtain ⟨z0, z1⟩ := HCL.out w6 hb6; clear hown6 hgrow6)
                    | (refine step_append_own2 (by rfl) _ _ 23 (by rfl) w5.heap.size 31 i0 (.agg #[.string ⟨#[]⟩, .int .i64 0]) 2 24 Tryd.underlying23 hi hz0 hz1 hz2 rfl (by decide) (.slice (some ⟨w5.heap.size + 1, 0, none⟩) 0 0) 0 [] (by rfl) (by with_reducible exact HF.out) ⟨G, 0, none⟩ (kp + 1) CC T1 (by rfl) HL1.out (by with_reducible exact HNF.out) HC1.out (by unfold maxLen; omega) (by omega) (by simp <;> omega) ?_; intro v6 w6 hown6 hgrow6 hnn6; have hb6 : Below w5.heap.size w5 w6 := hbF.grown ⟨hgrow6.os, hgrow6.tape, hgrow6.output, hgrow6.size, hgrow6.block⟩ hbF.size (fun j hj => by cases hj; first | exact Nat.le_refl _ | exact Nat.le_succ _); have hl6 : ∀ j u, [Value.string t, .int .i64 x][j]? = some u → w6.cell? ((⟨w5.heap.size, 0, none⟩ : Addr).add j) = some u := fun j u h => hgrow6.cell (HLF.out j u h) (by rw [addr_add]; simp [Value.ownBlock]); have HO6 : Hid (w6.ownsRow w5.heap.size 31 2 v6 (kp + 1) T1) := by { unfold Hid; simpa using hown6 }; have hs6 := hb6.size; obtain ⟨z0, z1⟩ := HCL.out w6 hb6; clear hown6 hgrow6)
                    | (refine step_append_own2 (by rfl) _ _ 23 (by rfl) w5.heap.size 31 i0 (.agg #[.string ⟨#[]⟩, .int .i64 0]) 2 24 Tryd.underlying23 hi hz0 hz1 hz2 rfl (by decide) v6 (kp + 1) T1 (by rfl) (HO6.out.alloc _) ⟨w6.heap.size, 0, none⟩ 1 1 [.string t, .int .i64 x] (by rfl) rfl (cells_new _ _ _) (hn_one _ _) (by unfold maxLen; omega) (by omega) (by first | omega | (simp; omega)) ?_; intro v7 w7 hown7 hgrow7 hnn7; have hb7 : Below w5.heap.size w5 w7 := (hb6.alloc hb6.size (.cells #[.string t, .int .i64 x] 31)).grown ⟨hgrow7.os, hgrow7.tape, hgrow7.output, hgrow7.size, hgrow7.block⟩ (hb6.alloc hb6.size (.cells #[.string t, .int .i64 x] 31)).size (fun j hj => (HO6.out.lt j hj).1); have HO7 : Hid (w7.ownsRow w5.heap.size 31 2 v7 ((kp + 1) + 1) (T1 ++ [.string t, .int .i64 x])) := hown7; have HN7 : Hid (v7 ≠ .slice none 0 0) := (fun e => by have := (hnn7.1 e).2; cases this); have hs7 := hb7.size; clear hown7 hgrow7 hnn7)
                    | (refine step_append_own2 (by rfl) _ _ 23 (by rfl) w5.heap.size 31 i0 (.agg #[.string ⟨#[]⟩, .int .i64 0]) 2 24 Tryd.underlying23 hi hz0 hz1 hz2 rfl (by decide) v6 (kp + 1) T1 (by rfl) HO6.out ⟨w5.heap.size + 1, 0, none⟩ 1 1 [.string t, .int .i64 x] (by rfl) rfl (hl6) (hn_one _ _) (by unfold maxLen; omega) (by omega) (by first | omega | (simp; omega)) ?_; intro v7 w7 hown7 hgrow7 hnn7; have hb7 : Below w5.heap.size w5 w7 := (hb6).grown ⟨hgrow7.os, hgrow7.tape, hgrow7.output, hgrow7.size, hgrow7.block⟩ (hb6).size (fun j hj => (HO6.out.lt j hj).1); have HO7 : Hid (w7.ownsRow w5.heap.size 31 2 v7 ((kp + 1) + 1) (T1 ++ [.string t, .int .i64 x])) := hown7; have HN7 : Hid (v7 ≠ .slice none 0 0) := (fun e => by have := (hnn7.1 e).2; cases this); have hs7 := hb7.size; clear hown7 hgrow7 hnn7)
                    | (refine step_append_own2 (by rfl) _ _ 23 (by rfl) w5.heap.size 31 i0 (.agg #[.string ⟨#[]⟩, .int .i64 0]) 2 24 Tryd.underlying23 hi hz0 hz1 hz2 rfl (by decide) v6 (kp + 1) T1 (by rfl) HO6.out ⟨w5.heap.size, 0, none⟩ 1 1 [.string t, .int .i64 x] (by rfl) rfl (hl6) (hn_one _ _) (by unfold maxLen; omega) (by omega) (by first | omega | (simp; omega)) ?_; intro v7 w7 hown7 hgrow7 hnn7; have hb7 : Below w5.heap.size w5 w7 := (hb6).grown ⟨hgrow7.os, hgrow7.tape, hgrow7.output, hgrow7.size, hgrow7.block⟩ (hb6).size (fun j hj => (HO6.out.lt j hj).1); have HO7 : Hid (w7.ownsRow w5.heap.size 31 2 v7 ((kp + 1) + 1) (T1 ++ [.string t, .int .i64 x])) := hown7; have HN7 : Hid (v7 ≠ .slice none 0 0) := (fun e => by have := (hnn7.1 e).2; cases this); have hs7 := hb7.size; clear hown7 hgrow7 hnn7)
                    | (refine step_append_own2 (by rfl) _ _ 23 (by rfl) w5.heap.size 31 i0 (.agg #[.string ⟨#[]⟩, .int .i64 0]) 2 24 Tryd.underlying23 hi hz0 hz1 hz2 rfl (by decide) v7 ((kp + 1) + 1) (T1 ++ [.string t, .int .i64 x]) (by rfl) HO7.out ⟨G, (kp + 1) * 2, none⟩ (n - (kp + 1)) (CC - (kp + 1)) T3 (by rfl) HL3.out (HR3.out _ hb7) HC3.out (by unfold maxLen; omega) (by omega) (by omega) ?_; intro v8 w8 hown8 hgrow8 hnn8; have hb8 : Below w5.heap.size w5 w8 := hb7.grown ⟨hgrow8.os, hgrow8.tape, hgrow8.output, hgrow8.size, hgrow8.block⟩ hb7.size (fun j hj => (HO7.out.lt j hj).1); have HO8 : Hid (w8.ownsRow w5.heap.size 31 2 v8 ((kp + 1) + 1 + (n - (kp + 1))) (T1 ++ [.string t, .int .i64 x] ++ T3)) := hown8; have HN8 : Hid (v8 ≠ .slice none 0 0) := (fun e => HN7.out (hnn8.1 e).1); clear hown8 hgrow8 hnn8)
                    | fail)
                  all_goals
                    have hb8' : Below w5.heap.size w5 w8 := hb8
                    have ho := HO8.out
                    rw [HJ.out] at ho
                    have HFIN : Hid (∃ G' C', v8 = .slice (some ⟨G', 0, none⟩) (insW L ⟨t, x⟩).length C' ∧ (insW L ⟨t, x⟩).length ≤ C' ∧ w8.ownsRow w.heap.size 31 2 (.slice (some ⟨G', 0, none⟩) (insW L ⟨t, x⟩).length C') (insW L ⟨t, x⟩).length (hnCells (insW L ⟨t, x⟩)) ∧ Below w.heap.size w w8) := by
                      obtain ⟨G', C', hv, hc', ho'⟩ := ret_hrow (by rw [HLN.out]; omega) ho HN8.out
                      exact ⟨G', C', hv, hc', ownsRow_mono ho' HB5.out.size, HB5.out.trans (hb8'.mono HB5.out.size)⟩
                    clear ho HO8 HN8 hb8 hb8' HO7 HN7 HO6 hb7 hb6
                    obtain ⟨G', C', rfl, hgc', ho', hbw⟩ := HFIN.out
                    have HOW : Hid (w8.ownsRow w.heap.size 31 2 (.slice (some ⟨G', 0, none⟩) (insW L ⟨t, x⟩).length C') (insW L ⟨t, x⟩).length (hnCells (insW L ⟨t, x⟩))) := ho'
                    have HBW : Hid (Below w.heap.size w w8) := hbw
                    clear ho' hbw HFIN
                    go_wp2
                    go_roundw
                    case rel => exact ⟨i + 1, G', C', insW L ⟨t, x⟩, by go_num, rfl, by omega, HIN.out.symm, hgc', HOW.out, HBW.out⟩
                    case measure => simp [intOf]; omega
      · have hie : i = hs.length := by omega
        subst hie
        have HLS : Hid (L = sortW (findH hs b)) := by
          unfold Hid
          rw [HL.out, List.take_of_length_le (Nat.le_refl _)]
        clear HL
        by_cases hlm : m < (L.length : Int)
        · obtain ⟨q, rfl⟩ := Int.eq_ofNat_of_zero_le hm
          have hqc : (q : Int) ≤ (CC : Int) := by omega
          have HFF : Hid (FindR hs b (q : Int) = L.take q) := by unfold Hid; rw [HF.out, HLS.out]; rfl
          clear HF HLS
          go_wp2
          go_ret
          exact findAnsS_cut HOR.out (by omega) HFF.out HBR.out
        · have hlm2 : decide (m < (L.length : Int)) = false := decide_eq_false hlm
          have HFF : Hid (FindR hs b m = L.take L.length) := by
            unfold Hid
            rw [HF.out, ← HLS.out, List.take_of_length_le (by omega), List.take_of_length_le (Nat.le_refl _)]
          clear HF HLS
          go_wp2
          go_ret
          exact findAnsS_cut HOR.out (Nat.le_refl _) HFF.out HBR.out
  · have HF : Hid (FindR hs b m = [].take 0) := if_neg hok
    go_enter Tryd.func19, Tryd.ntmps19
    go_wp2_with fail
    refine HH.mono ?_
    rintro e w1 ⟨rfl, hb1⟩
    have HB1 : Hid (Below w.heap.size w w1) := HB0.out.trans (hb1.mono HB0.out.size)
    have HO1 : Hid (w1.ownsRow w.heap.size 31 2 (.slice (some ⟨w.heap.size, 0, none⟩) (List.length ([] : List Hn)) 0) (List.length ([] : List Hn)) (hnCells [])) := HO0.out.kept (grown_none hb1) (Classical.em _)
    clear HH HB0 HO0 hb1
    cases hB : hintsB hs with
    | false =>
      go_wp2
      go_ret
      exact findAnsS_cut HO1.out (Nat.le_refl _) HF.out HB1.out
    | true =>
      have hmd : m < 0 := by
        rcases Int.lt_or_le m 0 with h | h
        · exact h
        · exact absurd ⟨hB, h⟩ hok
      go_wp2
      go_ret
      exact findAnsS_cut HO1.out (Nat.le_refl _) HF.out HB1.out
end Go.Proofs.YtgmfaganaeibkaaDoor
