/- HintAdd of the model. -/
import Derived.Test.YtgmfaganaeibkaaDoorHintAddI
namespace Go.Proofs.YtgmfaganaeibkaaDoor
open Go.RowKit
set_option linter.unusedVariables false

theorem step_append_own2 {P : Program} {w : World} {ops : Array Oper} {o : Oper} {a : Act} {K : Act → World → Prop} {Q : Exit → Act → World → Prop} {E : Prop} (hgd : o.guard = none) (s x : Operand) (t : TypeId)
    (ho : o.op = .call { callee := .builtin .append, args := #[s, x], argTypes := #[t, t] })
    (base : Nat) (e : TypeId) (i : TypeInfo) (z : Value) (size bytes : Nat) (ht : P.underlying t = some (.slice e)) (hi : P.info? e = some i) (hz : i.zero = some z)
    (hsize : i.size = size) (hby : i.bytes = bytes) (hzs : z.cells.size = size) (hsz : 0 < size)
    (v : Value) (n : Nat) (xs : List Value) (hs : a.eval s = v) (hown : w.ownsRow base e size v n xs)
    (ad : Addr) (m c : Nat) (news : List Value) (hx : a.eval x = .slice (some ad) m c) (hl : news.length = m * size) (hnews : ∀ j u, news[j]? = some u → w.cell? (ad.add j) = some u) (h1 : ∀ u ∈ news, u.oneCell' = true)
    (h63 : n + m ≤ maxLen) (hbytes : (n + m) * bytes ≤ 140737488355328) (hbase : base ≤ w.heap.size)
    (h : ∀ v' w', w'.ownsRow base e size v' (n + m) (xs ++ news) → w.grownBy w' v.ownBlock → (v' = .slice none 0 0 ↔ v = .slice none 0 0 ∧ m = 0) → K (a.put o.dst v') w') :
    if Region.wanted o (yielded ops a.tmps) = true then Oper.wp P o a w K Q else E := by
  have hw : Region.wanted o (yielded ops a.tmps) = true := by simp [Region.wanted, hgd]
  rw [if_pos hw]
  exact wp_append_own w s x t ho base e i z size bytes ht hi hz hsize hby hzs hsz v n xs hs hown ad m c news hx hl hnews h1 h63 hbytes hbase h
/-- Part of a row of hints, as it is read later. -/
theorem hnRead {w w' : World} {g : Nat} {hs : List Hn} (h : HnRow w (some ⟨g, 0, none⟩) hs) (hb : Below w.heap.size w w') (k m : Nat) (hk : k + m ≤ hs.length) :
    ∀ j u, (((hnCells hs).drop (k * 2)).take (m * 2))[j]? = some u → w'.cell? ((⟨g, k * 2, none⟩ : Addr).add j) = some u := by
  intro j u hj
  have hjm : j < m * 2 := by
    have := (List.getElem?_eq_some_iff.1 hj).1
    simp at this
    omega
  rw [List.getElem?_take, if_pos hjm, List.getElem?_drop] at hj
  have hlt : k * 2 + j < hs.length * 2 := by omega
  obtain ⟨g', off', e, hg, _⟩ := h (by omega)
  cases e
  have h1 := hnRow_cells h (k * 2 + j) u hj
  rw [addr_add, Nat.zero_add] at h1
  rw [addr_add, hb.cell (p := ⟨g, k * 2 + j, none⟩) hg]
  exact h1
theorem ret_hrow {w : World} {B : Nat} {v : Value} {hs : List Hn} {n : Nat} (hn : hs.length = n) (h : w.ownsRow B 31 2 v n (hnCells hs)) (hv : v ≠ .slice none 0 0) : ∃ g c, v = .slice (some ⟨g, 0, none⟩) hs.length c ∧ hs.length ≤ c ∧ w.ownsRow B 31 2 (.slice (some ⟨g, 0, none⟩) hs.length c) hs.length (hnCells hs) := by
  subst hn
  rcases h.2 with ⟨e, _⟩ | ⟨g, c, cur, e, _, _, hc, _⟩
  · exact absurd e hv
  · subst e
    exact ⟨g, c, rfl, hc, h⟩
/-- What an answer of the model's HintAdd is, in memory. -/
def AddAnsS (w : World) (hs : List Hn) (t : ByteArray) (x : Int) (e : Ending) (w' : World) : Prop :=
  ∃ g c r, e = .returned (.tuple #[.slice (some ⟨g, 0, none⟩) (List.length (Prod.fst r)) c, .bool r.2]) ∧ AddH hs t x r ∧ r.1.length ≤ hs.length + 1 ∧ r.1.length ≤ c ∧ w'.ownsRow w.heap.size 31 2 (.slice (some ⟨g, 0, none⟩) r.1.length c) r.1.length (hnCells r.1) ∧ Below w.heap.size w w'
theorem addAnsS_none {w w' : World} {hs : List Hn} {t : ByteArray} {x : Int} {g : Nat} (hB : hintsB hs = false) (hv : w'.ownsRow w.heap.size 31 2 (.slice (some ⟨g, 0, none⟩) 0 0) 0 []) (hb : Below w.heap.size w w') : AddAnsS w hs t x (.returned (.tuple #[.slice (some ⟨g, 0, none⟩) 0 0, .bool false])) w' :=
  ⟨g, 0, ([], false), rfl, .inl ⟨hB, rfl⟩, by simp, by simp, hv, hb⟩
theorem addAnsS_bad {w w' : World} {hs : List Hn} {t : ByteArray} {x : Int} {g c : Nat} (hB : hintsB hs = true) (ht : (hintTI t && hnW x) = false) (hc : hs.length ≤ c) (ho : w'.ownsRow w.heap.size 31 2 (.slice (some ⟨g, 0, none⟩) hs.length c) hs.length (hnCells hs)) (hb : Below w.heap.size w w') : AddAnsS w hs t x (.returned (.tuple #[.slice (some ⟨g, 0, none⟩) hs.length c, .bool false])) w' :=
  ⟨g, c, (hs, false), rfl, .inr (.inl ⟨hB, ht, rfl⟩), by simp, hc, ho, hb⟩
theorem addAnsS_at {w w' : World} {hs : List Hn} {t : ByteArray} {x : Int} {g c k : Nat} {r : List Hn} {b : Bool} (hB : hintsB hs = true) (ht : (hintTI t && hnW x) = true) (hk : PosH hs t k) (hr : addAt hs t x k = (r, b)) (hl : r.length ≤ hs.length + 1) (hc : r.length ≤ c) (ho : w'.ownsRow w.heap.size 31 2 (.slice (some ⟨g, 0, none⟩) r.length c) r.length (hnCells r)) (hb : Below w.heap.size w w') : AddAnsS w hs t x (.returned (.tuple #[.slice (some ⟨g, 0, none⟩) r.length c, .bool b])) w' :=
  ⟨g, c, (r, b), rfl, .inr (.inr ⟨hB, ht, k, hk, hr.symm⟩), hl, hc, ho, hb⟩

set_option maxRecDepth 100000 in
set_option maxHeartbeats 4000000 in
theorem hintAddS_any (g cap : Nat) (hs : List Hn) (t : ByteArray) (x : Int) (w : World) (hz : hs.length ≤ 1048576) (hcap : hs.length ≤ cap) (hg : g < w.heap.size) (hsm : HnsSmall hs) (hts : t.size ≤ 1048576) (hx : -9223372036854775808 ≤ x ∧ x ≤ 9223372036854775807) (hr : HnRow w (some ⟨g, 0, none⟩) hs) :
    Calls Tryd.prog 13 #[.slice (some ⟨g, 0, none⟩) hs.length cap, .string t, .int .i64 x] w fun e w' => AddAnsS w hs t x e w' := by
  obtain ⟨i0, hi, hz0, hz1, hz2⟩ := info_parts infoHn
  have HR : Hid (∀ wx, Below w.heap.size w wx → HnRow wx (some ⟨g, 0, none⟩) hs) := fun wx h => hr.below h
  have HRD : Hid (∀ wx, Below w.heap.size w wx → ∀ k m, k + m ≤ hs.length → ∀ j u, (((hnCells hs).drop (k * 2)).take (m * 2))[j]? = some u → wx.cell? ((⟨g, k * 2, none⟩ : Addr).add j) = some u) := fun wx h k m hk => hnRead hr h k m hk
  have HH := hintsS_any (some ⟨g, 0, none⟩) cap hs w hz hsm hr
  have HL0 : Hid ((hnCells hs).length = hs.length * 2) := hnCells_len hs
  clear hr hsm
  cases hB : hintsB hs with
  | false =>
    rw [hB] at HH
    go_enter Tryd.func13, Tryd.ntmps13
    go_wp2_with fail
    refine HH.mono ?_
    rintro e w1 ⟨rfl, hb1⟩
    have ho := World.ownsRow_lit (e := 31) (size := 2) w1 #[] 0 (Nat.le_refl _) (by decide) rfl
    have hb2 := hb1.alloc hb1.size (.cells #[] 31)
    have ho2 := ownsRow_mono ho hb1.size
    clear HH ho
    go_wp2
    go_ret2
    exact addAnsS_none hB ho2 hb2
  | true =>
    rw [hB] at HH
    obtain ⟨h10, hfa⟩ := hints_facts hB
    go_enter Tryd.func13, Tryd.ntmps13
    go_wp2_with fail
    refine HH.mono ?_
    rintro e w1 ⟨rfl, hb1⟩
    have ho1 := World.ownsRow_lit (e := 31) (size := 2) w1 #[] 0 (Nat.le_refl _) (by decide) rfl
    have hb1a := hb1.alloc hb1.size (.cells #[] 31)
    have HN1 : Hid (∀ j u, (hnCells hs)[j]? = some u → (w1.alloc (.cells #[] 31)).cell? ((⟨g, 0, none⟩ : Addr).add j) = some u) := fun j u h => by
      have := HRD.out _ hb1a 0 hs.length (by omega) j u (by rw [Nat.zero_mul, List.drop_zero, List.take_of_length_le (by rw [HL0.out]; exact Nat.le_refl _)]; exact h)
      rw [Nat.zero_mul] at this
      exact this
    have HO1 : Hid ((w1.alloc (.cells #[] 31)).ownsRow w.heap.size 31 2 (.slice (some ⟨w1.heap.size, 0, none⟩) 0 0) 0 []) := ownsRow_mono ho1 hb1.size
    have hs1 := hb1a.size
    clear HH ho1
    go_wp2_with (at_builtin; refine wpList_append_own _ rfl _ _ 23 rfl w.heap.size 31 i0 (.agg #[.string ⟨#[]⟩, .int .i64 0]) 2 24 Tryd.underlying23 hi hz0 hz1 hz2 rfl (by decide) (.slice (some ⟨w1.heap.size, 0, none⟩) 0 0) 0 [] rfl HO1.out ⟨g, 0, none⟩ hs.length cap (hnCells hs) rfl HL0.out HN1.out (hns_one hs) (by unfold maxLen; omega) (by omega) hs1 ?_)
    intro v2 w2 hown2 hgrow2 hnn2
    have hv2 : v2 ≠ .slice none 0 0 := fun e => hnn2 e
    obtain ⟨G, C, rfl, hGC, hoG⟩ := ret_hrow rfl hown2 hv2
    have HO2 : Hid (w2.ownsRow w.heap.size 31 2 (.slice (some ⟨G, 0, none⟩) hs.length C) hs.length (hnCells hs)) := hoG
    have HB2 : Hid (Below w.heap.size w w2) := hb1a.grown hgrow2 hb1a.size (fun j hj => by cases hj; exact hb1.size)
    have HR2 : Hid (HnRow w2 (some ⟨g, 0, none⟩) hs) := HR.out _ HB2.out
    clear hown2 hgrow2 hnn2 hv2 hoG HO1 HN1 hb1a hb1 hs1
    go_wp2_with fail
    refine (l9Hint_any (some ⟨g, 0, none⟩) cap hs t w2 hz HR2.out).mono ?_
    rintro e w3 ⟨k, rfl, hpos, hb3⟩
    have HP : Hid (PosH hs t k) := hpos
    have hkl := hpos.1
    have HO3 : Hid (w3.ownsRow w.heap.size 31 2 (.slice (some ⟨G, 0, none⟩) hs.length C) hs.length (hnCells hs)) := HO2.out.kept (grown_none hb3) (Classical.em _)
    have HB3 : Hid (Below w.heap.size w w3) := HB2.out.trans (hb3.mono HB2.out.size)
    clear HO2 HB2 HR2 hb3 hpos
    go_wp2_with fail
    refine (l9Ok_any t w3 hts).mono ?_
    rintro e w4 ⟨rfl, hb4⟩
    have HO4 : Hid (w4.ownsRow w.heap.size 31 2 (.slice (some ⟨G, 0, none⟩) hs.length C) hs.length (hnCells hs)) := HO3.out.kept (grown_none hb4) (Classical.em _)
    have HB4 : Hid (Below w.heap.size w w4) := HB3.out.trans (hb4.mono HB3.out.size)
    clear HO3 HB3 hb4
    cases ht : hintTI t with
    | false =>
      have HT : Hid ((hintTI t && hnW x) = false) := by unfold Hid; rw [ht]; rfl
      go_wp2
      go_ret2
      exact addAnsS_bad hB HT.out hGC HO4.out HB4.out
    | true =>
      cases hxw : hnW x with
      | false =>
        have HT : Hid ((hintTI t && hnW x) = false) := by unfold Hid; rw [ht, hxw]; rfl
        go_wp2_with fail
        refine (l1In_is x false hxw _).mono ?_
        rintro e w4 ⟨rfl, rfl⟩
        go_wp2
        go_ret2
        exact addAnsS_bad hB HT.out hGC HO4.out HB4.out
      | true =>
        have HT : Hid ((hintTI t && hnW x) = true) := by unfold Hid; rw [ht, hxw]; rfl
        have hx2 : 1 ≤ x ∧ x ≤ 999999999 := by
          unfold hnW at hxw
          simpa [Bool.and_eq_true, decide_eq_true_eq] using hxw
        go_wp2_with fail
        refine (l1In_is x true hxw _).mono ?_
        rintro e w4 ⟨rfl, rfl⟩
        have hs4 := HB4.out.size
        cases hh : hereH hs t k with
        | true =>
          have hk := hereH_lt hh
          obtain ⟨g', off', e, hg', hc⟩ := (HR.out _ HB4.out) (by omega)
          cases e
          obtain ⟨c0, c1⟩ := hc k hk
          rw [Nat.zero_add] at c0 c1
          obtain ⟨_, hw1, hw2⟩ := hfa k hk
          have HA1 : Hid ((hnat hs k).weight + x ≤ 999999999 → addAt hs t x k = (hs.set k ⟨(hnat hs k).text, (hnat hs k).weight + x⟩, true)) := fun h => by unfold addAt; rw [if_pos hh, if_pos h]
          have HA2 : Hid (¬ (hnat hs k).weight + x ≤ 999999999 → addAt hs t x k = (hs, false)) := fun h => by unfold addAt; rw [if_pos hh, if_neg h]
          have HCS : Hid (∀ y, hnCells (hs.set k ⟨(hnat hs k).text, y⟩) = (hnCells hs).set (k * 2 + 1) (.int .i64 y)) := fun y => hnCells_set hs k y hk
          have hf := HO4.out.frozenAt (k * 2 + 1)
          have hk2 : k * 2 + 1 < (hnCells hs).length := by rw [HL0.out]; omega
          have hc4 := HO4.out.cellAt (k * 2 + 1) (by omega)
          rw [List.getElem?_eq_getElem hk2] at hc4
          generalize (hnCells hs)[k * 2 + 1]'hk2 = u0 at hc4
          clear hk2
          generalize hnat hs k = h0 at *
          obtain ⟨tx, x0⟩ := h0
          simp only at c0 c1 hw1 hw2 HA1 HA2 HCS
          have hki : (k : Int) < (hs.length : Int) := by omega
          clear hfa hc HRD
          by_cases hle : x0 + x ≤ 999999999
          · have hle2 : decide (999999999 < x0 + x) = false := decide_eq_false (by omega)
            obtain ⟨hoS, hgS⟩ := HO4.out.stored (k * 2 + 1) (.int .i64 (x0 + x))
            have HOS : Hid ((w4.setCell ⟨G, k * 2 + 1, none⟩ (.int .i64 (x0 + x))).ownsRow w.heap.size 31 2 (.slice (some ⟨G, 0, none⟩) (hs.set k ⟨tx, x0 + x⟩).length C) (hs.set k ⟨tx, x0 + x⟩).length (hnCells (hs.set k ⟨tx, x0 + x⟩))) := by
              unfold Hid
              rw [HCS.out, List.length_set]
              exact hoS
            have HBS : Hid (Below w.heap.size w (w4.setCell ⟨G, k * 2 + 1, none⟩ (.int .i64 (x0 + x)))) := HB4.out.grown hgS HB4.out.size (fun j hj => (HO4.out.lt j hj).1)
            have HLS : Hid ((hs.set k ⟨tx, x0 + x⟩).length = hs.length) := by unfold Hid; rw [List.length_set]
            have HA : Hid (addAt hs t x k = (hs.set k ⟨tx, x0 + x⟩, true)) := HA1.out hle
            clear hoS hgS HO4 HB4 HA1 HA2 HCS
            go_wp2
            go_ret2
            rw [← HLS.out]
            exact addAnsS_at hB HT.out HP.out HA.out (by rw [HLS.out]; omega) (by rw [HLS.out]; exact hGC) HOS.out HBS.out
          · have hle2 : 999999999 < x0 + x := by omega
            have HA : Hid (addAt hs t x k = (hs, false)) := HA2.out hle
            clear HA1 HA2 HCS
            go_wp2
            go_ret2
            exact addAnsS_at hB HT.out HP.out HA.out (by omega) hGC HO4.out HB4.out
        | false =>
          by_cases hl : hs.length < 10
          · have hli : decide (10 ≤ (hs.length : Int)) = false := decide_eq_false (by omega)
            have HAD : Hid (addAt hs t x k = (hs.take k ++ [⟨t, x⟩] ++ hs.drop k, true)) := by unfold Hid addAt; rw [hh, if_neg (by simp), if_pos hl]
            clear hfa
            have hkc : (k : Int) ≤ (cap : Int) := by omega
            have hki : (k : Int) ≤ (hs.length : Int) := by omega
            obtain ⟨T1, hT1⟩ : ∃ T1, (hnCells hs).take (k * 2) = T1 := ⟨_, rfl⟩
            obtain ⟨T3, hT3⟩ : ∃ T3, ((hnCells hs).drop (k * 2)).take ((hs.length - k) * 2) = T3 := ⟨_, rfl⟩
            have HL1 : Hid (T1.length = k * 2) := by unfold Hid; rw [← hT1, List.length_take, HL0.out]; omega
            have HL3 : Hid (T3.length = (hs.length - k) * 2) := by unfold Hid; rw [← hT3, List.length_take, List.length_drop, HL0.out]; omega
            have HC1 : Hid (∀ u ∈ T1, u.oneCell' = true) := fun u hu => hns_one hs u (by rw [← hT1] at hu; exact List.mem_of_mem_take hu)
            have HC3 : Hid (∀ u ∈ T3, u.oneCell' = true) := fun u hu => hns_one hs u (by rw [← hT3] at hu; exact List.mem_of_mem_drop (List.mem_of_mem_take hu))
            have HJ : Hid (T1 ++ [.string t, .int .i64 x] ++ T3 = hnCells (hs.take k ++ [⟨t, x⟩] ++ hs.drop k)) := by
              unfold Hid
              have hq : ((hnCells hs).drop (k * 2)).take ((hs.length - k) * 2) = (hnCells hs).drop (k * 2) := List.take_of_length_le (by rw [List.length_drop, HL0.out]; omega)
              rw [← hT1, ← hT3, hq, hnCells_app, hnCells_app, hnCells_take, hnCells_drop]
              rfl
            have HR1 : Hid (∀ wx, Below w.heap.size w wx → ∀ j u, T1[j]? = some u → wx.cell? ((⟨g, 0, none⟩ : Addr).add j) = some u) := fun wx hb j u hj => by
              have := HRD.out wx hb 0 k (by omega) j u (by rw [Nat.zero_mul, List.drop_zero, hT1]; exact hj)
              rw [Nat.zero_mul] at this
              exact this
            have HR3 : Hid (∀ wx, Below w.heap.size w wx → ∀ j u, T3[j]? = some u → wx.cell? ((⟨g, k * 2, none⟩ : Addr).add j) = some u) := fun wx hb j u hj =>
              HRD.out wx hb k (hs.length - k) (by omega) j u (by rw [hT3]; exact hj)
            clear hT1 hT3 HRD HR HL0 HO4
            have HA0 : (w4.alloc (.cells #[] 31)).ownsRow w.heap.size 31 2 (.slice (some ⟨w4.heap.size, 0, none⟩) 0 0) 0 [] := ownsRow_mono (World.ownsRow_lit w4 #[] 0 (Nat.le_refl _) (by decide) rfl) hs4
            have HA : Hid ((w4.alloc (.cells #[] 31)).drew.ownsRow w.heap.size 31 2 (.slice (some ⟨w4.heap.size, 0, none⟩) 0 0) 0 []) := And.intro HA0.1 HA0.2
            have HC : Hid (((w4.alloc (.cells #[] 31)).alloc (.cells #[.string t, .int .i64 x] 31)).drew.ownsRow w.heap.size 31 2 (.slice (some ⟨w4.heap.size, 0, none⟩) 0 0) 0 []) := And.intro (HA0.alloc (.cells #[.string t, .int .i64 x] 31)).1 (HA0.alloc (.cells #[.string t, .int .i64 x] 31)).2
            have HF0 : ((w4.alloc (.cells #[.string t, .int .i64 x] 31)).alloc (.cells #[] 31)).ownsRow w.heap.size 31 2 (.slice (some ⟨w4.heap.size + 1, 0, none⟩) 0 0) 0 [] := by
              have h := World.ownsRow_lit (e := 31) (size := 2) (w4.alloc (.cells #[.string t, .int .i64 x] 31)) #[] 0 (Nat.le_refl _) (by decide) rfl
              rw [show (w4.alloc (.cells #[.string t, .int .i64 x] 31)).heap.size = w4.heap.size + 1 from by simp] at h
              exact ownsRow_mono h (by omega)
            have HF : Hid (((w4.alloc (.cells #[.string t, .int .i64 x] 31)).alloc (.cells #[] 31)).drew.ownsRow w.heap.size 31 2 (.slice (some ⟨w4.heap.size + 1, 0, none⟩) 0 0) 0 []) := And.intro HF0.1 HF0.2
            have hb0 := HB4.out.alloc hs4 (.cells #[] 31)
            have hb1 := hb0.alloc hb0.size (.cells #[.string t, .int .i64 x] 31)
            have hb2 := HB4.out.alloc hs4 (.cells #[.string t, .int .i64 x] 31)
            have hb3 := hb2.alloc hb2.size (.cells #[] 31)
            have hbA : Below w.heap.size w (w4.alloc (.cells #[] 31)).drew := ⟨hb0.os, hb0.tape, hb0.output, hb0.size, hb0.block⟩
            have hbC : Below w.heap.size w ((w4.alloc (.cells #[] 31)).alloc (.cells #[.string t, .int .i64 x] 31)).drew := ⟨hb1.os, hb1.tape, hb1.output, hb1.size, hb1.block⟩
            have hbF : Below w.heap.size w ((w4.alloc (.cells #[.string t, .int .i64 x] 31)).alloc (.cells #[] 31)).drew := ⟨hb3.os, hb3.tape, hb3.output, hb3.size, hb3.block⟩
            have HNA : Hid (∀ j u, T1[j]? = some u → (w4.alloc (.cells #[] 31)).drew.cell? ((⟨g, 0, none⟩ : Addr).add j) = some u) := HR1.out _ hbA
            have HNC : Hid (∀ j u, T1[j]? = some u → ((w4.alloc (.cells #[] 31)).alloc (.cells #[.string t, .int .i64 x] 31)).drew.cell? ((⟨g, 0, none⟩ : Addr).add j) = some u) := HR1.out _ hbC
            have HNF : Hid (∀ j u, T1[j]? = some u → ((w4.alloc (.cells #[.string t, .int .i64 x] 31)).alloc (.cells #[] 31)).drew.cell? ((⟨g, 0, none⟩ : Addr).add j) = some u) := HR1.out _ hbF
            have HLC : Hid (∀ j u, [Value.string t, .int .i64 x][j]? = some u → ((w4.alloc (.cells #[] 31)).alloc (.cells #[.string t, .int .i64 x] 31)).drew.cell? ((⟨w4.heap.size + 1, 0, none⟩ : Addr).add j) = some u) := by
              have h := cells_new (w4.alloc (.cells #[] 31)) [Value.string t, .int .i64 x] 31
              rw [show (w4.alloc (.cells #[] 31)).heap.size = w4.heap.size + 1 from by simp] at h
              exact h
            have HLF : Hid (∀ j u, [Value.string t, .int .i64 x][j]? = some u → ((w4.alloc (.cells #[.string t, .int .i64 x] 31)).alloc (.cells #[] 31)).drew.cell? ((⟨w4.heap.size, 0, none⟩ : Addr).add j) = some u) := fun j u h => by
              have h1 := cells_new w4 [Value.string t, .int .i64 x] 31 j u h
              rw [addr_add] at h1 ⊢
              exact (((Below.refl _ (w4.alloc (.cells #[.string t, .int .i64 x] 31))).alloc (Nat.le_refl _) (.cells #[] 31)).cell (p := ⟨w4.heap.size, 0 + j, none⟩) (by simp)).trans h1
            clear HA0 HF0 hb0 hb1 hb2 hb3 HR1 HB4
            by_cases hck : cap = k
            · have HT3 : Hid (T3 = []) := List.eq_nil_of_length_eq_zero (by rw [HL3.out]; omega)
              rw [HT3.out] at HJ
              have hkn : k = hs.length := by omega
              have hkd : hs.drop k = [] := by rw [hkn]; exact List.drop_of_length_le (Nat.le_refl _)
              have HKD : Hid (hs.drop k = []) := hkd
              clear hkd
              have hnk : (hs.length : Int) = (k : Int) := by omega
              clear HR3 HC3 HL3 HT3 hkn hnk
              subst hck
              go_wp2_with fail
              go_region_law (first
                | (refine step_append_own2 (by rfl) _ _ 23 (by rfl) w.heap.size 31 i0 (.agg #[.string ⟨#[]⟩, .int .i64 0]) 2 24 Tryd.underlying23 hi hz0 hz1 hz2 rfl (by decide) (.slice (some ⟨w4.heap.size, 0, none⟩) 0 0) 0 [] (by rfl) (by with_reducible exact HA.out) ⟨g, 0, none⟩ cap cap T1 (by rfl) HL1.out (by with_reducible exact HNA.out) HC1.out (by unfold maxLen; omega) (by omega) (by simp <;> omega) ?_; intro v6 w6 hown6 hgrow6 hnn6; have hb6 : Below w.heap.size w w6 := hbA.grown ⟨hgrow6.os, hgrow6.tape, hgrow6.output, hgrow6.size, hgrow6.block⟩ hbA.size (fun j hj => by cases hj; first | exact hs4 | exact Nat.le_succ_of_le hs4); have HO6 : Hid (w6.ownsRow w.heap.size 31 2 v6 cap T1) := by { unfold Hid; simpa using hown6 }; have hs6 := hb6.size; clear hown6 hgrow6)
                | (refine step_append_own2 (by rfl) _ _ 23 (by rfl) w.heap.size 31 i0 (.agg #[.string ⟨#[]⟩, .int .i64 0]) 2 24 Tryd.underlying23 hi hz0 hz1 hz2 rfl (by decide) (.slice (some ⟨w4.heap.size, 0, none⟩) 0 0) 0 [] (by rfl) (by with_reducible exact HC.out) ⟨g, 0, none⟩ cap cap T1 (by rfl) HL1.out (by with_reducible exact HNC.out) HC1.out (by unfold maxLen; omega) (by omega) (by simp <;> omega) ?_; intro v6 w6 hown6 hgrow6 hnn6; have hb6 : Below w.heap.size w w6 := hbC.grown ⟨hgrow6.os, hgrow6.tape, hgrow6.output, hgrow6.size, hgrow6.block⟩ hbC.size (fun j hj => by cases hj; first | exact hs4 | exact Nat.le_succ_of_le hs4); have hl6 : ∀ j u, [Value.string t, .int .i64 x][j]? = some u → w6.cell? ((⟨w4.heap.size + 1, 0, none⟩ : Addr).add j) = some u := fun j u h => hgrow6.cell (HLC.out j u h) (by rw [addr_add]; simp [Value.ownBlock]); have HO6 : Hid (w6.ownsRow w.heap.size 31 2 v6 cap T1) := by { unfold Hid; simpa using hown6 }; have hs6 := hb6.size; clear hown6 hgrow6)
                | (refine step_append_own2 (by rfl) _ _ 23 (by rfl) w.heap.size 31 i0 (.agg #[.string ⟨#[]⟩, .int .i64 0]) 2 24 Tryd.underlying23 hi hz0 hz1 hz2 rfl (by decide) (.slice (some ⟨w4.heap.size + 1, 0, none⟩) 0 0) 0 [] (by rfl) (by with_reducible exact HF.out) ⟨g, 0, none⟩ cap cap T1 (by rfl) HL1.out (by with_reducible exact HNF.out) HC1.out (by unfold maxLen; omega) (by omega) (by simp <;> omega) ?_; intro v6 w6 hown6 hgrow6 hnn6; have hb6 : Below w.heap.size w w6 := hbF.grown ⟨hgrow6.os, hgrow6.tape, hgrow6.output, hgrow6.size, hgrow6.block⟩ hbF.size (fun j hj => by cases hj; first | exact hs4 | exact Nat.le_succ_of_le hs4); have hl6 : ∀ j u, [Value.string t, .int .i64 x][j]? = some u → w6.cell? ((⟨w4.heap.size, 0, none⟩ : Addr).add j) = some u := fun j u h => hgrow6.cell (HLF.out j u h) (by rw [addr_add]; simp [Value.ownBlock]); have HO6 : Hid (w6.ownsRow w.heap.size 31 2 v6 cap T1) := by { unfold Hid; simpa using hown6 }; have hs6 := hb6.size; clear hown6 hgrow6)
                | (refine step_append_own2 (by rfl) _ _ 23 (by rfl) w.heap.size 31 i0 (.agg #[.string ⟨#[]⟩, .int .i64 0]) 2 24 Tryd.underlying23 hi hz0 hz1 hz2 rfl (by decide) v6 cap T1 (by rfl) (HO6.out.alloc _) ⟨w6.heap.size, 0, none⟩ 1 1 [.string t, .int .i64 x] (by rfl) rfl (cells_new _ _ _) (hn_one _ _) (by unfold maxLen; omega) (by omega) (by first | omega | (simp; omega)) ?_; intro v7 w7 hown7 hgrow7 hnn7; have hb7 : Below w.heap.size w w7 := (hb6.alloc hb6.size (.cells #[.string t, .int .i64 x] 31)).grown ⟨hgrow7.os, hgrow7.tape, hgrow7.output, hgrow7.size, hgrow7.block⟩ (hb6.alloc hb6.size (.cells #[.string t, .int .i64 x] 31)).size (fun j hj => (HO6.out.lt j hj).1); have HO7 : Hid (w7.ownsRow w.heap.size 31 2 v7 (cap + 1) (T1 ++ [.string t, .int .i64 x])) := hown7; have HN7 : Hid (v7 ≠ .slice none 0 0) := (fun e => by have := (hnn7.1 e).2; cases this); have hs7 := hb7.size; clear hown7 hgrow7 hnn7)
                | (refine step_append_own2 (by rfl) _ _ 23 (by rfl) w.heap.size 31 i0 (.agg #[.string ⟨#[]⟩, .int .i64 0]) 2 24 Tryd.underlying23 hi hz0 hz1 hz2 rfl (by decide) v6 cap T1 (by rfl) HO6.out ⟨w4.heap.size + 1, 0, none⟩ 1 1 [.string t, .int .i64 x] (by rfl) rfl (hl6) (hn_one _ _) (by unfold maxLen; omega) (by omega) (by first | omega | (simp; omega)) ?_; intro v7 w7 hown7 hgrow7 hnn7; have hb7 : Below w.heap.size w w7 := (hb6).grown ⟨hgrow7.os, hgrow7.tape, hgrow7.output, hgrow7.size, hgrow7.block⟩ (hb6).size (fun j hj => (HO6.out.lt j hj).1); have HO7 : Hid (w7.ownsRow w.heap.size 31 2 v7 (cap + 1) (T1 ++ [.string t, .int .i64 x])) := hown7; have HN7 : Hid (v7 ≠ .slice none 0 0) := (fun e => by have := (hnn7.1 e).2; cases this); have hs7 := hb7.size; clear hown7 hgrow7 hnn7)
                | (refine step_append_own2 (by rfl) _ _ 23 (by rfl) w.heap.size 31 i0 (.agg #[.string ⟨#[]⟩, .int .i64 0]) 2 24 Tryd.underlying23 hi hz0 hz1 hz2 rfl (by decide) v6 cap T1 (by rfl) HO6.out ⟨w4.heap.size, 0, none⟩ 1 1 [.string t, .int .i64 x] (by rfl) rfl (hl6) (hn_one _ _) (by unfold maxLen; omega) (by omega) (by first | omega | (simp; omega)) ?_; intro v7 w7 hown7 hgrow7 hnn7; have hb7 : Below w.heap.size w w7 := (hb6).grown ⟨hgrow7.os, hgrow7.tape, hgrow7.output, hgrow7.size, hgrow7.block⟩ (hb6).size (fun j hj => (HO6.out.lt j hj).1); have HO7 : Hid (w7.ownsRow w.heap.size 31 2 v7 (cap + 1) (T1 ++ [.string t, .int .i64 x])) := hown7; have HN7 : Hid (v7 ≠ .slice none 0 0) := (fun e => by have := (hnn7.1 e).2; cases this); have hs7 := hb7.size; clear hown7 hgrow7 hnn7)
                | (refine step_append_own2 (by rfl) _ _ 23 (by rfl) w.heap.size 31 i0 (.agg #[.string ⟨#[]⟩, .int .i64 0]) 2 24 Tryd.underlying23 hi hz0 hz1 hz2 rfl (by decide) v7 (cap + 1) (T1 ++ [.string t, .int .i64 x]) (by rfl) HO7.out ⟨g, 0, none⟩ 0 0 [] (by rfl) rfl (by simp) (by simp) (by unfold maxLen; omega) (by omega) (by omega) ?_; intro v8 w8 hown8 hgrow8 hnn8; have hb8 : Below w.heap.size w w8 := hb7.grown ⟨hgrow8.os, hgrow8.tape, hgrow8.output, hgrow8.size, hgrow8.block⟩ hb7.size (fun j hj => (HO7.out.lt j hj).1); have HO8 : Hid (w8.ownsRow w.heap.size 31 2 v8 (cap + 1) (T1 ++ [.string t, .int .i64 x] ++ [])) := hown8; have HN8 : Hid (v8 ≠ .slice none 0 0) := (fun e => HN7.out (hnn8.1 e).1); clear hown8 hgrow8 hnn8)
                | fail)

              all_goals
                have hlen : (hs.take cap ++ [(⟨t, x⟩ : Hn)] ++ hs.drop cap).length = cap + 1 := by simp; omega
                have ho := HO8.out
                rw [HJ.out] at ho
                obtain ⟨G8, C8, hv8, hGC8, hoG8⟩ := ret_hrow hlen ho HN8.out
                have HO9 : Hid (w8.ownsRow w.heap.size 31 2 (.slice (some ⟨G8, 0, none⟩) (hs.take cap ++ [(⟨t, x⟩ : Hn)] ++ hs.drop cap).length C8) (hs.take cap ++ [(⟨t, x⟩ : Hn)] ++ hs.drop cap).length (hnCells (hs.take cap ++ [⟨t, x⟩] ++ hs.drop cap))) := hoG8
                have HB8 : Hid (Below w.heap.size w w8) := hb8
                clear HO8 HO7 HO6 ho HN8 HN7 hoG8 HJ hb8
                rw [hv8]
                clear hv8
                have hl2 : (hs.take cap ++ [(⟨t, x⟩ : Hn)] ++ hs.drop cap).length ≤ hs.length + 1 := by omega
                generalize hs.take cap ++ [(⟨t, x⟩ : Hn)] ++ hs.drop cap = S at *
                clear hlen
                go_wp2
                go_ret2
                exact addAnsS_at hB HT.out HP.out HAD.out hl2 hGC8 HO9.out HB8.out

            · go_wp2_with fail
              go_region_law (first
                | (refine step_append_own2 (by rfl) _ _ 23 (by rfl) w.heap.size 31 i0 (.agg #[.string ⟨#[]⟩, .int .i64 0]) 2 24 Tryd.underlying23 hi hz0 hz1 hz2 rfl (by decide) (.slice (some ⟨w4.heap.size, 0, none⟩) 0 0) 0 [] (by rfl) (by with_reducible exact HA.out) ⟨g, 0, none⟩ k cap T1 (by rfl) HL1.out (by with_reducible exact HNA.out) HC1.out (by unfold maxLen; omega) (by omega) (by simp <;> omega) ?_; intro v6 w6 hown6 hgrow6 hnn6; have hb6 : Below w.heap.size w w6 := hbA.grown ⟨hgrow6.os, hgrow6.tape, hgrow6.output, hgrow6.size, hgrow6.block⟩ hbA.size (fun j hj => by cases hj; first | exact hs4 | exact Nat.le_succ_of_le hs4); have HO6 : Hid (w6.ownsRow w.heap.size 31 2 v6 k T1) := by { unfold Hid; simpa using hown6 }; have hs6 := hb6.size; clear hown6 hgrow6)
                | (refine step_append_own2 (by rfl) _ _ 23 (by rfl) w.heap.size 31 i0 (.agg #[.string ⟨#[]⟩, .int .i64 0]) 2 24 Tryd.underlying23 hi hz0 hz1 hz2 rfl (by decide) (.slice (some ⟨w4.heap.size, 0, none⟩) 0 0) 0 [] (by rfl) (by with_reducible exact HC.out) ⟨g, 0, none⟩ k cap T1 (by rfl) HL1.out (by with_reducible exact HNC.out) HC1.out (by unfold maxLen; omega) (by omega) (by simp <;> omega) ?_; intro v6 w6 hown6 hgrow6 hnn6; have hb6 : Below w.heap.size w w6 := hbC.grown ⟨hgrow6.os, hgrow6.tape, hgrow6.output, hgrow6.size, hgrow6.block⟩ hbC.size (fun j hj => by cases hj; first | exact hs4 | exact Nat.le_succ_of_le hs4); have hl6 : ∀ j u, [Value.string t, .int .i64 x][j]? = some u → w6.cell? ((⟨w4.heap.size + 1, 0, none⟩ : Addr).add j) = some u := fun j u h => hgrow6.cell (HLC.out j u h) (by rw [addr_add]; simp [Value.ownBlock]); have HO6 : Hid (w6.ownsRow w.heap.size 31 2 v6 k T1) := by { unfold Hid; simpa using hown6 }; have hs6 := hb6.size; clear hown6 hgrow6)
                | (refine step_append_own2 (by rfl) _ _ 23 (by rfl) w.heap.size 31 i0 (.agg #[.string ⟨#[]⟩, .int .i64 0]) 2 24 Tryd.underlying23 hi hz0 hz1 hz2 rfl (by decide) (.slice (some ⟨w4.heap.size + 1, 0, none⟩) 0 0) 0 [] (by rfl) (by with_reducible exact HF.out) ⟨g, 0, none⟩ k cap T1 (by rfl) HL1.out (by with_reducible exact HNF.out) HC1.out (by unfold maxLen; omega) (by omega) (by simp <;> omega) ?_; intro v6 w6 hown6 hgrow6 hnn6; have hb6 : Below w.heap.size w w6 := hbF.grown ⟨hgrow6.os, hgrow6.tape, hgrow6.output, hgrow6.size, hgrow6.block⟩ hbF.size (fun j hj => by cases hj; first | exact hs4 | exact Nat.le_succ_of_le hs4); have hl6 : ∀ j u, [Value.string t, .int .i64 x][j]? = some u → w6.cell? ((⟨w4.heap.size, 0, none⟩ : Addr).add j) = some u := fun j u h => hgrow6.cell (HLF.out j u h) (by rw [addr_add]; simp [Value.ownBlock]); have HO6 : Hid (w6.ownsRow w.heap.size 31 2 v6 k T1) := by { unfold Hid; simpa using hown6 }; have hs6 := hb6.size; clear hown6 hgrow6)
                | (refine step_append_own2 (by rfl) _ _ 23 (by rfl) w.heap.size 31 i0 (.agg #[.string ⟨#[]⟩, .int .i64 0]) 2 24 Tryd.underlying23 hi hz0 hz1 hz2 rfl (by decide) v6 k T1 (by rfl) (HO6.out.alloc _) ⟨w6.heap.size, 0, none⟩ 1 1 [.string t, .int .i64 x] (by rfl) rfl (cells_new _ _ _) (hn_one _ _) (by unfold maxLen; omega) (by omega) (by first | omega | (simp; omega)) ?_; intro v7 w7 hown7 hgrow7 hnn7; have hb7 : Below w.heap.size w w7 := (hb6.alloc hb6.size (.cells #[.string t, .int .i64 x] 31)).grown ⟨hgrow7.os, hgrow7.tape, hgrow7.output, hgrow7.size, hgrow7.block⟩ (hb6.alloc hb6.size (.cells #[.string t, .int .i64 x] 31)).size (fun j hj => (HO6.out.lt j hj).1); have HO7 : Hid (w7.ownsRow w.heap.size 31 2 v7 (k + 1) (T1 ++ [.string t, .int .i64 x])) := hown7; have HN7 : Hid (v7 ≠ .slice none 0 0) := (fun e => by have := (hnn7.1 e).2; cases this); have hs7 := hb7.size; clear hown7 hgrow7 hnn7)
                | (refine step_append_own2 (by rfl) _ _ 23 (by rfl) w.heap.size 31 i0 (.agg #[.string ⟨#[]⟩, .int .i64 0]) 2 24 Tryd.underlying23 hi hz0 hz1 hz2 rfl (by decide) v6 k T1 (by rfl) HO6.out ⟨w4.heap.size + 1, 0, none⟩ 1 1 [.string t, .int .i64 x] (by rfl) rfl (hl6) (hn_one _ _) (by unfold maxLen; omega) (by omega) (by first | omega | (simp; omega)) ?_; intro v7 w7 hown7 hgrow7 hnn7; have hb7 : Below w.heap.size w w7 := (hb6).grown ⟨hgrow7.os, hgrow7.tape, hgrow7.output, hgrow7.size, hgrow7.block⟩ (hb6).size (fun j hj => (HO6.out.lt j hj).1); have HO7 : Hid (w7.ownsRow w.heap.size 31 2 v7 (k + 1) (T1 ++ [.string t, .int .i64 x])) := hown7; have HN7 : Hid (v7 ≠ .slice none 0 0) := (fun e => by have := (hnn7.1 e).2; cases this); have hs7 := hb7.size; clear hown7 hgrow7 hnn7)
                | (refine step_append_own2 (by rfl) _ _ 23 (by rfl) w.heap.size 31 i0 (.agg #[.string ⟨#[]⟩, .int .i64 0]) 2 24 Tryd.underlying23 hi hz0 hz1 hz2 rfl (by decide) v6 k T1 (by rfl) HO6.out ⟨w4.heap.size, 0, none⟩ 1 1 [.string t, .int .i64 x] (by rfl) rfl (hl6) (hn_one _ _) (by unfold maxLen; omega) (by omega) (by first | omega | (simp; omega)) ?_; intro v7 w7 hown7 hgrow7 hnn7; have hb7 : Below w.heap.size w w7 := (hb6).grown ⟨hgrow7.os, hgrow7.tape, hgrow7.output, hgrow7.size, hgrow7.block⟩ (hb6).size (fun j hj => (HO6.out.lt j hj).1); have HO7 : Hid (w7.ownsRow w.heap.size 31 2 v7 (k + 1) (T1 ++ [.string t, .int .i64 x])) := hown7; have HN7 : Hid (v7 ≠ .slice none 0 0) := (fun e => by have := (hnn7.1 e).2; cases this); have hs7 := hb7.size; clear hown7 hgrow7 hnn7)
                | (refine step_append_own2 (by rfl) _ _ 23 (by rfl) w.heap.size 31 i0 (.agg #[.string ⟨#[]⟩, .int .i64 0]) 2 24 Tryd.underlying23 hi hz0 hz1 hz2 rfl (by decide) v7 (k + 1) (T1 ++ [.string t, .int .i64 x]) (by rfl) HO7.out ⟨g, k * 2, none⟩ (hs.length - k) (cap - k) T3 (by rfl) HL3.out (HR3.out _ hb7) HC3.out (by unfold maxLen; omega) (by omega) (by omega) ?_; intro v8 w8 hown8 hgrow8 hnn8; have hb8 : Below w.heap.size w w8 := hb7.grown ⟨hgrow8.os, hgrow8.tape, hgrow8.output, hgrow8.size, hgrow8.block⟩ hb7.size (fun j hj => (HO7.out.lt j hj).1); have HO8 : Hid (w8.ownsRow w.heap.size 31 2 v8 (k + 1 + (hs.length - k)) (T1 ++ [.string t, .int .i64 x] ++ T3)) := hown8; have HN8 : Hid (v8 ≠ .slice none 0 0) := (fun e => HN7.out (hnn8.1 e).1); clear hown8 hgrow8 hnn8)
                | fail)

              all_goals
                have hlen : (hs.take k ++ [(⟨t, x⟩ : Hn)] ++ hs.drop k).length = k + 1 + (hs.length - k) := by simp; omega
                have ho := HO8.out
                rw [HJ.out] at ho
                obtain ⟨G8, C8, hv8, hGC8, hoG8⟩ := ret_hrow hlen ho HN8.out
                have HO9 : Hid (w8.ownsRow w.heap.size 31 2 (.slice (some ⟨G8, 0, none⟩) (hs.take k ++ [(⟨t, x⟩ : Hn)] ++ hs.drop k).length C8) (hs.take k ++ [(⟨t, x⟩ : Hn)] ++ hs.drop k).length (hnCells (hs.take k ++ [⟨t, x⟩] ++ hs.drop k))) := hoG8
                have HB8 : Hid (Below w.heap.size w w8) := hb8
                clear HO8 HO7 HO6 ho HN8 HN7 hoG8 HJ hb8
                rw [hv8]
                clear hv8
                have hl2 : (hs.take k ++ [(⟨t, x⟩ : Hn)] ++ hs.drop k).length ≤ hs.length + 1 := by omega
                generalize hs.take k ++ [(⟨t, x⟩ : Hn)] ++ hs.drop k = S at *
                clear hlen
                go_wp2
                go_ret2
                exact addAnsS_at hB HT.out HP.out HAD.out hl2 hGC8 HO9.out HB8.out

          · have hli : decide (10 ≤ (hs.length : Int)) = true := decide_eq_true (by omega)
            have HA : Hid (addAt hs t x k = (hs, false)) := by unfold Hid addAt; rw [hh, if_neg (by simp), if_neg hl]
            clear hfa HRD
            go_wp2
            go_ret2
            exact addAnsS_at hB HT.out HP.out HA.out (by omega) hGC HO4.out HB4.out
end Go.Proofs.YtgmfaganaeibkaaDoor
