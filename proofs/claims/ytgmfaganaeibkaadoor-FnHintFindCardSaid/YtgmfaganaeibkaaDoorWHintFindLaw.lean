/- The walk of the law FnHintFind. -/
import Derived.Test.YtgmfaganaeibkaaDoorWHintLess
namespace Go.Proofs.YtgmfaganaeibkaaDoor
open Go.RowKit
set_option linter.unusedVariables false

/-- By weight, the greatest first; as heavy ones by text. -/
def BeforeW (a b : Hn) : Prop := b.weight < a.weight ∨ (b.weight = a.weight ∧ Op.bytesLess a.text.toList b.text.toList = true)
theorem before_desc {l : List Hn} (h : l.Pairwise BeforeW) : DescW l := h.imp fun h => by
  rcases h with h | ⟨h, _⟩ <;> omega
theorem insW_before {l : List Hn} (h : l.Pairwise BeforeW) (y : Hn) (hy : ∀ a ∈ l, Op.bytesLess a.text.toList y.text.toList = true) : (insW l y).Pairwise BeforeW := by
  rw [insW_filter (before_desc h), List.pairwise_append, List.pairwise_append]
  refine ⟨⟨h.filter _, List.pairwise_singleton _ _, fun a ha b hb => ?_⟩, h.filter _, fun a ha b hb => ?_⟩
  · rw [List.mem_singleton] at hb
    subst hb
    rw [List.mem_filter] at ha
    have h1 := of_decide_eq_true ha.2
    have h2 := hy a ha.1
    by_cases e : b.weight = a.weight
    · exact .inr ⟨e, h2⟩
    · exact .inl (by omega)
  · have hb2 : b.weight < y.weight := by
      have := (List.mem_filter.1 hb).2
      unfold geW at this
      simp at this
      exact this
    rw [List.mem_append, List.mem_singleton] at ha
    rcases ha with ha | rfl
    · have := of_decide_eq_true (List.mem_filter.1 ha).2
      exact .inl (by omega)
    · exact .inl hb2
theorem insW_mem {l : List Hn} {y a : Hn} (h : a ∈ insW l y) : a = y ∨ a ∈ l := by
  unfold insW at h
  rw [List.mem_append, List.mem_append, List.mem_singleton] at h
  rcases h with (h | h) | h
  · exact .inr (List.mem_of_mem_take h)
  · exact .inl h
  · exact .inr (List.mem_of_mem_drop h)
theorem sortW_before {l : List Hn} (h : l.Pairwise fun a b => Op.bytesLess a.text.toList b.text.toList = true) : (sortW l).Pairwise BeforeW := by
  have key : ∀ (l acc : List Hn), l.Pairwise (fun a b => Op.bytesLess a.text.toList b.text.toList = true) → acc.Pairwise BeforeW → (∀ a ∈ acc, ∀ b ∈ l, Op.bytesLess a.text.toList b.text.toList = true) → (l.foldl insW acc).Pairwise BeforeW := fun l => by
    induction l with
    | nil => intro acc _ h _; exact h
    | cons y l ih =>
      intro acc hl ha hab
      rw [List.foldl_cons]
      rw [List.pairwise_cons] at hl
      refine ih _ hl.2 (insW_before ha y fun a h => hab a h y (List.mem_cons_self ..)) fun a h b hb => ?_
      rcases insW_mem h with rfl | h
      · exact hl.1 b hb
      · exact hab a h b (List.mem_cons_of_mem _ hb)
  exact key l [] h List.Pairwise.nil (fun a h => absurd h (by simp))
theorem asc_pairs {hs : List Hn} (h : AscH hs) : hs.Pairwise fun a b => Op.bytesLess a.text.toList b.text.toList = true := by
  rw [List.pairwise_iff_getElem]
  intro i j hi hj hij
  have := h i j hij hj
  rwa [hnat_get _ _ hi, hnat_get _ _ hj] at this
theorem findR_ok {hs : List Hn} {b : ByteArray} {m : Int} (h : hintsB hs = true) (hm : 0 ≤ m) : FindR hs b m = (sortW (findH hs b)).take m.toNat := if_pos ⟨h, hm⟩
theorem find_next {hs : List Hn} {b : ByteArray} {m : Int} (h : hintsB hs = true) (hm : 0 ≤ m) {i : Nat} (hi : i + 1 < (FindR hs b m).length) : BeforeW (hnat (FindR hs b m) i) (hnat (FindR hs b m) (i + 1)) := by
  obtain ⟨_, _, ha⟩ := hints_iff.1 h
  have hp : (FindR hs b m).Pairwise BeforeW := by
    rw [findR_ok h hm]
    exact (sortW_before ((asc_pairs ha).filter _)).take
  rw [hnat_get _ _ (by omega), hnat_get _ _ hi]
  exact List.pairwise_iff_getElem.1 hp i (i + 1) (by omega) hi (by omega)
/-- Whether one of the first k is y. -/
def someTo (X : List Hn) (y : Hn) : Nat → Bool
  | 0 => false
  | k + 1 => someTo X y k || hnEq (hnat X k) y
theorem someTo_mem {X : List Hn} {y : Hn} (hy : y ∈ X) : someTo X y X.length = true := by
  obtain ⟨j, hj, rfl⟩ := List.getElem_of_mem hy
  have key : ∀ n, j < n → someTo X X[j] n = true := fun n => by
    induction n with
    | zero => intro h; omega
    | succ n ih =>
      intro h
      unfold someTo
      by_cases e : j = n
      · subst e
        rw [hnat_get _ _ hj, hnEq_self, Bool.or_true]
      · rw [ih (by omega), Bool.true_or]
  exact key _ hj
theorem find_left {hs : List Hn} {b : ByteArray} {m : Int} (h : hintsB hs = true) (hm : 0 ≤ m) {i : Nat} (hi : i < hs.length) (hp : preB b (hnat hs i).text = true) (hn : someTo (FindR hs b m) (hnat hs i) (FindR hs b m).length = false) : m ≤ ((FindR hs b m).length : Int) ∧ ∀ q, (FindR hs b m).length = q + 1 → (hnat hs i).weight ≤ (hnat (FindR hs b m) q).weight := by
  obtain ⟨y, hy⟩ : ∃ y, hnat hs i = y := ⟨_, rfl⟩
  have hyF : y ∈ findH hs b := by
    unfold findH
    rw [List.mem_filter, ← hy]
    refine ⟨by rw [hnat_get _ _ hi]; exact List.getElem_mem hi, ?_⟩
    rw [hp]
  have hyS : y ∈ sortW (findH hs b) := by
    have key : ∀ (l acc : List Hn), (y ∈ l ∨ y ∈ acc) → y ∈ l.foldl insW acc := fun l => by
      induction l with
      | nil =>
        rintro acc (h | h)
        · exact absurd h (by simp)
        · exact h
      | cons a l ih =>
        intro acc h
        rw [List.foldl_cons]
        have hin : ∀ z, z = a ∨ z ∈ acc → z ∈ insW acc a := fun z hz => by
          unfold insW
          rw [List.mem_append, List.mem_append, List.mem_singleton]
          rcases hz with rfl | hz
          · exact .inl (.inr rfl)
          · rw [← List.take_append_drop (posW acc a.weight acc.length) acc, List.mem_append] at hz
            rcases hz with hz | hz
            · exact .inl (.inl hz)
            · exact .inr hz
        rcases h with h | h
        · rcases List.mem_cons.1 h with rfl | h
          · exact ih _ (.inr (hin _ (.inl rfl)))
          · exact ih _ (.inl h)
        · exact ih _ (.inr (hin _ (.inr h)))
    exact key _ [] (.inl hyF)
  rw [hy] at hn ⊢
  have hnot : ¬ y ∈ FindR hs b m := fun h => by rw [someTo_mem h] at hn; cases hn
  rw [findR_ok h hm] at hnot ⊢
  obtain ⟨j, hj, hje⟩ := List.getElem_of_mem hyS
  have hjm : m.toNat ≤ j := by
    rcases Nat.lt_or_ge j m.toNat with h1 | h1
    · exfalso
      apply hnot
      rw [← hje]
      exact List.mem_take_iff_getElem.2 ⟨j, by omega, rfl⟩
    · exact h1
  have hl : ((sortW (findH hs b)).take m.toNat).length = m.toNat := by rw [List.length_take]; omega
  refine ⟨by rw [hl]; omega, fun q hq => ?_⟩
  rw [hl] at hq
  rw [hnat_take (by rw [hl]; omega)]
  have := desc_at (sortW_desc (findH hs b)) (i := q) (j := j) (by omega) hj
  rw [hnat_get _ _ hj, hje] at this
  exact this
theorem find_most {hs : List Hn} {b : ByteArray} {m : Int} (h : hintsB hs = true) (hm : 0 ≤ m) : ((FindR hs b m).length : Int) ≤ m ∧ (FindR hs b m).length ≤ nKept hs (fun h => preB b h.text) hs.length := by
  rw [findR_ok h hm, kept_all, List.length_take, sortW_len]
  unfold findH
  exact ⟨by omega, by omega⟩
set_option maxRecDepth 100000 in
set_option maxHeartbeats 8000000 in
theorem wFnHintFind (a0 : Option Addr) (len0 cap0 : Nat) (w : World) (hm : MaxL w) (b0 : BytesIn w a0 len0 cap0) :
    Calls Tryd.prog 4 #[.slice a0 len0 cap0] w fun e w' => e = .returned (.bool true) ∧ Below w.heap.size w w' := by
  have m0 := b0.le
  have m1 := b0.max
  unfold maxLen at m1
  by_cases hbig0 : 1048576 < (len0 : Int)
  · clear b0 hm
    go_enter Tryd.func4, Tryd.ntmps4
    go_wp2
    go_ret
    exact ⟨rfl, Below.refl _ _⟩
  have HM : Hid (∀ wx, Below w.heap.size w wx → MaxL wx) := fun wx h => hm.below h
  clear hm
  go_enter Tryd.func4, Tryd.ntmps4
  go_wp2_with fail
  refine (drawHintFind_any _ _ _ _ b0).mono ?_
  rintro e u1 ⟨G, C, L, t, m, rfl, hL, ht, hx, hD, hb1⟩
  have HSM : Hid (HnsSmall L) := hD.2.1
  have HR : Hid (∀ wx, Below u1.heap.size u1 wx → HnRow wx (some ⟨G, 0, none⟩) L) := fun wx h => hD.row.below h
  have HMU : Hid (∀ wx, Below u1.heap.size u1 wx → MaxL wx) := fun wx h => HM.out wx (below_trans hb1 h)
  have hl1 := findR_len L t m
  clear hD b0 HM
  go_wp2_with fail
  refine (findI_row (some ⟨G, 0, none⟩) C L t m u1 (by omega) HSM.out (HMU.out _ (Below.refl _ _)) (HR.out _ (Below.refl _ _))).mono ?_
  rintro e u2 ⟨p2, c2, rfl, r2, hb2⟩
  go_wp2_with fail
  refine (findS_row (some ⟨G, 0, none⟩) C L t m u2 (by omega) HSM.out (HR.out _ hb2)).mono ?_
  rintro e u3 ⟨p3, c3, rfl, q3, hb3⟩
  have r3 := r2.below hb3
  have hb13 := below_trans hb2 hb3
  clear r2 hb2 hb3
  go_wp2_with fail
  refine (sdHints_same p2 p3 c2 c3 _ _ (by omega) r3 q3).mono ?_
  rintro e u4 ⟨rfl, hb4⟩
  have r4 := r3.below hb4
  have hb14 := below_trans hb13 hb4
  clear r3 q3 hb13 hb4
  go_wp2_with fail
  refine (hintsS_any (some ⟨G, 0, none⟩) C L _ (by omega) HSM.out (HR.out _ hb14)).mono ?_
  rintro e u5 ⟨rfl, hb5⟩
  have r5 := r4.below hb5
  have hb15 := below_trans hb14 hb5
  clear r4 hb14 hb5
  by_cases hok : hintsB L = true ∧ 0 ≤ m
  · obtain ⟨hB, hm0⟩ := hok
    have hmd : decide (m < 0) = false := decide_eq_false (by omega)
    rw [hB]
    have HNX : Hid (∀ i, i + 1 < (FindR L t m).length → BeforeW (hnat (FindR L t m) i) (hnat (FindR L t m) (i + 1))) := fun i hi => find_next hB hm0 hi
    have HLF : Hid (∀ i, i < L.length → preB t (hnat L i).text = true → someTo (FindR L t m) (hnat L i) (FindR L t m).length = false → m ≤ ((FindR L t m).length : Int) ∧ ∀ q, (FindR L t m).length = q + 1 → (hnat L i).weight ≤ (hnat (FindR L t m) q).weight) := fun i hi h1 h2 => find_left hB hm0 hi h1 h2
    obtain ⟨hmost1, hmost2⟩ := find_most (b := t) hB hm0
    generalize FindR L t m = X at *
    have HRX : Hid (∀ wx, Below u5.heap.size u5 wx → HnRow wx p2 X) := fun wx h => r5.below h
    have HRL : Hid (∀ wx, Below u5.heap.size u5 wx → HnRow wx (some ⟨G, 0, none⟩) L) := fun wx h => HR.out wx (below_trans hb15 h)
    have hw5 := below_trans hb1 hb15
    have HKY : Hid (∀ i, i < L.length → preB t (hnat L i).text = true → nKept L (fun h => preB t h.text) (i + 1) = nKept L (fun h => preB t h.text) i + 1) := fun i hi h => (kept_yes (p := fun h => preB t h.text) hi h).2.2
    have HKN : Hid (∀ i, i < L.length → preB t (hnat L i).text = false → nKept L (fun h => preB t h.text) (i + 1) = nKept L (fun h => preB t h.text) i) := fun i hi h => (kept_no (p := fun h => preB t h.text) hi h).1
    have HKL : Hid (∀ i, nKept L (fun h => preB t h.text) i ≤ i) := fun i => nKept_le _ _ i
    have HK0 : Hid (nKept L (fun h => preB t h.text) 0 = 0) := by have := nKept_le L (fun h => preB t h.text) 0; unfold Hid; omega
    have HPR : Hid (∀ s : ByteArray, preB t s = (decide (t.size ≤ s.size) && ((s.extract 0 t.size).toList == t.toList))) := fun s => rfl
    have HMO : Hid (X.length ≤ nKept L (fun h => preB t h.text) L.length) := hmost2
    generalize nKept L (fun h => preB t h.text) = N at *
    obtain ⟨n, hn⟩ : ∃ n, X.length = n := ⟨_, rfl⟩
    have HXN : Hid (X.length = n) := hn
    rw [hn] at hl1 hmost1 HNX HLF HMO
    rw [hn]
    clear r5 hb15 HR HMU hb1 hB hn hmost2
    go_wp2
    go_loopw [7, 8] (fun vf vi wr => ∃ i : Nat, i ≤ L.length ∧ vi = .int .i64 i ∧ vf = .int .i64 (N i : Nat) ∧ Below u5.heap.size u5 wr) (fun _ vi _ => L.length - (intOf vi).toNat)
    case atStart => exact ⟨0, Nat.zero_le _, rfl, by rw [HK0.out]; rfl, Below.refl _ _⟩
    case round =>
      obtain ⟨i, hi, rfl, rfl, hbr⟩ := hrel
      have hNl := HKL.out i
      by_cases hlt : i < L.length
      · have hii : (i : Int) < (L.length : Int) := by omega
        obtain ⟨g, off, e, hg, hc⟩ := HRL.out _ hbr (by omega)
        cases e
        obtain ⟨d0, d1⟩ := hc i hlt
        rw [Nat.zero_add] at d0 d1
        have HCL : Hid (∀ wx, Below u5.heap.size u5 wx → wx.cell? ⟨G, i * 2, none⟩ = some (.string (hnat L i).text) ∧ wx.cell? ⟨G, i * 2 + 1, none⟩ = some (.int .i64 (hnat L i).weight)) := fun wx h => by
          obtain ⟨g', off', e, _, hc'⟩ := HRL.out wx h (by omega)
          cases e
          have := hc' i hlt
          rwa [Nat.zero_add] at this
        have hKY := HKY.out i hlt
        have hKN := HKN.out i hlt
        have hLF := HLF.out i hlt
        have hpr := HPR.out (hnat L i).text
        have HS1 : Hid (∀ k, someTo X (hnat L i) (k + 1) = (someTo X (hnat L i) k || hnEq (hnat X k) (hnat L i))) := fun k => rfl
        have HS0 : Hid (someTo X (hnat L i) 0 = false) := rfl
        generalize hnat L i = y at *
        obtain ⟨ty, xy⟩ := y
        simp only at d0 d1 hKY hKN hpr HCL hLF
        clear hc
        by_cases hsz : t.size ≤ ty.size
        · have hszi : decide ((ty.size : Int) < (t.size : Int)) = false := decide_eq_false (by omega)
          have hszj : (t.size : Int) ≤ (ty.size : Int) := by omega
          rw [decide_eq_true hsz, Bool.true_and] at hpr
          cases hp : ((ty.extract 0 t.size).toList == t.toList) with
          | false =>
            rw [hp] at hpr
            have HN1 : Hid (N (i + 1) = N i) := hKN hpr
            generalize N i = nn at *
            clear hKY hKN hLF hpr
            go_wp2
            go_roundw
            case rel => exact ⟨i + 1, by omega, by go_num, by rw [HN1.out], hbr⟩
            case measure => simp [intOf]; omega
          | true =>
            rw [hp] at hpr
            have HN1 : Hid (N (i + 1) = N i + 1) := hKY hpr
            have HLQ : Hid (someTo X ⟨ty, xy⟩ n = false → m ≤ (n : Int) ∧ ∀ q, n = q + 1 → xy ≤ (hnat X q).weight) := hLF hpr
            generalize N i = nn at *
            clear hKY hKN hLF hpr
            go_wp2
            go_loopw [9, 10] (fun vs vk wz => ∃ k : Nat, k ≤ n ∧ vk = .int .i64 k ∧ vs = .bool (someTo X ⟨ty, xy⟩ k) ∧ Below u5.heap.size u5 wz) (fun _ vk _ => n - (intOf vk).toNat)
            case atStart => exact ⟨0, Nat.zero_le _, rfl, by rw [HS0.out], hbr⟩
            case round =>
              rename World => wz
              clear hbr d0 d1 hp
              obtain ⟨k, hk, rfl, rfl, hbz⟩ := hrel
              obtain ⟨y0, y1⟩ := HCL.out _ hbz
              by_cases hlk : k < n
              · have hki : (k : Int) < (n : Int) := by omega
                have hkx : k < X.length := by rw [HXN.out]; exact hlk
                obtain ⟨gX, offX, rfl, hgX, hcX⟩ := HRX.out _ hbz (by omega)
                obtain ⟨l0, l1⟩ := hcX k hkx
                have HSK : Hid (someTo X ⟨ty, xy⟩ (k + 1) = (someTo X ⟨ty, xy⟩ k || hnEq (hnat X k) ⟨ty, xy⟩)) := HS1.out k
                have heq := eqHn (hnat X k).text ty (hnat X k).weight xy
                generalize hnat X k = z at *
                obtain ⟨tz, xz⟩ := z
                simp only at l0 l1 heq
                generalize hnEq ⟨tz, xz⟩ ⟨ty, xy⟩ = bq at *
                generalize someTo X ⟨ty, xy⟩ k = bs at *
                clear hcX
                cases bs
                · cases bq
                  all_goals
                    go_wp2
                    go_quiet (fail)
                    go_wp2
                    go_roundw
                    case rel => exact ⟨k + 1, by omega, by go_num, by rw [HSK.out]; rfl, below_drewN hbz _⟩
                    case measure => simp [intOf]; omega
                · go_wp2
                  go_quiet (fail)
                  go_wp2
                  go_roundw
                  case rel => exact ⟨k + 1, by omega, by go_num, by rw [HSK.out]; rfl, below_drewN hbz _⟩
                  case measure => simp [intOf]; omega
              · have hke : k = n := by omega
                subst hke
                cases hs : someTo X ⟨ty, xy⟩ k with
                | true =>
                  go_wp2
                  go_quiet (fail)
                  go_wp2
                  go_roundw
                  case rel => exact ⟨i + 1, by omega, by go_num, by rw [HN1.out]; go_num, below_drewN hbz _⟩
                  case measure => simp [intOf]; omega
                | false =>
                  obtain ⟨h1, h2⟩ := HLQ.out hs
                  have h1d : decide ((k : Int) < m) = false := decide_eq_false (by omega)
                  cases k with
                  | zero =>
                    have h1e : decide ((0 : Int) < m) = false := decide_eq_false (by omega)
                    clear h2
                    go_wp2
                    go_quiet (fail)
                    go_wp2
                    go_roundw
                    case rel => exact ⟨i + 1, by omega, by go_num, by rw [HN1.out]; go_num, below_drewN hbz _⟩
                    case measure => simp [intOf]; omega
                  | succ q =>
                    have hqx : q < X.length := by rw [HXN.out]; omega
                    have h3 := h2 q rfl
                    obtain ⟨gX, offX, rfl, hgX, hcX⟩ := HRX.out _ hbz (by omega)
                    obtain ⟨l0, l1⟩ := hcX q hqx
                    generalize hnat X q = z at *
                    obtain ⟨tz, xz⟩ := z
                    simp only at l0 l1 h3
                    have h3d : decide (xz < xy) = false := decide_eq_false (by omega)
                    have hwq : IntKind.i64.wrap (q : Int) = (q : Int) := by rw [IntKind.wrap_i64]; omega
                    have q0 : (q : Int) < (q : Int) + 1 := by omega
                    have q1 : (0 : Int) < (q : Int) + 1 := by omega
                    have q2 : (0 : Int) ≤ (q : Int) := by omega
                    have h1e : decide ((q : Int) + 1 < m) = false := decide_eq_false (by omega)
                    clear hcX h2 h1
                    go_wp2
                    go_quiet (fail)
                    go_wp2
                    go_roundw
                    case rel => exact ⟨i + 1, by omega, by go_num, by rw [HN1.out]; go_num, below_drewN hbz _⟩
                    case measure => simp [intOf]; omega
        · have hszi : (ty.size : Int) < (t.size : Int) := by omega
          rw [decide_eq_false hsz, Bool.false_and] at hpr
          have HN1 : Hid (N (i + 1) = N i) := hKN hpr
          generalize N i = nn at *
          clear hKY hKN hLF hpr
          go_wp2
          go_roundw
          case rel => exact ⟨i + 1, by omega, by go_num, by rw [HN1.out], hbr⟩
          case measure => simp [intOf]; omega
      · have hie : i = L.length := by omega
        subst hie
        have hmn : (n : Int) ≤ (N L.length : Int) := by have := HMO.out; omega
        generalize N L.length = nn at *
        go_wp2
        go_loopw [11] (fun vi wq => ∃ i : Nat, 1 ≤ i ∧ i ≤ n + 1 ∧ vi = .int .i64 i ∧ Below u5.heap.size u5 wq) (fun vi _ => n + 1 - (intOf vi).toNat)
        case atStart => exact ⟨1, Nat.le_refl _, by omega, rfl, hbr⟩
        case round =>
          rename World => wq
          clear hbr
          obtain ⟨i, hi1, hi2, rfl, hbq⟩ := hrel
          by_cases hin : i < n
          · obtain ⟨q, rfl⟩ : ∃ q, i = q + 1 := ⟨i - 1, by omega⟩
            have hq1 : q + 1 < X.length := by rw [HXN.out]; exact hin
            obtain ⟨gX, offX, rfl, hgX, hcX⟩ := HRX.out _ hbq (by omega)
            obtain ⟨l0, l1⟩ := hcX q (by omega)
            obtain ⟨k0, k1⟩ := hcX (q + 1) hq1
            have hbf := HNX.out q hin
            generalize hnat X q = za at *
            generalize hnat X (q + 1) = zb at *
            obtain ⟨ta, xa⟩ := za
            obtain ⟨tb, xb⟩ := zb
            unfold BeforeW at hbf
            simp only at l0 l1 k0 k1 hbf
            have hwq : IntKind.i64.wrap (q : Int) = (q : Int) := by rw [IntKind.wrap_i64]; omega
            have q0 : (q : Int) < (n : Int) := by omega
            have q1 : (q : Int) + 1 < (n : Int) := by omega
            have q2 : (0 : Int) ≤ (q : Int) := by omega
            have q3 : (0 : Int) ≤ (q : Int) + 1 := by omega
            have e0 : ((q : Int) + 1).toNat = q + 1 := by omega
            clear hcX
            rcases hbf with hlw | ⟨hew, hlt⟩
            · have h1 : decide (xa < xb) = false := decide_eq_false (by omega)
              have h2 : (xa == xb) = false := beq_eq_false_iff_ne.2 (by omega)
              go_wp2
              go_quiet (fail)
              go_wp2
              go_roundw
              case rel => exact ⟨q + 1 + 1, by omega, by omega, by go_num, below_drewN hbq _⟩
              case measure => simp [intOf]; omega
            · subst hew
              have h1 : decide (xb < xb) = false := by simp
              go_wp2
              go_quiet (fail)
              go_wp2
              go_roundw
              case rel => exact ⟨q + 1 + 1, by omega, by omega, by go_num, below_drewN hbq _⟩
              case measure => simp [intOf]; omega
          · have hnd : decide ((i : Int) < (n : Int)) = false := decide_eq_false (by omega)
            go_wp2
            go_ret
            exact ⟨rfl, below_trans hw5 hbq⟩
  · have hmm : hintsB L = true → m < 0 := fun h => by
      rcases Int.lt_or_le m 0 with h1 | h1
      · exact h1
      · exact absurd ⟨h, h1⟩ hok
    cases hB : hintsB L with
    | false =>
      go_wp2_with fail
      refine (findS_row (some ⟨G, 0, none⟩) C L t m u5 (by omega) HSM.out (HR.out _ hb15)).mono ?_
      rintro e u6 ⟨p6, c6, rfl, q6, hb6⟩
      have r6 := r5.below hb6
      go_wp2_with fail
      refine (sdHints_same p2 p6 c2 c6 _ _ (by omega) r6 q6).mono ?_
      rintro e u7 ⟨rfl, hb7⟩
      clear r5 r6 q6
      go_wp2
      go_ret
      exact ⟨rfl, below_trans hb1 (below_trans hb15 (below_trans hb6 hb7))⟩
    | true =>
      have hneg := hmm hB
      go_wp2_with fail
      refine (findS_row (some ⟨G, 0, none⟩) C L t m u5 (by omega) HSM.out (HR.out _ hb15)).mono ?_
      rintro e u6 ⟨p6, c6, rfl, q6, hb6⟩
      have r6 := r5.below hb6
      go_wp2_with fail
      refine (sdHints_same p2 p6 c2 c6 _ _ (by omega) r6 q6).mono ?_
      rintro e u7 ⟨rfl, hb7⟩
      clear r5 r6 q6
      go_wp2
      go_ret
      exact ⟨rfl, below_trans hb1 (below_trans hb15 (below_trans hb6 hb7))⟩
end Go.Proofs.YtgmfaganaeibkaaDoor
