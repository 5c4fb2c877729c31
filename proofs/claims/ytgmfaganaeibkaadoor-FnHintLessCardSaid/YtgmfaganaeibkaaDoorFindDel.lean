/- slices.IndexFunc and slices.DeleteFunc over hints: what does not begin so is struck. -/
import Derived.Test.YtgmfaganaeibkaaDoorFindPlain
import Derived.Lib.SliceRun
namespace Go.Proofs.YtgmfaganaeibkaaDoor
open Go.RowKit
set_option linter.unusedVariables false

/-- 'clear(s)' of a slice whose elements are of several cells. -/
theorem run_clear_any {P : Program} (w : World) (t e ty : TypeId) (z : Value) (ht : P.underlying t = some (.slice e)) (hv : ∀ w, (zeroValue e).run P w = .ok z w) (b o n c : Nat) (hn : 0 < n) (h1 : ∀ v ∈ (Builtin.zeroCells z.cells n).toList, v.oneCell' = true)
    (hc : ∀ j, j < (Builtin.zeroCells z.cells n).toList.length → (w.cell? ⟨b, o + j, none⟩).isSome = true) (hf : ∀ j, j < (Builtin.zeroCells z.cells n).toList.length → w.frozen? ⟨b, o + j, none⟩ = false) :
    (Builtin.clear_ #[t] ty #[.slice (some ⟨b, o, none⟩) n c]).run P w = .ok (.tuple #[]) (w.setCells b o (Builtin.zeroCells z.cells n).toList) := by
  have hst := run_storeCells_cells (P := P) b o (Builtin.zeroCells z.cells n).toList 0 w (by simpa using hc) (by simpa using hf) h1
  simp only [Nat.add_zero] at hst
  obtain ⟨m, rfl⟩ : ∃ m, n = m + 1 := ⟨n - 1, by omega⟩
  simp [Builtin.clear_, run_underlying ht, hv, hst]
theorem hn_zero (n : Nat) : (Builtin.zeroCells (Value.agg #[.string ⟨#[]⟩, .int .i64 0]).cells n).toList.length = n * 2 ∧ ∀ v ∈ (Builtin.zeroCells (Value.agg #[.string ⟨#[]⟩, .int .i64 0]).cells n).toList, v.oneCell' = true := by
  have h2 : (Value.agg #[.string ⟨#[]⟩, .int .i64 0]).cells = #[.string ⟨#[]⟩, .int .i64 0] := by simp [Value.cells]
  rw [h2]
  refine ⟨by simp [Builtin.zeroCells], fun v hv => ?_⟩
  simp only [Builtin.zeroCells, Array.toList_map, List.mem_map] at hv
  obtain ⟨i, _, rfl⟩ := hv
  rcases Nat.mod_two_eq_zero_or_one i with e | e
  · simp [e]; rfl
  · simp [e]; rfl
/-- A row's first part. -/
theorem own_cut {w : World} {B g n c m s : Nat} {e : TypeId} {xs : List Value} (h : w.ownsRow B e s (.slice (some ⟨g, 0, none⟩) n c) n xs) (hm : m ≤ n) : w.ownsRow B e s (.slice (some ⟨g, 0, none⟩) m c) m (xs.take (m * s)) := by
  have hms : m * s ≤ n * s := Nat.mul_le_mul_right s hm
  refine ⟨by rw [List.length_take, h.1]; omega, ?_⟩
  rcases h.2 with ⟨e1, _⟩ | ⟨g', c', cur, e1, hb, hg, hc, hcm, hcs, hct⟩
  · cases e1
  · cases e1
    exact .inr ⟨g, c, cur, rfl, hb, hg, by omega, hcm, hcs, by rw [← hct, List.take_take]; congr 1; omega⟩

def allPre (hs : List Hn) (b : ByteArray) (k : Nat) : Prop := ∀ i, i < k → preB b (hnat hs i).text = true
theorem allPre_snoc {hs : List Hn} {b : ByteArray} {k : Nat} (h : allPre hs b k) (hk : preB b (hnat hs k).text = true) : allPre hs b (k + 1) := fun i hi => by
  by_cases e : i = k
  · subst e; exact hk
  · exact h i (by omega)
theorem allPre_find {hs : List Hn} {b : ByteArray} : ∀ {k : Nat}, k ≤ hs.length → allPre hs b k → findH (hs.take k) b = hs.take k
  | 0, _, _ => by simp [findH]
  | k + 1, hk, h => by
    rw [findH_take hs b k (by omega), if_pos (h k (by omega)), allPre_find (by omega) (fun i hi => h i (by omega)), take_snoc _ _ (by omega)]
set_option maxRecDepth 100000 in
set_option maxHeartbeats 1000000 in
theorem indexFuncH_any (a : Option Addr) (cap : Nat) (hs : List Hn) (b : ByteArray) (B : Nat) (w : World) (hz : hs.length ≤ 1048576) (hB : Blk w B #[.string b] 9) (hr : HnRow w a hs) :
    Calls Tryd.prog 59 #[.slice a hs.length cap, .func (.func 40) #[] #[.pointer (some ⟨B, 0, none⟩)]] w fun e w' => ∃ r : Int, e = .returned (.int .i64 r) ∧ ((r = -1 ∧ allPre hs b hs.length) ∨ ∃ k : Nat, r = (k : Int) ∧ k < hs.length ∧ allPre hs b k ∧ preB b (hnat hs k).text = false) ∧ Below w.heap.size w w' := by
  have HR : Hid (HnRow w a hs) := hr
  clear hr
  go_enter Tryd.func59, Tryd.ntmps59
  go_wp2
  go_loopw [8] (fun i wr => ∃ k : Nat, k ≤ hs.length ∧ i = .int .i64 k ∧ allPre hs b k ∧ Blk wr B #[.string b] 9 ∧ Below w.heap.size w wr) (fun i _ => hs.length - (intOf i).toNat)
  case atStart => exact ⟨0, Nat.zero_le _, rfl, fun i hi => absurd hi (Nat.not_lt_zero _), hB, Below.refl _ _⟩
  case round =>
    obtain ⟨k, hk, rfl, ha, hBr, hbel⟩ := hrel
    have HA : Hid (allPre hs b k) := ha
    clear ha hB
    by_cases hlt : k < hs.length
    · have hks : (k : Int) < (hs.length : Int) := by omega
      obtain ⟨g, off, rfl, hg, hc⟩ := (HR.out.below hbel) (by omega)
      obtain ⟨c0, c1⟩ := hc k hlt
      have HS : Hid (preB b (hnat hs k).text = true → allPre hs b (k + 1)) := fun h => allPre_snoc HA.out h
      have HT : Hid (preB b (hnat hs k).text = false → ((((k : Int) = -1 ∧ allPre hs b hs.length) ∨ ∃ j : Nat, (k : Int) = (j : Int) ∧ j < hs.length ∧ allPre hs b j ∧ preB b (hnat hs j).text = false))) := fun h => .inr ⟨k, rfl, hlt, HA.out, h⟩
      generalize hnat hs k = h0 at *
      obtain ⟨t, x⟩ := h0
      simp only at c0 c1 HS HT
      clear hc
      cases hp : preB b t with
      | true =>
        go_wp2_with fail
        refine (struck_any t b x B wr hBr).mono ?_
        rintro e w2 ⟨rfl, hb2⟩
        have B2 := hBr.below hb2 hBr.lt
        have hw2 := hbel.trans (hb2.mono hbel.size)
        have HS2 : Hid (allPre hs b (k + 1)) := HS.out hp
        rw [hp]
        clear HS HT hBr hb2 hbel
        go_wp2
        go_roundw
        case rel => exact ⟨k + 1, by omega, by go_num, HS2.out, B2, hw2⟩
        case measure => simp [intOf]; omega
      | false =>
        go_wp2_with fail
        refine (struck_any t b x B wr hBr).mono ?_
        rintro e w2 ⟨rfl, hb2⟩
        have hw2 := hbel.trans (hb2.mono hbel.size)
        rw [hp]
        clear HS hBr hb2 hbel
        go_wp2
        go_ret
        exact ⟨_, rfl, HT.out hp, hw2⟩
    · have hkl : k = hs.length := by omega
      subst hkl
      go_wp2
      go_ret
      exact ⟨-1, rfl, .inl ⟨rfl, HA.out⟩, hbel⟩
theorem set2_take {xs : List Value} {i : Nat} (u v : Value) (h : i * 2 + 1 < xs.length) : ((xs.set (i * 2) u).set (i * 2 + 1) v).take ((i + 1) * 2) = xs.take (i * 2) ++ [u, v] := by
  rw [show (i + 1) * 2 = i * 2 + 1 + 1 by omega, List.take_succ_eq_append_getElem (by simp; omega), List.take_set_of_le (Nat.le_refl _), List.getElem_set_self, List.take_succ_eq_append_getElem (by simp; omega), List.take_set_of_le (Nat.le_refl _), List.getElem_set_self]
  simp
theorem set2_drop {xs : List Value} {i j : Nat} (u v : Value) (h : i * 2 + 1 < j) : ((xs.set (i * 2) u).set (i * 2 + 1) v).drop j = xs.drop j := by
  rw [List.drop_set_of_lt (by omega), List.drop_set_of_lt (by omega)]
set_option maxRecDepth 100000 in
set_option maxHeartbeats 2000000 in
theorem deleteFuncH_any (base g c : Nat) (hs : List Hn) (b : ByteArray) (B : Nat) (w : World) (hz : hs.length ≤ 1048576) (hB : Blk w B #[.string b] 9) (hBg : B ≠ g) (hown : w.ownsRow base 31 2 (.slice (some ⟨g, 0, none⟩) hs.length c) hs.length (hnCells hs)) :
    Calls Tryd.prog 39 #[.slice (some ⟨g, 0, none⟩) hs.length c, .func (.func 40) #[] #[.pointer (some ⟨B, 0, none⟩)]] w fun e w' => e = .returned (.slice (some ⟨g, 0, none⟩) (findH hs b).length c) ∧ w'.ownsRow base 31 2 (.slice (some ⟨g, 0, none⟩) (findH hs b).length c) (findH hs b).length (hnCells (findH hs b)) ∧ w.grownBy w' (some g) := by
  obtain ⟨n, hn⟩ : ∃ n, hs.length = n := ⟨_, rfl⟩
  have hrow : HnRow w (some ⟨g, 0, none⟩) hs := by
    obtain ⟨p, cc, e, _, _, _, hr⟩ := owns_hnRow hown (hnTo_cells hs)
    injection e with e1 _ _
    subst e1
    exact hr
  have hnc : hs.length ≤ c := by
    rcases hown.2 with ⟨e, _⟩ | ⟨g', c', cur, e, _, _, h, _⟩
    · cases e
    · cases e; exact h
  have HI := indexFuncH_any (some ⟨g, 0, none⟩) c hs b B w hz hB hrow
  have HL0 : Hid ((hnCells hs).length = n * 2) := by unfold Hid; rw [hnCells_len, hn]
  have HNC : Hid (∀ j, j < n → (hnCells hs)[j * 2]? = some (.string (hnat hs j).text) ∧ (hnCells hs)[j * 2 + 1]? = some (.int .i64 (hnat hs j).weight)) := fun j hj => hnTo_cells hs j (by omega)
  have HO : Hid (w.ownsRow base 31 2 (.slice (some ⟨g, 0, none⟩) n c) n (hnCells hs)) := by unfold Hid; rw [hn] at hown; exact hown
  rw [hn] at hnc hz HI
  rw [hn]
  have HN : Hid (hs.length = n) := hn
  clear hrow hown hn
  go_enter Tryd.func39, Tryd.ntmps39
  go_wp2_with fail
  refine HI.mono ?_
  rintro e w1 ⟨r, rfl, hr, hb1⟩
  have HO1 : Hid (w1.ownsRow base 31 2 (.slice (some ⟨g, 0, none⟩) n c) n (hnCells hs)) := HO.out.kept (grown_none hb1) (Classical.em _)
  have HG1 : Hid (w.grownBy w1 (some g)) := grown_of_below hb1
  have HB1 : Hid (Blk w1 B #[.string b] 9) := hB.below hb1 hB.lt
  clear HI hb1 HO hB
  rcases hr with ⟨rfl, hall⟩ | ⟨k, rfl, hk, hall, hp⟩
  · have hf : findH hs b = hs := by
      have := allPre_find (by rw [HN.out]; exact Nat.le_refl _) hall
      rwa [List.take_of_length_le (by rw [HN.out]; exact Nat.le_refl _)] at this
    have HF : Hid (findH hs b = hs) := hf
    clear hf hall
    go_wp2
    go_ret
    rw [HF.out, HN.out]
    exact ⟨rfl, HO1.out, HG1.out⟩
  · have hke : ((k : Int) == -1) = false := beq_eq_false_iff_ne.2 (by omega)
    have hkn : k < n := hk
    have hkh : k < hs.length := by rw [HN.out]; exact hk
    have hfk : findH (hs.take (k + 1)) b = hs.take k := by
      rw [findH_take hs b k hkh, allPre_find (Nat.le_of_lt hkh) hall, if_neg (by rw [hp]; simp), List.append_nil]
    have HFK : Hid (findH (hs.take (k + 1)) b = hs.take k) := hfk
    clear hfk hall hp hk hkh
    go_wp2
    go_loopw [5, 6] (fun vi vj wr => ∃ (i j : Nat) (xs : List Value), vi = .int .i64 i ∧ vj = .int .i64 j ∧ i < j ∧ j ≤ n ∧ (findH (hs.take j) b).length = i ∧ wr.ownsRow base 31 2 (.slice (some ⟨g, 0, none⟩) n c) n xs ∧ xs.take (i * 2) = hnCells (findH (hs.take j) b) ∧ xs.drop (j * 2) = (hnCells hs).drop (j * 2) ∧ Blk wr B #[.string b] 9 ∧ w.grownBy wr (some g)) (fun _ vj _ => n - (intOf vj).toNat)
    case atStart =>
      refine ⟨k, k + 1, hnCells hs, rfl, by go_num, by omega, by omega, ?_, HO1.out, ?_, rfl, HB1.out, HG1.out⟩
      · rw [HFK.out, List.length_take, HN.out]; omega
      · rw [HFK.out, hnCells_take]
    case round =>
      obtain ⟨i, j, xs, rfl, rfl, hij, hj, hfl, hor, hxt, hxd, hBr, hgr⟩ := hrel
      have HFL : Hid ((findH (hs.take j) b).length = i) := hfl
      have HXT : Hid (xs.take (i * 2) = hnCells (findH (hs.take j) b)) := hxt
      have HXD : Hid (xs.drop (j * 2) = (hnCells hs).drop (j * 2)) := hxd
      have HGR : Hid (w.grownBy wr (some g)) := hgr
      have hxl := hor.1
      have HXL : Hid (xs.length = n * 2) := hxl
      clear hfl hxt hxd hgr HO1 HG1 HB1 HFK
      by_cases hlt : j < n
      · have hji : (j : Int) < (n : Int) := by omega
        obtain ⟨q0, q1⟩ := HNC.out j hlt
        have c0 := hor.cellAt (j * 2) (by omega)
        have c1 := hor.cellAt (j * 2 + 1) (by omega)
        rw [show xs[j * 2]? = (xs.drop (j * 2))[0]? by rw [List.getElem?_drop, Nat.add_zero], HXD.out, List.getElem?_drop, Nat.add_zero, q0] at c0
        rw [show xs[j * 2 + 1]? = (xs.drop (j * 2))[1]? by rw [List.getElem?_drop], HXD.out, List.getElem?_drop, q1] at c1
        have HFT : Hid (findH (hs.take (j + 1)) b = findH (hs.take j) b ++ (if preB b (hnat hs j).text = true then [hnat hs j] else [])) := findH_take hs b j (by rw [HN.out]; exact hlt)
        have HD1 : Hid (xs.drop ((j + 1) * 2) = (hnCells hs).drop ((j + 1) * 2)) := by
          have h := congrArg (List.drop 2) HXD.out
          rw [List.drop_drop, List.drop_drop] at h
          unfold Hid
          rw [show (j + 1) * 2 = j * 2 + 2 by omega]
          exact h
        generalize hnat hs j = h0 at *
        obtain ⟨t, x⟩ := h0
        simp only at c0 c1 HFT
        have HOR : Hid (wr.ownsRow base 31 2 (.slice (some ⟨g, 0, none⟩) n c) n xs) := hor
        have hba : Below wr.heap.size wr (wr.alloc (.cells #[.string t, .int .i64 x] 31)) := (Below.refl _ wr).alloc (Nat.le_refl _) _
        have hBa := hBr.below hba hBr.lt
        have V0 := Blk.new wr #[.string t, .int .i64 x] 31
        have hgl : g < wr.heap.size := (hor.lt g rfl).2
        clear q0 q1 hor hBr hxl
        go_wp2_with fail
        obtain ⟨VA, hVA⟩ : ∃ VA, wr.alloc (.cells #[.string t, .int .i64 x] 31) = VA := ⟨_, rfl⟩
        rw [hVA] at hba hBa V0 ⊢
        clear hVA c0 c1
        refine (struck_any t b x B VA hBa).mono ?_
        rintro e w2 ⟨rfl, hb2⟩
        have hb02 := below_trans hba hb2
        have B2 := hBa.below hb2 hBa.lt
        have V2 := V0.below hb2 V0.lt
        have ho2 := HOR.out.kept (grown_none hb02) (Classical.em _)
        have HG2 : Hid (w.grownBy w2 (some g)) := grown_then HGR.out (grown_of_below hb02)
        clear hba hb2 hb02 hBa V0 HOR HGR
        cases hp : preB b t with
        | true =>
          have hxl := HXL.out
          have hi1 : i * 2 < xs.length := by omega
          have hi2 : i * 2 + 1 < xs.length := by omega
          obtain ⟨ho3, hg3⟩ := ho2.stored (i * 2) (.string t)
          obtain ⟨ho4, hg4⟩ := ho3.stored (i * 2 + 1) (.int .i64 x)
          have d0 := ho2.cellAt (i * 2) (by omega)
          have d1 := ho2.cellAt (i * 2 + 1) (by omega)
          rw [List.getElem?_eq_getElem hi1] at d0
          rw [List.getElem?_eq_getElem hi2] at d1
          have f0 := ho2.frozenAt (i * 2)
          have f1 := ho2.frozenAt (i * 2 + 1)
          have v0 := V2.cell 0
          have v1 := V2.cell 1
          simp at v0 v1
          generalize xs[i * 2]'hi1 = o0 at d0
          generalize xs[i * 2 + 1]'hi2 = o1 at d1
          have B4 := (B2.grown hg3 (by simpa [Value.ownBlock] using hBg)).grown hg4 (by simpa [Value.ownBlock] using hBg)
          have HG4 := grown_then (grown_then HG2.out hg3) hg4
          have HT4 : Hid (((xs.set (i * 2) (.string t)).set (i * 2 + 1) (.int .i64 x)).take ((i + 1) * 2) = hnCells (findH (hs.take (j + 1)) b)) := by
            unfold Hid
            rw [set2_take _ _ hi2, HXT.out, HFT.out, hp, if_pos rfl, hnCells_snoc]
          have HD4 : Hid (((xs.set (i * 2) (.string t)).set (i * 2 + 1) (.int .i64 x)).drop ((j + 1) * 2) = (hnCells hs).drop ((j + 1) * 2)) := by
            unfold Hid
            rw [set2_drop _ _ (by omega), HD1.out]
          have HF4 : Hid ((findH (hs.take (j + 1)) b).length = i + 1) := by
            unfold Hid
            rw [HFT.out, hp, if_pos rfl, List.length_append, HFL.out]
            rfl
          have HO4 : Hid (((w2.setCell ⟨g, i * 2, none⟩ (.string t)).setCell ⟨g, i * 2 + 1, none⟩ (.int .i64 x)).ownsRow base 31 2 (.slice (some ⟨g, 0, none⟩) n c) n ((xs.set (i * 2) (.string t)).set (i * 2 + 1) (.int .i64 x))) := ho4
          have HB4 : Hid (Blk ((w2.setCell ⟨g, i * 2, none⟩ (.string t)).setCell ⟨g, i * 2 + 1, none⟩ (.int .i64 x)) B #[.string b] 9) := B4
          have HGG : Hid (w.grownBy ((w2.setCell ⟨g, i * 2, none⟩ (.string t)).setCell ⟨g, i * 2 + 1, none⟩ (.int .i64 x)) (some g)) := HG4
          have hini : (i : Int) < (n : Int) := by omega
          clear ho2 ho3 ho4 hg3 hg4 B4 HG4 B2 V2 HG2 hxl hi1 hi2 HXT HXD HD1 HFT HFL HXL HNC HL0
          go_wp2
          go_roundw
          case rel => exact ⟨i + 1, j + 1, _, by go_num, by go_num, by omega, by omega, HF4.out, HO4.out, HT4.out, HD4.out, HB4.out, HGG.out⟩
          case measure => simp [intOf]; omega
        | false =>
          have HF4 : Hid (findH (hs.take (j + 1)) b = findH (hs.take j) b) := by unfold Hid; rw [HFT.out, hp, if_neg (by simp), List.append_nil]
          clear HFT
          go_wp2
          go_roundw
          case rel => exact ⟨i, j + 1, xs, rfl, by go_num, by omega, by omega, by rw [HF4.out]; exact HFL.out, ho2, by rw [HF4.out]; exact HXT.out, HD1.out, B2, HG2.out⟩
          case measure => simp [intOf]; omega
      · have hjn : j = n := by omega
        subst hjn
        have hjd : decide ((j : Int) < (j : Int)) = false := by simp
        have hxl := HXL.out
        have hzl := (hn_zero (j - i)).1
        have hcl : ∀ ty, (Builtin.clear_ #[23] ty #[.slice (some ⟨g, i * 2, none⟩) (j - i) (c - i)]).run Tryd.prog wr = .ok (.tuple #[]) (wr.setCells g (i * 2) (Builtin.zeroCells (Value.agg #[.string ⟨#[]⟩, .int .i64 0]).cells (j - i)).toList) := fun ty =>
          run_clear_any wr _ 31 ty (.agg #[.string ⟨#[]⟩, .int .i64 0]) Tryd.underlying23 Tryd.zeroValue31 g (i * 2) _ _ (by omega) (hn_zero (j - i)).2 (fun q hq => by rw [hor.cellAt (i * 2 + q) (by omega), List.getElem?_eq_getElem (by omega)]; rfl) (fun q hq => hor.frozenAt _)
        obtain ⟨hoC, hgC⟩ := own_setCells (Builtin.zeroCells (Value.agg #[.string ⟨#[]⟩, .int .i64 0]).cells (j - i)).toList (i * 2) wr _ hor (by rw [hzl]; omega)
        generalize (Builtin.zeroCells (Value.agg #[.string ⟨#[]⟩, .int .i64 0]).cells (j - i)).toList = ys at *
        have hoD := own_cut hoC (m := i) (by omega)
        rw [List.append_assoc, List.take_append_of_le_length (by rw [List.length_take]; omega), List.take_take, Nat.min_self, HXT.out] at hoD
        have hft : findH (hs.take j) b = findH hs b := by rw [List.take_of_length_le (by rw [HN.out]; exact Nat.le_refl _)]
        have HOD : Hid ((wr.setCells g (i * 2) ys).ownsRow base 31 2 (.slice (some ⟨g, 0, none⟩) (findH hs b).length c) (findH hs b).length (hnCells (findH hs b))) := by
          unfold Hid
          rw [← hft, HFL.out]
          exact hoD
        have HLL : Hid ((findH hs b).length = i) := by unfold Hid; rw [← hft]; exact HFL.out
        have HGG : Hid (w.grownBy (wr.setCells g (i * 2) ys) (some g)) := grown_then HGR.out hgC
        have hic : ¬ (c = i) := by omega
        have hini : (i : Int) ≤ (j : Int) := by omega
        have hicc : (i : Int) ≤ (c : Int) := by omega
        clear hoC hgC hoD hft hor hBr HXT HXD HFL HXL HNC HL0 HN hzl hxl HGR
        go_wp2
        go_ret
        refine ⟨by rw [HLL.out]; rfl, HOD.out, HGG.out⟩
end Go.Proofs.YtgmfaganaeibkaaDoor
