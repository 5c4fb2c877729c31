/- FindPlain, FindDel, FindSort: in one text. -/
import Derived.Test.YtgmfaganaeibkaaDoorHintAddS
import Derived.Lib.SliceRun
import Derived.BigRegion
import Derived.Test.YtgmfaganaeibkaaDoorStillOne
/- What HintFind answers: those that begin so, by weight, the greatest first; as heavy ones in their order. -/
namespace Go.Proofs.YtgmfaganaeibkaaDoor
open Go.RowKit
set_option linter.unusedVariables false

def preB (b t : ByteArray) : Bool := decide (b.size ≤ t.size) && ((t.extract 0 b.size).toList == b.toList)
/-- How far from the left a hint of weight x comes into a row that is by weight, the k first looked at. -/
def posW (out : List Hn) (x : Int) : Nat → Nat
  | 0 => 0
  | k + 1 => if (hnat out k).weight < x then posW out x k else k + 1
theorem posW_le (out : List Hn) (x : Int) : ∀ k, posW out x k ≤ k
  | 0 => Nat.le_refl _
  | k + 1 => by
    unfold posW
    split
    · exact Nat.le_succ_of_le (posW_le out x k)
    · exact Nat.le_refl _
def insW (out : List Hn) (h : Hn) : List Hn := out.take (posW out h.weight out.length) ++ [h] ++ out.drop (posW out h.weight out.length)
theorem insW_len (out : List Hn) (h : Hn) : (insW out h).length = out.length + 1 := by
  unfold insW
  have := posW_le out h.weight out.length
  simp
  omega
def sortW (l : List Hn) : List Hn := l.foldl insW []
theorem sortW_snoc (l : List Hn) (h : Hn) : sortW (l ++ [h]) = insW (sortW l) h := by simp [sortW, List.foldl_append]
theorem sortW_len : ∀ l : List Hn, (sortW l).length = l.length := fun l => by
  have key : ∀ (l acc : List Hn), (l.foldl insW acc).length = acc.length + l.length := fun l => by
    induction l with
    | nil => intro acc; simp
    | cons a l ih => intro acc; rw [List.foldl_cons, ih, insW_len, List.length_cons]; omega
  have := key l []
  simpa [sortW] using this
def findH (hs : List Hn) (b : ByteArray) : List Hn := hs.filter fun h => preB b h.text
/-- What HintFind answers. -/
def FindR (hs : List Hn) (b : ByteArray) (m : Int) : List Hn := if hintsB hs = true ∧ 0 ≤ m then (sortW (findH hs b)).take m.toNat else []
theorem findH_len (hs : List Hn) (b : ByteArray) : (findH hs b).length ≤ hs.length := List.length_filter_le _ _
theorem findR_len (hs : List Hn) (b : ByteArray) (m : Int) : (FindR hs b m).length ≤ hs.length := by
  unfold FindR
  split
  · rw [List.length_take, sortW_len]
    have := findH_len hs b
    omega
  · exact Nat.zero_le _
theorem findH_snoc (l : List Hn) (h : Hn) (b : ByteArray) : findH (l ++ [h]) b = findH l b ++ (if preB b h.text = true then [h] else []) := by
  unfold findH
  rw [List.filter_append, List.filter_cons]
  rfl
theorem findH_take (hs : List Hn) (b : ByteArray) (k : Nat) (h : k < hs.length) : findH (hs.take (k + 1)) b = findH (hs.take k) b ++ (if preB b (hnat hs k).text = true then [hnat hs k] else []) := by
  rw [take_snoc _ _ h, findH_snoc]

set_option maxHeartbeats 400000 in
theorem hasPre_lite (s b : ByteArray) (w : World) : Calls Tryd.prog 60 #[.string s, .string b] w fun e w' => e = .returned (.bool (preB b s)) ∧ w' = w := by
  by_cases h : b.size ≤ s.size
  · have hi : (b.size : Int) ≤ (s.size : Int) := by omega
    have HP : Hid (preB b s = ((s.extract 0 b.size).toList == b.toList)) := by unfold Hid preB; rw [decide_eq_true h, Bool.true_and]
    go_enter Tryd.func60, Tryd.ntmps60
    go_wp2
    go_ret
    exact ⟨by rw [HP.out]; rfl, rfl⟩
  · have hi : decide ((b.size : Int) ≤ (s.size : Int)) = false := decide_eq_false (by omega)
    have HP : Hid (preB b s = false) := by unfold Hid preB; rw [decide_eq_false h, Bool.false_and]
    go_enter Tryd.func60, Tryd.ntmps60
    go_wp2
    go_ret
    exact ⟨by rw [HP.out]; rfl, rfl⟩
theorem hasPre_any (s b : ByteArray) (w : World) : Calls Tryd.prog 41 #[.string s, .string b] w fun e w' => e = .returned (.bool (preB b s)) ∧ w' = w := by
  go_enter Tryd.func41, Tryd.ntmps41
  go_wp2_with fail
  refine (hasPre_lite s b _).mono ?_
  rintro e w1 ⟨rfl, rfl⟩
  go_wp2
  go_ret
  exact ⟨rfl, rfl⟩
set_option maxHeartbeats 400000 in
theorem l4Begins_any (s b : ByteArray) (w : World) : Calls Tryd.prog 45 #[.string s, .string b] w fun e w' => e = .returned (.bool (preB b s)) ∧ w' = w := by
  by_cases h : b.size ≤ s.size
  · have hi : (b.size : Int) ≤ (s.size : Int) := by omega
    have HP : Hid (preB b s = ((s.extract 0 b.size).toList == b.toList)) := by unfold Hid preB; rw [decide_eq_true h, Bool.true_and]
    go_enter Tryd.func45, Tryd.ntmps45
    go_wp2
    go_ret
    exact ⟨by rw [HP.out]; rfl, rfl⟩
  · have hi : decide ((b.size : Int) ≤ (s.size : Int)) = false := decide_eq_false (by omega)
    have HP : Hid (preB b s = false) := by unfold Hid preB; rw [decide_eq_false h, Bool.false_and]
    go_enter Tryd.func45, Tryd.ntmps45
    go_wp2
    go_ret
    exact ⟨by rw [HP.out]; rfl, rfl⟩
theorem isNaNi_any (x : Int) (w : World) : Calls Tryd.prog 62 #[.int .i64 x] w fun e w' => e = .returned (.bool false) ∧ w' = w := by
  go_enter Tryd.func62, Tryd.ntmps62
  go_wp2
  go_ret
  exact ⟨rfl, rfl⟩
def cmpI (x y : Int) : Int := if x < y then -1 else if y < x then 1 else 0
theorem compareI_any (x y : Int) (w : World) : Calls Tryd.prog 44 #[.int .i64 x, .int .i64 y] w fun e w' => e = .returned (.int .i64 (cmpI x y)) ∧ w' = w := by
  by_cases h1 : x < y
  · have HC : Hid (cmpI x y = -1) := if_pos h1
    go_enter Tryd.func44, Tryd.ntmps44
    go_wp2_with fail
    refine (isNaNi_any x _).mono ?_
    rintro e w1 ⟨rfl, rfl⟩
    go_wp2_with fail
    refine (isNaNi_any y _).mono ?_
    rintro e w1 ⟨rfl, rfl⟩
    go_wp2
    go_ret
    exact ⟨by rw [HC.out]; rfl, rfl⟩
  · have h1d : decide (x < y) = false := decide_eq_false h1
    by_cases h2 : y < x
    · have HC : Hid (cmpI x y = 1) := (if_neg h1).trans (if_pos h2)
      go_enter Tryd.func44, Tryd.ntmps44
      go_wp2_with fail
      refine (isNaNi_any x _).mono ?_
      rintro e w1 ⟨rfl, rfl⟩
      go_wp2_with fail
      refine (isNaNi_any y _).mono ?_
      rintro e w1 ⟨rfl, rfl⟩
      go_wp2
      go_ret
      exact ⟨by rw [HC.out]; rfl, rfl⟩
    · have h2d : decide (y < x) = false := decide_eq_false h2
      have HC : Hid (cmpI x y = 0) := (if_neg h1).trans (if_neg h2)
      go_enter Tryd.func44, Tryd.ntmps44
      go_wp2_with fail
      refine (isNaNi_any x _).mono ?_
      rintro e w1 ⟨rfl, rfl⟩
      go_wp2_with fail
      refine (isNaNi_any y _).mono ?_
      rintro e w1 ⟨rfl, rfl⟩
      go_wp2
      go_ret
      exact ⟨by rw [HC.out]; rfl, rfl⟩
/-- The order by weight. -/
theorem byWeight_any (s t : ByteArray) (x y : Int) (w : World) : Calls Tryd.prog 43 #[.agg #[.string s, .int .i64 x], .agg #[.string t, .int .i64 y]] w fun e w' => e = .returned (.int .i64 (cmpI y x)) ∧ Below w.heap.size w w' := by
  go_enter Tryd.func43, Tryd.ntmps43
  go_wp2_with fail
  refine (compareI_any y x _).mono ?_
  rintro e w1 ⟨rfl, rfl⟩
  go_wp2
  go_ret
  exact ⟨rfl, ((Below.refl _ w).alloc (Nat.le_refl _) _).alloc (by simp) _⟩
/-- What is struck: what does not begin so. -/
theorem struck_any (s b : ByteArray) (x : Int) (B : Nat) (w : World) (hB : Blk w B #[.string b] 9) : Calls Tryd.prog 40 #[.agg #[.string s, .int .i64 x], .pointer (some ⟨B, 0, none⟩)] w fun e w' => e = .returned (.bool (!preB b s)) ∧ Below w.heap.size w w' := by
  have hlt := hB.lt
  have hb1 : Below w.heap.size w (w.alloc (.cells #[.string s, .int .i64 x] 31)) := (Below.refl _ w).alloc (Nat.le_refl _) _
  have b0 := (hB.below hb1 hlt).cell 0
  simp at b0
  go_enter Tryd.func40, Tryd.ntmps40
  go_wp2_with fail
  refine (hasPre_any s b _).mono ?_
  rintro e w1 ⟨rfl, rfl⟩
  go_wp2
  go_ret
  exact ⟨rfl, hb1⟩
end Go.Proofs.YtgmfaganaeibkaaDoor

/- slices.IndexFunc and slices.DeleteFunc over hints: what does not begin so is struck. -/
namespace Go.Proofs.YtgmfaganaeibkaaDoor
open Go.RowKit
set_option linter.unusedVariables false

/-- 'clear(s)' of a slice whose elements are of several cells. -/
theorem run_clear_any {P : Program} (w : World) (t e ty : TypeId) (z : Value) (ht : P.underlying t = some (.slice e)) (hv : ∀ w, (zeroValue e).run P w = .ok z w) (b o n c : Nat) (hn : 0 < n) (h1 : ∀ v ∈ (Builtin.zeroCells z.cells n).toList, v.oneCell' = true)
    (hc : ∀ j, j < (Builtin.zeroCells z.cells n).toList.length → (w.cell? ⟨b, o + j, none⟩).isSome = true) (hf : ∀ j, j < (Builtin.zeroCells z.cells n).toList.length → w.frozen? ⟨b, o + j, none⟩ = false) :
    (Builtin.clear_ #[t] ty #[.slice (some ⟨b, o, none⟩) n c]).run P w = .ok (.tuple #[]) (w.setCells b o (Builtin.zeroCells z.cells n).toList) := by
  have hst := run_storeCells_cells (P := P) b o (Builtin.zeroCells z.cells n).toList 0 w (by simpa using hc) (by simpa using hf) h1
  simp only [Nat.add_zero] at hst
  obtain ⟨m, rfl⟩ : ∃ m, n = m + 1 := ⟨n - 1, by omega⟩
  simp [Builtin.clear_, run_underlying ht, hv, hst]
theorem hn_zero (n : Nat) : (Builtin.zeroCells (Value.agg #[.string ⟨#[]⟩, .int .i64 0]).cells n).toList.length = n * 2 ∧ ∀ v ∈ (Builtin.zeroCells (Value.agg #[.string ⟨#[]⟩, .int .i64 0]).cells n).toList, v.oneCell' = true := by
  have h2 : (Value.agg #[.string ⟨#[]⟩, .int .i64 0]).cells = #[.string ⟨#[]⟩, .int .i64 0] := by simp [Value.cells]
  rw [h2]
  refine ⟨by simp [Builtin.zeroCells], fun v hv => ?_⟩
  simp only [Builtin.zeroCells, Array.toList_map, List.mem_map] at hv
  obtain ⟨i, _, rfl⟩ := hv
  rcases Nat.mod_two_eq_zero_or_one i with e | e
  · simp [e]; rfl
  · simp [e]; rfl
/-- A row's first part. -/
theorem own_cut {w : World} {B g n c m s : Nat} {e : TypeId} {xs : List Value} (h : w.ownsRow B e s (.slice (some ⟨g, 0, none⟩) n c) n xs) (hm : m ≤ n) : w.ownsRow B e s (.slice (some ⟨g, 0, none⟩) m c) m (xs.take (m * s)) := by
  have hms : m * s ≤ n * s := Nat.mul_le_mul_right s hm
  refine ⟨by rw [List.length_take, h.1]; omega, ?_⟩
  rcases h.2 with ⟨e1, _⟩ | ⟨g', c', cur, e1, hb, hg, hc, hcm, hcs, hct⟩
  · cases e1
  · cases e1
    exact .inr ⟨g, c, cur, rfl, hb, hg, by omega, hcm, hcs, by rw [← hct, List.take_take]; congr 1; omega⟩

def allPre (hs : List Hn) (b : ByteArray) (k : Nat) : Prop := ∀ i, i < k → preB b (hnat hs i).text = true
theorem allPre_snoc {hs : List Hn} {b : ByteArray} {k : Nat} (h : allPre hs b k) (hk : preB b (hnat hs k).text = true) : allPre hs b (k + 1) := fun i hi => by
  by_cases e : i = k
  · subst e; exact hk
  · exact h i (by omega)
theorem allPre_find {hs : List Hn} {b : ByteArray} : ∀ {k : Nat}, k ≤ hs.length → allPre hs b k → findH (hs.take k) b = hs.take k
  | 0, _, _ => by simp [findH]
  | k + 1, hk, h => by
    rw [findH_take hs b k (by omega), if_pos (h k (by omega)), allPre_find (by omega) (fun i hi => h i (by omega)), take_snoc _ _ (by omega)]
set_option maxRecDepth 100000 in
set_option maxHeartbeats 1000000 in
theorem indexFuncH_any (a : Option Addr) (cap : Nat) (hs : List Hn) (b : ByteArray) (B : Nat) (w : World) (hz : hs.length ≤ 1048576) (hB : Blk w B #[.string b] 9) (hr : HnRow w a hs) :
    Calls Tryd.prog 59 #[.slice a hs.length cap, .func (.func 40) #[] #[.pointer (some ⟨B, 0, none⟩)]] w fun e w' => ∃ r : Int, e = .returned (.int .i64 r) ∧ ((r = -1 ∧ allPre hs b hs.length) ∨ ∃ k : Nat, r = (k : Int) ∧ k < hs.length ∧ allPre hs b k ∧ preB b (hnat hs k).text = false) ∧ Below w.heap.size w w' := by
  have HR : Hid (HnRow w a hs) := hr
  clear hr
  go_enter Tryd.func59, Tryd.ntmps59
  go_wp2
  go_loopw [8] (fun i wr => ∃ k : Nat, k ≤ hs.length ∧ i = .int .i64 k ∧ allPre hs b k ∧ Blk wr B #[.string b] 9 ∧ Below w.heap.size w wr) (fun i _ => hs.length - (intOf i).toNat)
  case atStart => exact ⟨0, Nat.zero_le _, rfl, fun i hi => absurd hi (Nat.not_lt_zero _), hB, Below.refl _ _⟩
  case round =>
    obtain ⟨k, hk, rfl, ha, hBr, hbel⟩ := hrel
    have HA : Hid (allPre hs b k) := ha
    clear ha hB
    by_cases hlt : k < hs.length
    · have hks : (k : Int) < (hs.length : Int) := by omega
      obtain ⟨g, off, rfl, hg, hc⟩ := (HR.out.below hbel) (by omega)
      obtain ⟨c0, c1⟩ := hc k hlt
      have HS : Hid (preB b (hnat hs k).text = true → allPre hs b (k + 1)) := fun h => allPre_snoc HA.out h
      have HT : Hid (preB b (hnat hs k).text = false → ((((k : Int) = -1 ∧ allPre hs b hs.length) ∨ ∃ j : Nat, (k : Int) = (j : Int) ∧ j < hs.length ∧ allPre hs b j ∧ preB b (hnat hs j).text = false))) := fun h => .inr ⟨k, rfl, hlt, HA.out, h⟩
      generalize hnat hs k = h0 at *
      obtain ⟨t, x⟩ := h0
      simp only at c0 c1 HS HT
      clear hc
      cases hp : preB b t with
      | true =>
        go_wp2_with fail
        refine (struck_any t b x B wr hBr).mono ?_
        rintro e w2 ⟨rfl, hb2⟩
        have B2 := hBr.below hb2 hBr.lt
        have hw2 := hbel.trans (hb2.mono hbel.size)
        have HS2 : Hid (allPre hs b (k + 1)) := HS.out hp
        rw [hp]
        clear HS HT hBr hb2 hbel
        go_wp2
        go_roundw
        case rel => exact ⟨k + 1, by omega, by go_num, HS2.out, B2, hw2⟩
        case measure => simp [intOf]; omega
      | false =>
        go_wp2_with fail
        refine (struck_any t b x B wr hBr).mono ?_
        rintro e w2 ⟨rfl, hb2⟩
        have hw2 := hbel.trans (hb2.mono hbel.size)
        rw [hp]
        clear HS hBr hb2 hbel
        go_wp2
        go_ret
        exact ⟨_, rfl, HT.out hp, hw2⟩
    · have hkl : k = hs.length := by omega
      subst hkl
      go_wp2
      go_ret
      exact ⟨-1, rfl, .inl ⟨rfl, HA.out⟩, hbel⟩
theorem set2_take {xs : List Value} {i : Nat} (u v : Value) (h : i * 2 + 1 < xs.length) : ((xs.set (i * 2) u).set (i * 2 + 1) v).take ((i + 1) * 2) = xs.take (i * 2) ++ [u, v] := by
  rw [show (i + 1) * 2 = i * 2 + 1 + 1 by omega, List.take_succ_eq_append_getElem (by simp; omega), List.take_set_of_le (Nat.le_refl _), List.getElem_set_self, List.take_succ_eq_append_getElem (by simp; omega), List.take_set_of_le (Nat.le_refl _), List.getElem_set_self]
  simp
theorem set2_drop {xs : List Value} {i j : Nat} (u v : Value) (h : i * 2 + 1 < j) : ((xs.set (i * 2) u).set (i * 2 + 1) v).drop j = xs.drop j := by
  rw [List.drop_set_of_lt (by omega), List.drop_set_of_lt (by omega)]
set_option maxRecDepth 100000 in
set_option maxHeartbeats 2000000 in
theorem deleteFuncH_any (base g c : Nat) (hs : List Hn) (b : ByteArray) (B : Nat) (w : World) (hz : hs.length ≤ 1048576) (hB : Blk w B #[.string b] 9) (hBg : B ≠ g) (hown : w.ownsRow base 31 2 (.slice (some ⟨g, 0, none⟩) hs.length c) hs.length (hnCells hs)) :
    Calls Tryd.prog 39 #[.slice (some ⟨g, 0, none⟩) hs.length c, .func (.func 40) #[] #[.pointer (some ⟨B, 0, none⟩)]] w fun e w' => e = .returned (.slice (some ⟨g, 0, none⟩) (findH hs b).length c) ∧ w'.ownsRow base 31 2 (.slice (some ⟨g, 0, none⟩) (findH hs b).length c) (findH hs b).length (hnCells (findH hs b)) ∧ w.grownBy w' (some g) := by
  obtain ⟨n, hn⟩ : ∃ n, hs.length = n := ⟨_, rfl⟩
  have hrow : HnRow w (some ⟨g, 0, none⟩) hs := by
    obtain ⟨p, cc, e, _, _, _, hr⟩ := owns_hnRow hown (hnTo_cells hs)
    injection e with e1 _ _
    subst e1
    exact hr
  have hnc : hs.length ≤ c := by
    rcases hown.2 with ⟨e, _⟩ | ⟨g', c', cur, e, _, _, h, _⟩
    · cases e
    · cases e; exact h
  have HI := indexFuncH_any (some ⟨g, 0, none⟩) c hs b B w hz hB hrow
  have HL0 : Hid ((hnCells hs).length = n * 2) := by unfold Hid; rw [hnCells_len, hn]
  have HNC : Hid (∀ j, j < n → (hnCells hs)[j * 2]? = some (.string (hnat hs j).text) ∧ (hnCells hs)[j * 2 + 1]? = some (.int .i64 (hnat hs j).weight)) := fun j hj => hnTo_cells hs j (by omega)
  have HO : Hid (w.ownsRow base 31 2 (.slice (some ⟨g, 0, none⟩) n c) n (hnCells hs)) := by unfold Hid; rw [hn] at hown; exact hown
  rw [hn] at hnc hz HI
  rw [hn]
  have HN : Hid (hs.length = n) := hn
  clear hrow hown hn
  go_enter Tryd.func39, Tryd.ntmps39
  go_wp2_with fail
  refine HI.mono ?_
  rintro e w1 ⟨r, rfl, hr, hb1⟩
  have HO1 : Hid (w1.ownsRow base 31 2 (.slice (some ⟨g, 0, none⟩) n c) n (hnCells hs)) := HO.out.kept (grown_none hb1) (Classical.em _)
  have HG1 : Hid (w.grownBy w1 (some g)) := grown_of_below hb1
  have HB1 : Hid (Blk w1 B #[.string b] 9) := hB.below hb1 hB.lt
  clear HI hb1 HO hB
  rcases hr with ⟨rfl, hall⟩ | ⟨k, rfl, hk, hall, hp⟩
  · have hf : findH hs b = hs := by
      have := allPre_find (by rw [HN.out]; exact Nat.le_refl _) hall
      rwa [List.take_of_length_le (by rw [HN.out]; exact Nat.le_refl _)] at this
    have HF : Hid (findH hs b = hs) := hf
    clear hf hall
    go_wp2
    go_ret
    rw [HF.out, HN.out]
    exact ⟨rfl, HO1.out, HG1.out⟩
  · have hke : ((k : Int) == -1) = false := beq_eq_false_iff_ne.2 (by omega)
    have hkn : k < n := hk
    have hkh : k < hs.length := by rw [HN.out]; exact hk
    have hfk : findH (hs.take (k + 1)) b = hs.take k := by
      rw [findH_take hs b k hkh, allPre_find (Nat.le_of_lt hkh) hall, if_neg (by rw [hp]; simp), List.append_nil]
    have HFK : Hid (findH (hs.take (k + 1)) b = hs.take k) := hfk
    clear hfk hall hp hk hkh
    go_wp2
    go_loopw [5, 6] (fun vi vj wr => ∃ (i j : Nat) (xs : List Value), vi = .int .i64 i ∧ vj = .int .i64 j ∧ i < j ∧ j ≤ n ∧ (findH (hs.take j) b).length = i ∧ wr.ownsRow base 31 2 (.slice (some ⟨g, 0, none⟩) n c) n xs ∧ xs.take (i * 2) = hnCells (findH (hs.take j) b) ∧ xs.drop (j * 2) = (hnCells hs).drop (j * 2) ∧ Blk wr B #[.string b] 9 ∧ w.grownBy wr (some g)) (fun _ vj _ => n - (intOf vj).toNat)
    case atStart =>
      refine ⟨k, k + 1, hnCells hs, rfl, by go_num, by omega, by omega, ?_, HO1.out, ?_, rfl, HB1.out, HG1.out⟩
      · rw [HFK.out, List.length_take, HN.out]; omega
      · rw [HFK.out, hnCells_take]
    case round =>
      obtain ⟨i, j, xs, rfl, rfl, hij, hj, hfl, hor, hxt, hxd, hBr, hgr⟩ := hrel
      have HFL : Hid ((findH (hs.take j) b).length = i) := hfl
      have HXT : Hid (xs.take (i * 2) = hnCells (findH (hs.take j) b)) := hxt
      have HXD : Hid (xs.drop (j * 2) = (hnCells hs).drop (j * 2)) := hxd
      have HGR : Hid (w.grownBy wr (some g)) := hgr
      have hxl := hor.1
      have HXL : Hid (xs.length = n * 2) := hxl
      clear hfl hxt hxd hgr HO1 HG1 HB1 HFK
      by_cases hlt : j < n
      · have hji : (j : Int) < (n : Int) := by omega
        obtain ⟨q0, q1⟩ := HNC.out j hlt
        have c0 := hor.cellAt (j * 2) (by omega)
        have c1 := hor.cellAt (j * 2 + 1) (by omega)
        rw [show xs[j * 2]? = (xs.drop (j * 2))[0]? by rw [List.getElem?_drop, Nat.add_zero], HXD.out, List.getElem?_drop, Nat.add_zero, q0] at c0
        rw [show xs[j * 2 + 1]? = (xs.drop (j * 2))[1]? by rw [List.getElem?_drop], HXD.out, List.getElem?_drop, q1] at c1
        have HFT : Hid (findH (hs.take (j + 1)) b = findH (hs.take j) b ++ (if preB b (hnat hs j).text = true then [hnat hs j] else [])) := findH_take hs b j (by rw [HN.out]; exact hlt)
        have HD1 : Hid (xs.drop ((j + 1) * 2) = (hnCells hs).drop ((j + 1) * 2)) := by
          have h := congrArg (List.drop 2) HXD.out
          rw [List.drop_drop, List.drop_drop] at h
          unfold Hid
          rw [show (j + 1) * 2 = j * 2 + 2 by omega]
          exact h
        generalize hnat hs j = h0 at *
        obtain ⟨t, x⟩ := h0
        simp only at c0 c1 HFT
        have HOR : Hid (wr.ownsRow base 31 2 (.slice (some ⟨g, 0, none⟩) n c) n xs) := hor
        have hba : Below wr.heap.size wr (wr.alloc (.cells #[.string t, .int .i64 x] 31)) := (Below.refl _ wr).alloc (Nat.le_refl _) _
        have hBa := hBr.below hba hBr.lt
        have V0 := Blk.new wr #[.string t, .int .i64 x] 31
        have hgl : g < wr.heap.size := (hor.lt g rfl).2
        clear q0 q1 hor hBr hxl
        go_wp2_with fail
        obtain ⟨VA, hVA⟩ : ∃ VA, wr.alloc (.cells #[.string t, .int .i64 x] 31) = VA := ⟨_, rfl⟩
        rw [hVA] at hba hBa V0 ⊢
        clear hVA c0 c1
        refine (struck_any t b x B VA hBa).mono ?_
        rintro e w2 ⟨rfl, hb2⟩
        have hb02 := below_trans hba hb2
        have B2 := hBa.below hb2 hBa.lt
        have V2 := V0.below hb2 V0.lt
        have ho2 := HOR.out.kept (grown_none hb02) (Classical.em _)
        have HG2 : Hid (w.grownBy w2 (some g)) := grown_then HGR.out (grown_of_below hb02)
        clear hba hb2 hb02 hBa V0 HOR HGR
        cases hp : preB b t with
        | true =>
          have hxl := HXL.out
          have hi1 : i * 2 < xs.length := by omega
          have hi2 : i * 2 + 1 < xs.length := by omega
          obtain ⟨ho3, hg3⟩ := ho2.stored (i * 2) (.string t)
          obtain ⟨ho4, hg4⟩ := ho3.stored (i * 2 + 1) (.int .i64 x)
          have d0 := ho2.cellAt (i * 2) (by omega)
          have d1 := ho2.cellAt (i * 2 + 1) (by omega)
          rw [List.getElem?_eq_getElem hi1] at d0
          rw [List.getElem?_eq_getElem hi2] at d1
          have f0 := ho2.frozenAt (i * 2)
          have f1 := ho2.frozenAt (i * 2 + 1)
          have v0 := V2.cell 0
          have v1 := V2.cell 1
          simp at v0 v1
          generalize xs[i * 2]'hi1 = o0 at d0
          generalize xs[i * 2 + 1]'hi2 = o1 at d1
          have B4 := (B2.grown hg3 (by simpa [Value.ownBlock] using hBg)).grown hg4 (by simpa [Value.ownBlock] using hBg)
          have HG4 := grown_then (grown_then HG2.out hg3) hg4
          have HT4 : Hid (((xs.set (i * 2) (.string t)).set (i * 2 + 1) (.int .i64 x)).take ((i + 1) * 2) = hnCells (findH (hs.take (j + 1)) b)) := by
            unfold Hid
            rw [set2_take _ _ hi2, HXT.out, HFT.out, hp, if_pos rfl, hnCells_snoc]
          have HD4 : Hid (((xs.set (i * 2) (.string t)).set (i * 2 + 1) (.int .i64 x)).drop ((j + 1) * 2) = (hnCells hs).drop ((j + 1) * 2)) := by
            unfold Hid
            rw [set2_drop _ _ (by omega), HD1.out]
          have HF4 : Hid ((findH (hs.take (j + 1)) b).length = i + 1) := by
            unfold Hid
            rw [HFT.out, hp, if_pos rfl, List.length_append, HFL.out]
            rfl
          have HO4 : Hid (((w2.setCell ⟨g, i * 2, none⟩ (.string t)).setCell ⟨g, i * 2 + 1, none⟩ (.int .i64 x)).ownsRow base 31 2 (.slice (some ⟨g, 0, none⟩) n c) n ((xs.set (i * 2) (.string t)).set (i * 2 + 1) (.int .i64 x))) := ho4
          have HB4 : Hid (Blk ((w2.setCell ⟨g, i * 2, none⟩ (.string t)).setCell ⟨g, i * 2 + 1, none⟩ (.int .i64 x)) B #[.string b] 9) := B4
          have HGG : Hid (w.grownBy ((w2.setCell ⟨g, i * 2, none⟩ (.string t)).setCell ⟨g, i * 2 + 1, none⟩ (.int .i64 x)) (some g)) := HG4
          have hini : (i : Int) < (n : Int) := by omega
          clear ho2 ho3 ho4 hg3 hg4 B4 HG4 B2 V2 HG2 hxl hi1 hi2 HXT HXD HD1 HFT HFL HXL HNC HL0
          go_wp2
          go_roundw
          case rel => exact ⟨i + 1, j + 1, _, by go_num, by go_num, by omega, by omega, HF4.out, HO4.out, HT4.out, HD4.out, HB4.out, HGG.out⟩
          case measure => simp [intOf]; omega
        | false =>
          have HF4 : Hid (findH (hs.take (j + 1)) b = findH (hs.take j) b) := by unfold Hid; rw [HFT.out, hp, if_neg (by simp), List.append_nil]
          clear HFT
          go_wp2
          go_roundw
          case rel => exact ⟨i, j + 1, xs, rfl, by go_num, by omega, by omega, by rw [HF4.out]; exact HFL.out, ho2, by rw [HF4.out]; exact HXT.out, HD1.out, B2, HG2.out⟩
          case measure => simp [intOf]; omega
      · have hjn : j = n := by omega
        subst hjn
        have hjd : decide ((j : Int) < (j : Int)) = false := by simp
        have hxl := HXL.out
        have hzl := (hn_zero (j - i)).1
        have hcl : ∀ ty, (Builtin.clear_ #[23] ty #[.slice (some ⟨g, i * 2, none⟩) (j - i) (c - i)]).run Tryd.prog wr = .ok (.tuple #[]) (wr.setCells g (i * 2) (Builtin.zeroCells (Value.agg #[.string ⟨#[]⟩, .int .i64 0]).cells (j - i)).toList) := fun ty =>
          run_clear_any wr _ 31 ty (.agg #[.string ⟨#[]⟩, .int .i64 0]) Tryd.underlying23 Tryd.zeroValue31 g (i * 2) _ _ (by omega) (hn_zero (j - i)).2 (fun q hq => by rw [hor.cellAt (i * 2 + q) (by omega), List.getElem?_eq_getElem (by omega)]; rfl) (fun q hq => hor.frozenAt _)
        obtain ⟨hoC, hgC⟩ := own_setCells (Builtin.zeroCells (Value.agg #[.string ⟨#[]⟩, .int .i64 0]).cells (j - i)).toList (i * 2) wr _ hor (by rw [hzl]; omega)
        generalize (Builtin.zeroCells (Value.agg #[.string ⟨#[]⟩, .int .i64 0]).cells (j - i)).toList = ys at *
        have hoD := own_cut hoC (m := i) (by omega)
        rw [List.append_assoc, List.take_append_of_le_length (by rw [List.length_take]; omega), List.take_take, Nat.min_self, HXT.out] at hoD
        have hft : findH (hs.take j) b = findH hs b := by rw [List.take_of_length_le (by rw [HN.out]; exact Nat.le_refl _)]
        have HOD : Hid ((wr.setCells g (i * 2) ys).ownsRow base 31 2 (.slice (some ⟨g, 0, none⟩) (findH hs b).length c) (findH hs b).length (hnCells (findH hs b))) := by
          unfold Hid
          rw [← hft, HFL.out]
          exact hoD
        have HLL : Hid ((findH hs b).length = i) := by unfold Hid; rw [← hft]; exact HFL.out
        have HGG : Hid (w.grownBy (wr.setCells g (i * 2) ys) (some g)) := grown_then HGR.out hgC
        have hic : ¬ (c = i) := by omega
        have hini : (i : Int) ≤ (j : Int) := by omega
        have hicc : (i : Int) ≤ (c : Int) := by omega
        clear hoC hgC hoD hft hor hBr HXT HXD HFL HXL HNC HL0 HN hzl hxl HGR
        go_wp2
        go_ret
        refine ⟨by rw [HLL.out]; rfl, HOD.out, HGG.out⟩
end Go.Proofs.YtgmfaganaeibkaaDoor

/- slices.SortStableFunc over at most twenty hints: by weight, the greatest first. -/
namespace Go.Proofs.YtgmfaganaeibkaaDoor
open Go.RowKit
set_option linter.unusedVariables false

/-- A row into which a hint goes leftward: it stands at j. -/
def rowL (out : List Hn) (h : Hn) (rest : List Hn) (j : Nat) : List Hn := out.take j ++ [h] ++ out.drop j ++ rest
theorem rowL_len {out : List Hn} {h : Hn} {rest : List Hn} {j : Nat} : (rowL out h rest j).length = out.length + 1 + rest.length := by
  have e : (out.take j ++ out.drop j).length = out.length := by rw [List.take_append_drop]
  rw [List.length_append] at e
  unfold rowL
  simp only [List.length_append, List.length_singleton]
  omega
theorem rowL_at {out : List Hn} {h : Hn} {rest : List Hn} {j : Nat} (hj : j ≤ out.length) : hnat (rowL out h rest j) j = h := by
  unfold hnat rowL
  rw [List.getD_eq_getElem?_getD, List.append_assoc, List.append_assoc, List.getElem?_append_right (by rw [List.length_take]; omega), List.length_take, Nat.min_eq_left hj, Nat.sub_self]
  rfl
theorem rowL_ahead {out : List Hn} {h : Hn} {rest : List Hn} {j : Nat} (hj : j + 1 ≤ out.length) : hnat (rowL out h rest (j + 1)) j = hnat out j := by
  unfold hnat rowL
  rw [List.getD_eq_getElem?_getD, List.getD_eq_getElem?_getD, List.append_assoc, List.append_assoc, List.getElem?_append_left (by rw [List.length_take]; omega), List.getElem?_take, if_pos (by omega)]
theorem hnat_drop (l : List Hn) (j : Nat) (h : j < l.length) : l.drop j = hnat l j :: l.drop (j + 1) := by
  rw [List.drop_eq_getElem_cons h, hnat_get _ _ h]
theorem rowL_swap {out : List Hn} {h : Hn} {rest : List Hn} {j : Nat} (hj : j + 1 ≤ out.length) : ((rowL out h rest (j + 1)).set (j + 1) (hnat out j)).set j h = rowL out h rest j := by
  unfold rowL
  have e1 : (out.take (j + 1)).length = j + 1 := by rw [List.length_take]; omega
  have e2 : (out.take j).length = j := by rw [List.length_take]; omega
  have e3 : out.take (j + 1) = out.take j ++ [hnat out j] := take_snoc _ _ (by omega)
  rw [hnat_drop out j (by omega), List.append_assoc, List.append_assoc, List.set_append_right _ _ (by omega), e1, Nat.sub_self, List.singleton_append, List.set_cons_zero, e3, List.append_assoc, List.set_append_right _ _ (by omega), e2, Nat.sub_self]
  simp
theorem hnCells_set2 : ∀ (hs : List Hn) (k : Nat) (y : Hn), k < hs.length → hnCells (hs.set k y) = ((hnCells hs).set (k * 2) (.string y.text)).set (k * 2 + 1) (.int .i64 y.weight)
  | [], k, y, h => absurd h (by simp)
  | c :: cs, 0, y, _ => by
    rw [List.set_cons_zero, hnCells_cons, hnCells_cons]
    rfl
  | c :: cs, k + 1, y, h => by
    have ih := hnCells_set2 cs k y (by simpa using h)
    rw [List.set_cons_succ, hnCells_cons, ih, hnCells_cons, show (k + 1) * 2 = k * 2 + 1 + 1 by omega, show k * 2 + 1 + 1 + 1 = (k * 2 + 1) + 1 + 1 by omega]
    rfl
theorem rowL_cells {out : List Hn} {h : Hn} {rest : List Hn} {j : Nat} (hj : j + 1 ≤ out.length) :
    (((((hnCells (rowL out h rest (j + 1))).set ((j + 1) * 2) (.string (hnat out j).text)).set ((j + 1) * 2 + 1) (.int .i64 (hnat out j).weight)).set (j * 2) (.string h.text)).set (j * 2 + 1) (.int .i64 h.weight)) = hnCells (rowL out h rest j) := by
  rw [← rowL_swap hj, hnCells_set2 _ j h (by rw [List.length_set, rowL_len]; omega), hnCells_set2 _ (j + 1) _ (by rw [rowL_len]; omega)]
theorem rowL_end {out : List Hn} {h : Hn} {rest : List Hn} {k : Nat} (hk : posW out h.weight out.length = k) : rowL out h rest k = insW out h ++ rest := by
  unfold rowL insW
  rw [hk]
theorem rowL_start {l : List Hn} {i : Nat} (hi : i < l.length) : rowL (sortW (l.take i)) (hnat l i) (l.drop (i + 1)) i = sortW (l.take i) ++ l.drop i := by
  have e : (sortW (l.take i)).length = i := by rw [sortW_len, List.length_take]; omega
  unfold rowL
  rw [List.take_of_length_le (by omega), List.drop_of_length_le (by omega), hnat_drop l i hi]
  simp
theorem sortW_take {l : List Hn} {i : Nat} (hi : i < l.length) : sortW (l.take (i + 1)) = insW (sortW (l.take i)) (hnat l i) := by
  rw [take_snoc _ _ hi, sortW_snoc]
theorem sortW_one (l : List Hn) : sortW (l.take 1) ++ l.drop 1 = l := by
  cases l with
  | nil => rfl
  | cons a l =>
    have e : sortW [a] = [a] := by simp [sortW, insW, posW]
    simp [e]
theorem cmpI_less (x y : Int) : decide (cmpI x y < 0) = decide (x < y) := by
  unfold cmpI
  split
  · rename_i h; simp [h]
  · rename_i h
    split
    · simp [h]
    · simp [h]

theorem own_drewN {w : World} {B s n : Nat} {e : TypeId} {v : Value} {xs : List Value} (h : w.ownsRow B e s v n xs) (k : Nat) : (w.drewN k).ownsRow B e s v n xs := h.kept (grown_none (below_drewN (Below.refl _ _) k)) (Classical.em _)
theorem grown_drewN {w w' : World} {r : Option Nat} (h : w.grownBy w' r) (k : Nat) : w.grownBy (w'.drewN k) r := grown_then h (grown_of_below (below_drewN (Below.refl _ _) k))
set_option maxRecDepth 100000 in
set_option maxHeartbeats 4000000 in
theorem insertionH_any (base g c : Nat) (l : List Hn) (w : World) (hz : l.length ≤ 1048576) (hown : w.ownsRow base 31 2 (.slice (some ⟨g, 0, none⟩) l.length c) l.length (hnCells l)) :
    Calls Tryd.prog 71 #[.slice (some ⟨g, 0, none⟩) l.length c, .int .i64 0, .int .i64 l.length, .func (.func 43) #[] #[]] w fun e w' => e = .returned (.tuple #[]) ∧ w'.ownsRow base 31 2 (.slice (some ⟨g, 0, none⟩) l.length c) l.length (hnCells (sortW l)) ∧ w.grownBy w' (some g) := by
  obtain ⟨n, hn⟩ : ∃ n, l.length = n := ⟨_, rfl⟩
  have HN : Hid (l.length = n) := hn
  have HO : Hid (w.ownsRow base 31 2 (.slice (some ⟨g, 0, none⟩) n c) n (hnCells (sortW (l.take 1) ++ l.drop 1))) := by unfold Hid; rw [sortW_one, ← hn]; exact hown
  rw [hn] at hz
  rw [hn]
  clear hown hn
  go_enter Tryd.func71, Tryd.ntmps71
  go_wp2
  go_loopw [8] (fun vi wr => ∃ i : Nat, vi = .int .i64 i ∧ 1 ≤ i ∧ i ≤ n + 1 ∧ wr.ownsRow base 31 2 (.slice (some ⟨g, 0, none⟩) n c) n (hnCells (sortW (l.take i) ++ l.drop i)) ∧ w.grownBy wr (some g)) (fun vi _ => n + 1 - (intOf vi).toNat)
  case atStart => exact ⟨1, rfl, Nat.le_refl _, by omega, HO.out, World.grownBy.refl _ _⟩
  case round =>
    obtain ⟨i, rfl, hi1, hin, hor, hgr⟩ := hrel
    clear HO
    by_cases hlt : i < n
    · have hii : (i : Int) < (n : Int) := by omega
      have hll : i < l.length := by rw [HN.out]; exact hlt
      have HST : Hid (rowL (sortW (l.take i)) (hnat l i) (l.drop (i + 1)) i = sortW (l.take i) ++ l.drop i) := rowL_start hll
      have HTK : Hid (sortW (l.take (i + 1)) = insW (sortW (l.take i)) (hnat l i)) := sortW_take hll
      have HOL : Hid ((sortW (l.take i)).length = i) := by unfold Hid; rw [sortW_len, List.length_take]; omega
      have HRL : Hid ((l.drop (i + 1)).length = n - (i + 1)) := by unfold Hid; rw [List.length_drop, HN.out]
      generalize sortW (l.take i) = out at *
      generalize hnat l i = h at *
      have HR0 : Hid (wr.ownsRow base 31 2 (.slice (some ⟨g, 0, none⟩) n c) n (hnCells (rowL out h (l.drop (i + 1)) i))) := by unfold Hid; rw [HST.out]; exact hor
      have HGR : Hid (w.grownBy wr (some g)) := hgr
      obtain ⟨S, hS⟩ : ∃ S, S = sortW (l.take (i + 1)) ++ l.drop (i + 1) := ⟨_, rfl⟩
      have HSS : Hid (S = sortW (l.take (i + 1)) ++ l.drop (i + 1)) := hS
      have HTI : Hid (∀ k, posW out h.weight i = k → hnCells (rowL out h (l.drop (i + 1)) k) = hnCells S) := fun k hk => by
        rw [rowL_end (by rw [HOL.out]; exact hk), hS, HTK.out]
      clear hS
      obtain ⟨rest, hrest⟩ : ∃ rest, l.drop (i + 1) = rest := ⟨_, rfl⟩
      rw [hrest] at HTI HRL HR0
      clear hrest
      clear hor hgr HST HTK hll
      obtain ⟨ht, hx⟩ := h
      go_wp2
      go_loopw [9] (fun vj w2 => ∃ j : Nat, vj = .int .i64 j ∧ j ≤ i ∧ w2.ownsRow base 31 2 (.slice (some ⟨g, 0, none⟩) n c) n (hnCells (rowL out ⟨ht, hx⟩ rest j)) ∧ posW out hx i = posW out hx j ∧ w.grownBy w2 (some g)) (fun vj _ => (intOf vj).toNat)
      case atStart => exact ⟨i, rfl, Nat.le_refl _, HR0.out, rfl, HGR.out⟩
      case round =>
        rename World => w2
        obtain ⟨j, rfl, hji, hor2, hpos, hgr2⟩ := hrel
        have HP : Hid (posW out hx i = posW out hx j) := hpos
        have HG2 : Hid (w.grownBy w2 (some g)) := hgr2
        have HO2 : Hid (w2.ownsRow base 31 2 (.slice (some ⟨g, 0, none⟩) n c) n (hnCells (rowL out ⟨ht, hx⟩ rest j))) := hor2
        clear HR0 HGR hpos hgr2
        cases j with
        | zero =>
          have HE : Hid (w2.ownsRow base 31 2 (.slice (some ⟨g, 0, none⟩) n c) n (hnCells (S))) := by
            unfold Hid
            rw [← HTI.out 0 HP.out]
            exact HO2.out
          clear hor2 HTI HP HO2
          go_wp2
          go_quiet (fail)
          go_wp2
          go_roundw
          case rel => exact ⟨i + 1, by go_num, by omega, by omega, by rw [← HSS.out]; exact own_drewN HE.out nq, grown_drewN HG2.out nq⟩
          case measure => simp [intOf]; omega
        | succ jp =>
          have hjo : jp + 1 ≤ out.length := by rw [HOL.out]; exact hji
          have HQ : Hid (posW out hx (jp + 1) = if (hnat out jp).weight < hx then posW out hx jp else jp + 1) := rfl
          have HSW : Hid (((((hnCells (rowL out ⟨ht, hx⟩ rest (jp + 1))).set ((jp + 1) * 2) (.string (hnat out jp).text)).set ((jp + 1) * 2 + 1) (.int .i64 (hnat out jp).weight)).set (jp * 2) (.string ht)).set (jp * 2 + 1) (.int .i64 hx) = hnCells (rowL out ⟨ht, hx⟩ rest jp)) := rowL_cells hjo
          have hLL : (rowL out ⟨ht, hx⟩ rest (jp + 1)).length = n := by rw [rowL_len, HOL.out, HRL.out]; omega
          have hCL : (hnCells (rowL out ⟨ht, hx⟩ rest (jp + 1))).length = n * 2 := by rw [hnCells_len, hLL]
          obtain ⟨a0, a1⟩ := hnTo_cells (rowL out ⟨ht, hx⟩ rest (jp + 1)) (jp + 1) (by omega)
          obtain ⟨b0, b1⟩ := hnTo_cells (rowL out ⟨ht, hx⟩ rest (jp + 1)) jp (by omega)
          rw [rowL_at hjo] at a0 a1
          rw [rowL_ahead hjo] at b0 b1
          rw [← hor2.cellAt ((jp + 1) * 2) (by omega)] at a0
          rw [← hor2.cellAt ((jp + 1) * 2 + 1) (by omega)] at a1
          rw [← hor2.cellAt (jp * 2) (by omega)] at b0
          rw [← hor2.cellAt (jp * 2 + 1) (by omega)] at b1
          obtain ⟨o, ho⟩ : ∃ o, hnat out jp = o := ⟨_, rfl⟩
          rw [ho] at b0 b1 HSW HQ
          have HOE : Hid (hnat out jp = o) := ho
          clear ho
          obtain ⟨pt, px⟩ := o
          simp only at a0 a1 b0 b1 HSW HQ
          have hwp : IntKind.i64.wrap (jp : Int) = (jp : Int) := by rw [IntKind.wrap_i64]; omega
          have jz : (jp : Int) + 1 < (n : Int) := by omega
          have jz1 : (jp : Int) < (n : Int) := by omega
          have p0 : (0 : Int) ≤ (jp : Int) + 1 := by omega
          have p1 : (0 : Int) < (jp : Int) + 1 := by omega
          have e0 : ((jp : Int) + 1).toNat = jp + 1 := by omega
          clear hLL hCL hor2
          go_wp2_with fail
          refine wp_region_still_one 14 (by kernel_rfl) (by kernel_rfl) rfl ?_
          simp only [List.take_succ_cons, List.take_zero]
          still_step
          still_step
          still_step
          still_step
          still_step
          still_step
          still_step
          still_step
          still_step
          still_step
          still_step
          still_step
          still_step
          still_step
          refine wpStill_nil ?_
          unfold OneK
          go_simp
          go_at_call 43
          refine (byWeight_any ht pt hx px _).mono ?_
          rintro e w3 ⟨rfl, hb3d⟩
          have hb3 : Below w2.heap.size w2 w3 := ⟨hb3d.os, hb3d.tape, hb3d.output, hb3d.size, hb3d.block⟩
          have ho3 := HO2.out.kept (grown_none hb3) (Classical.em _)
          have hg3 := grown_then HG2.out (grown_of_below (r := some g) hb3)
          have HCM : Hid (decide (cmpI px hx < 0) = decide (px < hx)) := cmpI_less px hx
          clear HG2 HO2 hb3d hb3 a0 a1 b0 b1
          unfold RestK
          simp only [List.drop_succ_cons, List.drop_zero]
          by_cases hpx : px < hx
          · have hcm : decide (cmpI px hx < 0) = true := by rw [HCM.out]; exact decide_eq_true hpx
            have hcl : cmpI px hx < 0 := of_decide_eq_true hcm
            have HPP : Hid (posW out hx i = posW out hx jp) := by unfold Hid; rw [HP.out, HQ.out, if_pos hpx]
            clear HCM HP HQ
            generalize cmpI px hx = cc at *
            repeat (go_big_quiet_step (fail))
            refine wpQuiet_nil ?_
            intro _ hw'
            obtain ⟨nq, hw''⟩ := hw'
            subst hw''
            have ho4 := own_drewN ho3 nq
            have hg4 := grown_drewN hg3 nq
            generalize w3.drewN nq = wq at *
            have hLL : (rowL out ⟨ht, hx⟩ rest (jp + 1)).length = n := by rw [rowL_len, HOL.out, HRL.out]; omega
            have hCL : (hnCells (rowL out ⟨ht, hx⟩ rest (jp + 1))).length = n * 2 := by rw [hnCells_len, hLL]
            obtain ⟨a0, a1⟩ := hnTo_cells (rowL out ⟨ht, hx⟩ rest (jp + 1)) (jp + 1) (by omega)
            obtain ⟨b0, b1⟩ := hnTo_cells (rowL out ⟨ht, hx⟩ rest (jp + 1)) jp (by omega)
            rw [rowL_at hjo, ← ho4.cellAt ((jp + 1) * 2) (by omega)] at a0
            rw [rowL_at hjo, ← ho4.cellAt ((jp + 1) * 2 + 1) (by omega)] at a1
            rw [rowL_ahead hjo, HOE.out, ← ho4.cellAt (jp * 2) (by omega)] at b0
            rw [rowL_ahead hjo, HOE.out, ← ho4.cellAt (jp * 2 + 1) (by omega)] at b1
            have f0 := ho4.frozenAt ((jp + 1) * 2)
            have f1 := ho4.frozenAt ((jp + 1) * 2 + 1)
            have f2 := ho4.frozenAt (jp * 2)
            have f3 := ho4.frozenAt (jp * 2 + 1)
            obtain ⟨ho5, hg5⟩ := ho4.stored ((jp + 1) * 2) (.string pt)
            obtain ⟨ho6, hg6⟩ := ho5.stored ((jp + 1) * 2 + 1) (.int .i64 px)
            obtain ⟨ho7, hg7⟩ := ho6.stored (jp * 2) (.string ht)
            obtain ⟨ho8, hg8⟩ := ho7.stored (jp * 2 + 1) (.int .i64 hx)
            rw [HSW.out] at ho8
            simp only at a0 a1 b0 b1
            clear hLL hCL ho3 ho5 ho6 ho7 hg3
            go_wp2_with fail
            go_big_region
            all_goals
              go_wp2
              go_roundw
              case rel => exact ⟨jp, rfl, by omega, own_drewN ho8 1, HPP.out, grown_drewN (grown_then (grown_then (grown_then (grown_then hg4 hg5) hg6) hg7) hg8) 1⟩
              case measure => simp [intOf]
          · have hcm : decide (cmpI px hx < 0) = false := by rw [HCM.out]; exact decide_eq_false hpx
            have HPP : Hid (posW out hx i = jp + 1) := by unfold Hid; rw [HP.out, HQ.out, if_neg hpx]
            have HE : Hid ((w3).ownsRow base 31 2 (.slice (some ⟨g, 0, none⟩) n c) n (hnCells (S))) := by
              unfold Hid
              rw [← HTI.out (jp + 1) HPP.out]
              exact ho3
            clear HCM HP HQ HTI HSW ho3
            generalize cmpI px hx = cc at *
            repeat (go_big_quiet_step (fail))
            refine wpQuiet_nil ?_
            intro _ hw'
            obtain ⟨nq, hw''⟩ := hw'
            subst hw''
            go_wp2
            go_roundw
            case rel => exact ⟨i + 1, by go_num, by omega, by omega, by rw [← HSS.out]; exact own_drewN HE.out nq, grown_drewN hg3 nq⟩
            case measure => simp [intOf]; omega
    · have hni : n ≤ i := by omega
      have HF : Hid (sortW (l.take i) ++ l.drop i = sortW l) := by
        unfold Hid
        rw [List.take_of_length_le (by rw [HN.out]; exact hni), List.drop_of_length_le (by rw [HN.out]; exact hni), List.append_nil]
      have HE : Hid (wr.ownsRow base 31 2 (.slice (some ⟨g, 0, none⟩) n c) n (hnCells (sortW l))) := by
        unfold Hid
        rw [← HF.out]
        exact hor
      clear hor HF
      go_wp2
      go_end0
      exact ⟨rfl, HE.out, hgr⟩
set_option maxRecDepth 100000 in
set_option maxHeartbeats 2000000 in
theorem stableH_any (base g c : Nat) (l : List Hn) (w : World) (hz : l.length ≤ 19) (hown : w.ownsRow base 31 2 (.slice (some ⟨g, 0, none⟩) l.length c) l.length (hnCells l)) :
    Calls Tryd.prog 42 #[.slice (some ⟨g, 0, none⟩) l.length c, .func (.func 43) #[] #[]] w fun e w' => e = .returned (.tuple #[]) ∧ w'.ownsRow base 31 2 (.slice (some ⟨g, 0, none⟩) l.length c) l.length (hnCells (sortW l)) ∧ w.grownBy w' (some g) := by
  have HI := insertionH_any base g c l w (by omega) hown
  have hs : Calls Tryd.prog 61 #[.slice (some ⟨g, 0, none⟩) l.length c, .int .i64 l.length, .func (.func 43) #[] #[]] w fun e w' => e = .returned (.tuple #[]) ∧ w'.ownsRow base 31 2 (.slice (some ⟨g, 0, none⟩) l.length c) l.length (hnCells (sortW l)) ∧ w.grownBy w' (some g) := by
    have h20 : decide ((20 : Int) ≤ (l.length : Int)) = false := decide_eq_false (by omega)
    have h20b : decide ((20 : Int) < (l.length : Int)) = false := decide_eq_false (by omega)
    clear hown
    go_enter Tryd.func61, Tryd.ntmps61
    go_wp2
    refine wp_loop_rounds 1 ?_
    rw [rounds_succ]
    go_wp2_with fail
    refine HI.mono ?_
    rintro e w1 ⟨rfl, ho1, hg1⟩
    go_wp2
    refine wp_loop_rounds 1 ?_
    rw [rounds_succ]
    go_wp2
    go_end0
    exact ⟨rfl, ho1, hg1⟩
  clear HI hown
  go_enter Tryd.func42, Tryd.ntmps42
  go_wp2_with fail
  refine hs.mono ?_
  rintro e w1 ⟨rfl, ho1, hg1⟩
  go_wp2
  go_end0
  exact ⟨rfl, ho1, hg1⟩
end Go.Proofs.YtgmfaganaeibkaaDoor
