/- A set is read back from its gaps: plain mathematics. -/
import Derived.Test.YthaobhghbopgkaaDoorReadPlain
import Derived.Test.YthaobhghbopgkaaDoorGapsI
import Derived.Test.YthaobhghbopgkaaDoorFigsI
namespace Go.Proofs.YthaobhghbopgkaaDoor
open Go.RowKit
set_option linter.unusedVariables false

theorem byteAt_left (x y : ByteArray) (j : Nat) (h : j < x.size) : byteAt (x ++ y) j = byteAt x j := by
  have hl : j < x.data.toList.length := by simpa using h
  unfold byteAt
  rw [ByteArray.data_append, Array.toList_append, List.getD_eq_getElem?_getD, List.getElem?_append_left hl, ← List.getD_eq_getElem?_getD]
theorem byteAt_right (x y : ByteArray) (j : Nat) : byteAt (x ++ y) (x.size + j) = byteAt y j := by
  unfold byteAt
  have e : x.size = x.data.toList.length := Lib.size_eq x
  rw [ByteArray.data_append, Array.toList_append, List.getD_eq_getElem?_getD, List.getElem?_append_right (by omega), List.getD_eq_getElem?_getD, show x.size + j - x.data.toList.length = j from by omega]
theorem figN_congr (s t : ByteArray) : ∀ k, (∀ j, j < k → byteAt s j = byteAt t j) → figN s k = figN t k
  | 0, _ => rfl
  | k + 1, h => by rw [figN, figN, figN_congr s t k (fun j hj => h j (by omega)), h k (by omega)]
theorem dig_byte (k : Nat) (h : k < 10) : byteAt ⟨#[digD k]⟩ 0 = 48 + (k : Int) := by
  rw [← dig_toNat k h]
  rfl
structure DecOk (g : Nat) : Prop where
  pos : 1 ≤ (decS g).size
  figs : ∀ j, j < (decS g).size → 48 ≤ byteAt (decS g) j ∧ byteAt (decS g) j ≤ 57
  num : figN (decS g) (decS g).size = g
  lead : 10 ≤ g → byteAt (decS g) 0 ≠ 48
  one : g < 10 → (decS g).size = 1
  zero : 1 ≤ g → byteAt (decS g) 0 ≠ 48
theorem decOk (g : Nat) : DecOk g := by
  induction g using Nat.strongRecOn with
  | ind g ih =>
    by_cases h : g < 10
    · have e := decS_small g h
      have hb := dig_byte g h
      have hs : (⟨#[digD g]⟩ : ByteArray).size = 1 := rfl
      refine ⟨by rw [e]; exact Nat.le_refl 1, fun j hj => ?_, ?_, fun h10 => by omega, fun _ => by rw [e]; rfl, fun h1 => by rw [e, hb]; omega⟩
      · rw [e] at hj ⊢
        have : j = 0 := by omega
        subst this
        rw [hb]
        omega
      · rw [e, hs, figN, figN, hb]
        omega
    · have e := decS_big g h
      have hi := ih (g / 10) (by omega)
      have hd := dig_byte (g % 10) (by omega)
      have hs : (decS g).size = (decS (g / 10)).size + 1 := by rw [e, ByteArray.size_append]; rfl
      have hl : byteAt (decS g) 0 = byteAt (decS (g / 10)) 0 := by rw [e, byteAt_left _ _ _ hi.pos]
      refine ⟨by omega, fun j hj => ?_, ?_, fun _ => by rw [hl]; exact hi.zero (by omega), fun h' => absurd h' h, fun _ => by rw [hl]; exact hi.zero (by omega)⟩
      · rw [e]
        by_cases hj' : j < (decS (g / 10)).size
        · rw [byteAt_left _ _ _ hj']
          exact hi.figs j hj'
        · have : j = (decS (g / 10)).size + 0 := by omega
          rw [this, byteAt_right, hd]
          omega
      · rw [hs, figN]
        have h1 : figN (decS g) (decS (g / 10)).size = g / 10 := by
          rw [figN_congr (decS g) (decS (g / 10)) _ (fun j hj => by rw [e, byteAt_left _ _ _ hj])]
          exact hi.num
        have h2 : byteAt (decS g) (decS (g / 10)).size = 48 + ((g % 10 : Nat) : Int) := by
          rw [e]
          have := byteAt_right (decS (g / 10)) ⟨#[digD (g % 10)]⟩ 0
          rw [Nat.add_zero] at this
          rw [this, hd]
        rw [h1, h2]
        omega
theorem decS_len : ∀ (n g : Nat), g < 10 ^ (n + 1) → (decS g).size ≤ n + 1
  | 0, g, h => by rw [(decOk g).one (by omega)]; exact Nat.le_refl _
  | n + 1, g, h => by
    by_cases h10 : g < 10
    · rw [(decOk g).one h10]; omega
    · rw [decS_big g h10, ByteArray.size_append]
      have := decS_len n (g / 10) (by rw [Nat.pow_succ] at h; omega)
      have : (⟨#[digD (g % 10)]⟩ : ByteArray).size = 1 := rfl
      omega
theorem decS_fig (g : Nat) (h : g ≤ 999999999) : figB (decS g) = true ∧ numB (decS g) = g := by
  have hd := decOk g
  have hl := decS_len 8 g (by omega)
  refine ⟨?_, hd.num⟩
  simp only [figB, Bool.and_eq_true, decide_eq_true_eq, Bool.not_eq_true', Bool.and_eq_false_iff, decide_eq_false_iff_not]
  refine ⟨⟨⟨hd.pos, by omega⟩, ?_⟩, (allTo_iff _ _).2 fun j hj => (figureB_iff _).2 (hd.figs j hj)⟩
  by_cases h10 : g < 10
  · exact .inl (by rw [hd.one h10]; omega)
  · exact .inr (hd.lead (by omega))

theorem cuts_join (b : UInt8) : ∀ (ps : List ByteArray) (k : Nat) (s : ByteArray), 0 < ps.length → ps.length ≤ k + 1 → (∀ p ∈ ps, ∀ j, j < p.size → byteAt p j ≠ (b.toNat : Int)) → s.data.toList = Lib.join (ps.map (·.data.toList)) [b] → cuts b k s = ps
  | [], k, s, h, _, _, _ => by simp at h
  | [p], k, s, _, _, hn, hs => by
    have e : s = p := ba_ext (by rw [hs]; exact Lib.join_one _ _)
    subst e
    have h := cuts_miss s b k 0 (Nat.zero_le _) (fun j _ hj => hn s (by simp) j hj)
    rw [extract_all] at h
    exact h
  | p :: q :: r, 0, s, _, h, _, _ => by simp at h
  | p :: q :: r, k + 1, s, _, hk, hn, hs => by
    have hj : Lib.join ((p :: q :: r).map (·.data.toList)) [b] = p.data.toList ++ [b] ++ Lib.join ((q :: r).map (·.data.toList)) [b] := join_two _ _ _ _
    let J : ByteArray := ⟨(Lib.join ((q :: r).map (·.data.toList)) [b]).toArray⟩
    have hJ : J.data.toList = Lib.join ((q :: r).map (·.data.toList)) [b] := rfl
    have e : s = p ++ (⟨#[b]⟩ ++ J) := ba_ext (by rw [hs, hj, ByteArray.data_append, Array.toList_append, ByteArray.data_append, Array.toList_append, hJ]; simp)
    have hsz : s.size = p.size + (1 + J.size) := by rw [e, ByteArray.size_append, ByteArray.size_append]; rfl
    have hb0 : byteAt s p.size = (b.toNat : Int) := by
      have := byteAt_right p (⟨#[b]⟩ ++ J) 0
      rw [Nat.add_zero] at this
      rw [e, this, byteAt_left _ _ _ (by show 0 < 1; omega)]
      rfl
    have hit := cuts_hit s b k 0 p.size (Nat.zero_le _) (by omega) hb0 (fun j _ hj => by rw [e, byteAt_left _ _ _ hj]; exact hn p (by simp) j hj)
    rw [extract_all] at hit
    have e1 : s.extract 0 p.size = p := ba_ext (by
      rw [Lib.extract_data, hs, hj, List.drop_zero, Nat.sub_zero, Lib.size_eq p, List.append_assoc, List.take_left])
    have e2 : s.extract (p.size + 1) s.size = J := ba_ext (by
      rw [Lib.extract_to_end, hs, hj, hJ, List.append_assoc, Lib.size_eq, List.drop_append]
      simp)
    have ih := cuts_join b (q :: r) k J (by simp) (by simp at hk ⊢; omega) (fun p' hp' => hn p' (by simp at hp' ⊢; exact .inr hp')) hJ
    rw [hit, e1, e2, ih]

theorem pat_gapS (zs : List Int) (k i : Nat) (h : i < k) : pat (gapS zs k) i = decS (gapN zs i) := by
  rw [pat_get _ _ (by rw [gapS_len]; exact h)]
  simp [gapS]
theorem sumTo_gapS (zs : List Int) (hz : setB zs = true) : ∀ k, k < zs.length → ((sumTo (gapS zs zs.length) (k + 1) : Nat) : Int) = nth zs k
  | 0, h => by
    obtain ⟨g1, g2, _⟩ := gap_bd zs hz 0 h
    have := (decS_fig _ g2).2
    simp only [sumTo, pat_gapS _ _ _ h, this]
    simp [ahead] at g1
    omega
  | k + 1, h => by
    obtain ⟨g1, g2, _⟩ := gap_bd zs hz (k + 1) h
    have h1 := (decS_fig _ g2).2
    have ih := sumTo_gapS zs hz k (by omega)
    rw [sumTo, pat_gapS _ _ _ h, h1]
    rw [ahead_succ] at g1
    omega
theorem sums_gapS (zs : List Int) (hz : setB zs = true) : sums (gapS zs zs.length) zs.length = zs := by
  apply List.ext_getElem
  · rw [sums_len]
  · intro i h1 h2
    have := sums_nth (gapS zs zs.length) zs.length i h2
    rw [sumTo_gapS zs hz i h2] at this
    unfold nth at this
    rw [List.getD_eq_getElem?_getD, List.getD_eq_getElem?_getD, List.getElem?_eq_getElem h1, List.getElem?_eq_getElem h2] at this
    exact this
/-- A set is read back from its gaps. -/
theorem read_gaps (zs : List Int) (hz : setB zs = true) : readB (gapsB zs) = true ∧ readL (gapsB zs) = zs := by
  have hg : gapsB zs = gapsTo zs zs.length := by unfold gapsB; rw [hz]; rfl
  by_cases h0 : zs.length = 0
  · have : zs = [] := List.eq_nil_of_length_eq_zero h0
    subst this
    rw [hg]
    exact ⟨readB_zero rfl, readL_zero rfl⟩
  have hdata : (gapsTo zs zs.length).data.toList = Lib.join ((gapS zs zs.length).map (·.data.toList)) [32] := by
    rw [gapS_text]
    rfl
  have hno : ∀ p ∈ gapS zs zs.length, ∀ j, j < p.size → byteAt p j ≠ ((32 : UInt8).toNat : Int) := by
    intro p hp j hj
    simp only [gapS, List.mem_map, List.mem_range] at hp
    obtain ⟨i, _, rfl⟩ := hp
    have := (decOk (gapN zs i)).figs j hj
    have e : (((32 : UInt8).toNat : Nat) : Int) = 32 := rfl
    omega
  have hps : parts (gapsTo zs zs.length) = gapS zs zs.length := by
    unfold parts
    rw [← cuts_enough 32 (max (manyB 32 (gapsTo zs zs.length)) zs.length) _ (Nat.le_max_left _ _)]
    exact cuts_join 32 _ _ _ (by rw [gapS_len]; omega) (by rw [gapS_len]; omega) hno hdata
  have hne : (gapsTo zs zs.length).size ≠ 0 := by
    intro e
    have e2 := size_empty _ e
    rw [e2] at hps
    have : parts ⟨#[]⟩ = [⟨#[]⟩] := by
      have h := cuts_miss ⟨#[]⟩ 32 (manyB 32 ⟨#[]⟩) 0 (Nat.le_refl _) (fun j _ hj => by simp [ByteArray.size] at hj)
      exact h
    rw [this] at hps
    have h1 := congrArg (fun l => pat l 0) hps
    simp only [pat_gapS zs zs.length 0 (by omega)] at h1
    have h2 := (decOk (gapN zs 0)).pos
    rw [← h1] at h2
    simp [pat, ByteArray.size] at h2
  have hok : partsOk (parts (gapsTo zs zs.length)) = true := by
    rw [hps]
    unfold partsOk
    rw [gapS_len, sums_gapS zs hz, hz, Bool.and_true]
    exact (allTo_iff _ _).2 fun i hi => by rw [pat_gapS _ _ _ hi]; exact (decS_fig _ (gap_bd zs hz i hi).2.1).1
  have hy := readB_yes hne hok
  rw [hg]
  refine ⟨hy.1, ?_⟩
  rw [hy.2, hps, gapS_len, sums_gapS zs hz]
/-- What is read is written just so. -/
theorem gaps_read (s : ByteArray) (h : readB s = true) : gapsB (readL s) = s := by
  by_cases h0 : s.size = 0
  · rw [readL_zero h0, size_empty s h0]
    rfl
  · cases hp : partsOk (parts s) with
    | false => rw [(readB_no h0 hp).1] at h; cases h
    | true =>
      have h2 := hp
      simp only [partsOk, Bool.and_eq_true] at h2
      rw [(readB_yes h0 hp).2]
      unfold gapsB
      rw [h2.2, sums_len]
      exact gaps_back _ s h2.1
theorem readL_set (s : ByteArray) (h : readB s = true) (h0 : s.size ≠ 0) : setB (readL s) = true := by
  cases hp : partsOk (parts s) with
  | false => rw [(readB_no h0 hp).1] at h; cases h
  | true =>
    simp only [partsOk, Bool.and_eq_true] at hp
    rw [(readB_yes h0 (by simp [partsOk, hp.1, hp.2])).2]
    exact hp.2
end Go.Proofs.YthaobhghbopgkaaDoor
