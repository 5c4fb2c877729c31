/- hintsCopy; how texts are held against each other; BinarySearchFunc; l9Hint. -/
import Derived.Test.YtgmfaganaeibkaaDoorHintsOk
import Derived.Test.YtgmfaganaeibkaaDoorClone
import Derived.Deep.AppendLies
import Derived.Deep.RegionLaw
namespace Go.Proofs.YtgmfaganaeibkaaDoor
open Go.RowKit
set_option linter.unusedVariables false

/-- What lies in memory of hints. -/
def hnCells (cs : List Hn) : List Value := cs.flatMap fun c => [.string c.text, .int .i64 c.weight]
theorem hnCells_snoc (cs : List Hn) (c : Hn) : hnCells (cs ++ [c]) = hnCells cs ++ [.string c.text, .int .i64 c.weight] := by simp [hnCells]
theorem hnCells_cons (c : Hn) (cs : List Hn) : hnCells (c :: cs) = .string c.text :: .int .i64 c.weight :: hnCells cs := by simp [hnCells]
theorem hnCells_app (a b : List Hn) : hnCells (a ++ b) = hnCells a ++ hnCells b := by simp [hnCells]
theorem hnCells_len (cs : List Hn) : (hnCells cs).length = cs.length * 2 := by
  induction cs with
  | nil => rfl
  | cons c cs ih => rw [hnCells_cons]; simp [ih]; omega
theorem hnTo_cells : ∀ cs : List Hn, HnTo (hnCells cs) cs cs.length
  | [], i, hi => absurd hi (by simp)
  | c :: cs, 0, _ => ⟨rfl, rfl⟩
  | c :: cs, i + 1, hi => by
    have h := hnTo_cells cs i (by simpa using hi)
    have e1 : (i + 1) * 2 = i * 2 + 1 + 1 := by omega
    rw [hnCells_cons, e1]
    exact h
theorem hns_one (cs : List Hn) : ∀ u ∈ hnCells cs, u.oneCell' = true := by
  intro u hu
  simp only [hnCells, List.mem_flatMap] at hu
  obtain ⟨f, _, hu⟩ := hu
  simp at hu
  rcases hu with rfl | rfl <;> rfl
theorem hn_one (t : ByteArray) (x : Int) : ∀ u ∈ [Value.string t, Value.int .i64 x], u.oneCell' = true := by
  intro u hu
  simp at hu
  rcases hu with rfl | rfl <;> rfl
theorem hnRow_cells {w : World} {g off : Nat} {cs : List Hn} (h : HnRow w (some ⟨g, off, none⟩) cs) : ∀ j u, (hnCells cs)[j]? = some u → w.cell? ((⟨g, off, none⟩ : Addr).add j) = some u := by
  intro j u hj
  have hlen : j < cs.length * 2 := by rw [← hnCells_len]; exact (List.getElem?_eq_some_iff.1 hj).1
  obtain ⟨g', off', e, hg, hc⟩ := h (by omega)
  cases e
  rw [addr_add]
  have hi : j / 2 < cs.length := by omega
  obtain ⟨q0, q1⟩ := hc (j / 2) hi
  obtain ⟨p0, p1⟩ := hnTo_cells cs (j / 2) hi
  rcases (show j = j / 2 * 2 ∨ j = j / 2 * 2 + 1 from by omega) with e | e
  · rw [e, p0] at hj; rw [e, q0]; exact hj
  · rw [e, p1] at hj; rw [e, ← Nat.add_assoc, q1]; exact hj
theorem take_snoc (cs : List Hn) (k : Nat) (h : k < cs.length) : cs.take (k + 1) = cs.take k ++ [hnat cs k] := by
  rw [List.take_add_one, List.getElem?_eq_getElem h, hnat_get _ _ h]; rfl

set_option maxRecDepth 100000 in
set_option maxHeartbeats 2000000 in
theorem hintsCopy_any (a : Option Addr) (cap : Nat) (hs : List Hn) (w : World) (hz : hs.length ≤ 1048576) (hsm : HnsSmall hs) (hr : HnRow w a hs) :
    Calls Tryd.prog 29 #[.slice a hs.length cap] w fun e w' => ∃ v, e = .returned v ∧ w'.ownsRow w.heap.size 31 2 v hs.length (hnCells hs) ∧ Below w.heap.size w w' := by
  obtain ⟨i0, hi, hz0, hz1, hz2⟩ := info_parts infoHn
  have HR : Hid (HnRow w a hs) := hr
  have HSM : Hid (HnsSmall hs) := hsm
  clear hr hsm
  go_enter Tryd.func29, Tryd.ntmps29
  go_wp2
  go_loopw [3, 8] (fun v0 i wr => ∃ (k : Nat) (v : Value), v = v0 ∧ k ≤ hs.length ∧ i = .int .i64 k ∧ wr.ownsRow w.heap.size 31 2 v k (hnCells (hs.take k)) ∧ Below w.heap.size w wr) (fun _ i _ => hs.length - (intOf i).toNat)
  case atStart => exact ⟨0, _, rfl, Nat.zero_le _, rfl, World.ownsRow_nil _ _ _ _, Below.refl _ _⟩
  case round =>
    obtain ⟨k, v, rfl, hk, rfl, hown, hbel⟩ := hrel
    by_cases hlt : k < hs.length
    · have hks : (k : Int) < (hs.length : Int) := by omega
      obtain ⟨g, off, rfl, hg, hc⟩ := (HR.out.below hbel) (by omega)
      obtain ⟨c0, c1⟩ := hc k hlt
      have hsz := HSM.out k hlt
      have HTK : Hid (hnCells (hs.take (k + 1)) = hnCells (hs.take k) ++ [.string (hnat hs k).text, .int .i64 (hnat hs k).weight]) := by unfold Hid; rw [take_snoc _ _ hlt, hnCells_snoc]
      generalize hnat hs k = h0 at *
      obtain ⟨t, x⟩ := h0
      simp only at c0 c1 hsz HTK
      have hsb := hbel.size
      have HO : Hid (wr.ownsRow w.heap.size 31 2 v k (hnCells (hs.take k))) := hown
      have HBA : Hid (Below w.heap.size w (wr.alloc (.cells #[.string t, .int .i64 x] 31))) := hbel.alloc hsb _
      have B0 := Blk.new wr #[.string t, .int .i64 x] 31
      obtain ⟨VA, hVA⟩ : ∃ VA, wr.alloc (.cells #[.string t, .int .i64 x] 31) = VA := ⟨_, rfl⟩
      have HOA : Hid (VA.ownsRow w.heap.size 31 2 v k (hnCells (hs.take k))) := by unfold Hid; rw [← hVA]; exact HO.out.alloc _
      clear hc hown hg
      go_wp2_with fail
      rw [hVA] at B0 HBA
      have hbl := B0.lt
      have b0 := B0.cell 0
      have b1 := B0.cell 1
      simp at b0 b1
      clear hVA HO c0 c1
      generalize hnCells (hs.take k) = xs at *
      go_region_law (first
        | (go_simp; go_at_call 30; refine (clone_any t _ (by omega)).mono ?_; rintro e w3 ⟨rfl, hb3d⟩; have hb3 : Below VA.heap.size VA w3 := ⟨hb3d.os, hb3d.tape, hb3d.output, hb3d.size, hb3d.block⟩; have B3 := B0.below hb3 hbl; have y1 := B3.cell 1; simp at y1; have HO3 : Hid (w3.ownsRow w.heap.size 31 2 v k xs) := HOA.out.kept (grown_none hb3) (Classical.em _); have HB3 : Hid (Below w.heap.size w w3) := HBA.out.trans (hb3.mono HBA.out.size); have hs3 := HB3.out.size; clear hb3d hb3 B3)
        | (refine step_append_lies _ (by rfl) _ _ 23 (by rfl) w.heap.size 31 i0 (.agg #[.string ⟨#[]⟩, .int .i64 0]) 2 24 Tryd.underlying23 hi hz0 hz1 hz2 rfl (by decide) v k xs (by rfl) (HO3.out.alloc _) ⟨w3.heap.size, 0, none⟩ 1 1 [.string t, .int .i64 x] (by rfl) rfl (cells_new _ _ _) (hn_one _ _) (by omega) (by unfold maxLen; omega) (by omega) (by simp; omega) (w3.heap.size + 1) (by simp) ?_; intro g6 c6 w6 hown6 hgrow6 _ hlt6; have HB6 : Hid (Below w.heap.size w w6) := (HB3.out.alloc hs3 _).grown hgrow6 (HB3.out.alloc hs3 (.cells #[.string t, .int .i64 x] 31)).size (fun j hj => (HO3.out.lt j hj).1))
        | fail)
      all_goals
        have HO6 : Hid (w6.ownsRow w.heap.size 31 2 (.slice (some ⟨g6, 0, none⟩) (k + 1) c6) (k + 1) (hnCells (hs.take (k + 1)))) := by
          unfold Hid
          rw [HTK.out]
          exact hown6
        clear hown6 hgrow6 HO3 HB3 HOA HBA
        go_wp2
        go_roundw
        case rel => exact ⟨k + 1, _, rfl, by omega, by go_num, HO6.out, HB6.out⟩
        case measure => simp [intOf]; omega
    · have hkl : k = hs.length := by omega
      subst hkl
      rw [List.take_of_length_le (Nat.le_refl _)] at hown
      go_wp2
      go_ret
      exact ⟨_, rfl, hown, hbel⟩

theorem isNaNs_any (s : ByteArray) (w : World) : Calls Tryd.prog 67 #[.string s] w fun e w' => e = .returned (.bool false) ∧ w' = w := by
  go_enter Tryd.func67, Tryd.ntmps67
  go_wp2
  go_ret
  exact ⟨rfl, rfl⟩
/-- How two texts stand. -/
def cmpT (s t : ByteArray) : Int := if Op.bytesLess s.toList t.toList then -1 else if (s.toList == t.toList) then 0 else 1
theorem compare_any (s t : ByteArray) (w : World) : Calls Tryd.prog 53 #[.string s, .string t] w fun e w' => e = .returned (.int .i64 (cmpT s t)) ∧ w' = w := by
  cases h1 : Op.bytesLess s.toList t.toList
  all_goals cases h2 : (s.toList == t.toList)
  all_goals
    have HC : Hid (cmpT s t = if Op.bytesLess s.toList t.toList then -1 else if (s.toList == t.toList) then 0 else 1) := rfl
    rw [h1, h2] at HC
    go_enter Tryd.func53, Tryd.ntmps53
    go_wp2_with fail
    refine (isNaNs_any s _).mono ?_
    rintro e w1 ⟨rfl, rfl⟩
    go_wp2_with fail
    refine (isNaNs_any t _).mono ?_
    rintro e w1 ⟨rfl, rfl⟩
    go_wp2
    go_ret
    exact ⟨by rw [HC.out]; rfl, rfl⟩
theorem against_any (s t : ByteArray) (x y : Int) (w : World) : Calls Tryd.prog 33 #[.agg #[.string s, .int .i64 x], .agg #[.string t, .int .i64 y]] w fun e w' => e = .returned (.int .i64 (cmpT s t)) ∧ Below w.heap.size w w' := by
  go_enter Tryd.func33, Tryd.ntmps33
  go_wp2_with fail
  refine (compare_any s t _).mono ?_
  rintro e w1 ⟨rfl, rfl⟩
  go_wp2
  go_ret
  exact ⟨rfl, ((Below.refl _ w).alloc (Nat.le_refl _) _).alloc (by simp) _⟩
end Go.Proofs.YtgmfaganaeibkaaDoor
