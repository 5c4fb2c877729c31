/- impl.HintFind. -/
import Derived.Test.YtgmfaganaeibkaaDoorFindAll
namespace Go.Proofs.YtgmfaganaeibkaaDoor
open Go.RowKit
set_option linter.unusedVariables false

theorem deleteFuncH_nil (b : ByteArray) (B : Nat) (w : World) (hB : Blk w B #[.string b] 9) :
    Calls Tryd.prog 39 #[.slice none 0 0, .func (.func 40) #[] #[.pointer (some ⟨B, 0, none⟩)]] w fun e w' => e = .returned (.slice none 0 0) ∧ Below w.heap.size w w' := by
  have HI := indexFuncH_any none 0 [] b B w (by simp) hB (fun h => absurd h (by simp))
  simp only [List.length_nil] at HI
  go_enter Tryd.func39, Tryd.ntmps39
  go_wp2_with fail
  refine HI.mono ?_
  rintro e w1 ⟨r, rfl, hr, hb1⟩
  rcases hr with ⟨rfl, _⟩ | ⟨k, _, hk, _⟩
  · go_wp2
    go_ret
    exact ⟨rfl, hb1⟩
  · exact absurd hk (by simp)
theorem stableH_nil (w : World) :
    Calls Tryd.prog 42 #[.slice none 0 0, .func (.func 43) #[] #[]] w fun e w' => e = .returned (.tuple #[]) ∧ w' = w := by
  have hi : Calls Tryd.prog 71 #[.slice none 0 0, .int .i64 0, .int .i64 0, .func (.func 43) #[] #[]] w fun e w' => e = .returned (.tuple #[]) ∧ w' = w := by
    go_enter Tryd.func71, Tryd.ntmps71
    go_wp2
    refine wp_loop_rounds 1 ?_
    rw [rounds_succ]
    go_wp2
    go_end0
    exact ⟨rfl, rfl⟩
  have hs : Calls Tryd.prog 61 #[.slice none 0 0, .int .i64 0, .func (.func 43) #[] #[]] w fun e w' => e = .returned (.tuple #[]) ∧ w' = w := by
    go_enter Tryd.func61, Tryd.ntmps61
    go_wp2
    refine wp_loop_rounds 1 ?_
    rw [rounds_succ]
    go_wp2_with fail
    refine hi.mono ?_
    rintro e w1 ⟨rfl, rfl⟩
    go_wp2
    refine wp_loop_rounds 1 ?_
    rw [rounds_succ]
    go_wp2
    go_end0
    exact ⟨rfl, rfl⟩
  go_enter Tryd.func42, Tryd.ntmps42
  go_wp2_with fail
  refine hs.mono ?_
  rintro e w1 ⟨rfl, rfl⟩
  go_wp2
  go_end0
  exact ⟨rfl, rfl⟩
/-- What an answer of HintFind is, in memory. -/
def FindAns (w : World) (L : List Hn) (e : Ending) (w' : World) : Prop := ∃ v, e = .returned v ∧ w'.ownsRow w.heap.size 31 2 v L.length (hnCells L) ∧ Below w.heap.size w w'
theorem findAns_none {w w' : World} {L : List Hn} (hL : L = []) (hb : Below w.heap.size w w') : FindAns w L (.returned (.slice none 0 0)) w' := by
  subst hL
  exact ⟨_, rfl, World.ownsRow_nil _ _ _ _, hb⟩
theorem findAns_cut {w w' : World} {L R : List Hn} {g c k : Nat} (ho : w'.ownsRow w.heap.size 31 2 (.slice (some ⟨g, 0, none⟩) R.length c) R.length (hnCells R)) (hk : k ≤ R.length) (hL : L = R.take k) (hb : Below w.heap.size w w') : FindAns w L (.returned (.slice (some ⟨g, 0, none⟩) k c)) w' := by
  subst hL
  have h := own_cut ho hk
  rw [← hnCells_take] at h
  refine ⟨_, rfl, ?_, hb⟩
  rw [List.length_take, Nat.min_eq_left hk]
  exact h
set_option maxRecDepth 100000 in
set_option maxHeartbeats 2000000 in
theorem hintFindI_any (a : Option Addr) (cap : Nat) (hs : List Hn) (b : ByteArray) (m : Int) (w : World) (hz : hs.length ≤ 1048576) (hsm : HnsSmall hs) (hm : MaxL w) (hr : HnRow w a hs) :
    Calls Tryd.prog 18 #[.slice a hs.length cap, .string b, .int .i64 m] w fun e w' => FindAns w (FindR hs b m) e w' := by
  have hb0 : Below w.heap.size w (w.alloc (.cells #[.string b] 9)) := (Below.refl _ w).alloc (Nat.le_refl _) _
  have B0 := Blk.new w #[.string b] 9
  have HH := hintsI_any a cap hs _ hz hsm (hm.below hb0) (hr.below hb0)
  have HR : Hid (∀ wx, Below w.heap.size w wx → HnRow wx a hs) := fun wx h => hr.below h
  have HB0 : Hid (Below w.heap.size w (w.alloc (.cells #[.string b] 9))) := hb0
  clear hr hm hb0
  cases hB : hintsB hs with
  | false =>
    have HF : Hid (FindR hs b m = []) := by unfold Hid FindR; rw [hB]; exact if_neg (fun h => by cases h.1)
    rw [hB] at HH
    go_enter Tryd.func18, Tryd.ntmps18
    go_wp2_with fail
    refine HH.mono ?_
    rintro e w1 ⟨rfl, hb1⟩
    have HB1 : Hid (Below w.heap.size w w1) := HB0.out.trans (hb1.mono HB0.out.size)
    clear HH B0 HB0 hb1
    go_wp2
    go_ret
    exact findAns_none HF.out HB1.out
  | true =>
    rw [hB] at HH
    obtain ⟨h10, _⟩ := hints_facts hB
    by_cases hneg : m < 0
    · have HF : Hid (FindR hs b m = []) := by unfold Hid FindR; exact if_neg (fun h => by omega)
      go_enter Tryd.func18, Tryd.ntmps18
      go_wp2_with fail
      refine HH.mono ?_
      rintro e w1 ⟨rfl, hb1⟩
      have HB1 : Hid (Below w.heap.size w w1) := HB0.out.trans (hb1.mono HB0.out.size)
      clear HH B0 HB0 hb1
      go_wp2
      go_ret
      exact findAns_none HF.out HB1.out
    · have hnd : decide (m < 0) = false := decide_eq_false hneg
      have HF : Hid (FindR hs b m = (sortW (findH hs b)).take m.toNat) := by unfold Hid FindR; exact if_pos ⟨hB, by omega⟩
      have HFL := findH_len hs b
      have HSL : Hid ((sortW (findH hs b)).length = (findH hs b).length) := sortW_len _
      go_enter Tryd.func18, Tryd.ntmps18
      go_wp2_with fail
      refine HH.mono ?_
      rintro e w1 ⟨rfl, hb1⟩
      have B1 := B0.below hb1 B0.lt
      have HB1 : Hid (Below w.heap.size w w1) := HB0.out.trans (hb1.mono HB0.out.size)
      clear HH B0 HB0 hb1
      go_wp2_with fail
      refine (hintsCopy_any a cap hs w1 hz hsm (HR.out _ HB1.out)).mono ?_
      rintro e w2 ⟨v, rfl, ho2, hb2⟩
      have B2 := B1.below hb2 B1.lt
      have HB2 : Hid (Below w.heap.size w w2) := HB1.out.trans (hb2.mono HB1.out.size)
      have hs1 := HB1.out.size
      have hlt1 := B1.lt
      clear HR hb2 B1
      rcases ho2.2 with ⟨rfl, h0⟩ | ⟨g, c, cur, rfl, hg, _⟩
      · have hs0 : hs = [] := List.eq_nil_of_length_eq_zero h0
        have HF0 : Hid (FindR hs b m = []) := by unfold Hid; rw [HF.out, hs0]; simp [findH, sortW]
        clear HF HFL HSL ho2
        go_wp2_with fail
        refine (deleteFuncH_nil b w.heap.size w2 B2).mono ?_
        rintro e w3 ⟨rfl, hb3⟩
        have HB3 : Hid (Below w.heap.size w w3) := HB2.out.trans (hb3.mono HB2.out.size)
        clear B2 hb3 HB2
        go_wp2_with fail
        refine (stableH_nil w3).mono ?_
        rintro e w4 ⟨rfl, rfl⟩
        have hm0 : (min m 0).toNat = 0 := by omega
        have HM0 : Hid (FindAns w (FindR hs b m) (.returned (.slice none (min m 0).toNat 0)) w4) := by
          unfold Hid
          rw [hm0]
          exact findAns_none HF0.out HB3.out
        clear hm0
        go_wp2
        go_ret
        exact HM0.out
      · have HO2 : Hid (w2.ownsRow w1.heap.size 31 2 (.slice (some ⟨g, 0, none⟩) hs.length c) hs.length (hnCells hs)) := ho2
        clear ho2
        go_wp2_with fail
        refine (deleteFuncH_any w1.heap.size g c hs b w.heap.size w2 hz B2 (by omega) HO2.out).mono ?_
        rintro e w3 ⟨rfl, ho3, hg3⟩
        have HB3 : Hid (Below w.heap.size w w3) := HB2.out.grown hg3 HB2.out.size (fun j hj => by cases hj; omega)
        clear B2 hg3 HB2 HO2
        go_wp2_with fail
        refine (stableH_any w1.heap.size g c (findH hs b) w3 (by omega) ho3).mono ?_
        rintro e w4 ⟨rfl, ho4, hg4⟩
        have HB4 : Hid (Below w.heap.size w w4) := HB3.out.grown hg4 HB3.out.size (fun j hj => by cases hj; omega)
        have HO4 : Hid (w4.ownsRow w.heap.size 31 2 (.slice (some ⟨g, 0, none⟩) (sortW (findH hs b)).length c) (sortW (findH hs b)).length (hnCells (sortW (findH hs b)))) := by
          unfold Hid
          rw [HSL.out]
          exact ownsRow_mono ho4 hs1
        have hcc : (findH hs b).length ≤ c := by
          rcases ho4.2 with ⟨e, _⟩ | ⟨g', c', cur, e, _, _, h, _⟩
          · cases e
          · cases e; exact h
        clear ho3 ho4 hg4 HB3
        obtain ⟨q, hq⟩ : ∃ q, (findH hs b).length = q := ⟨_, rfl⟩
        rw [hq] at HSL HFL hcc
        rw [hq]
        clear hq
        have HFF : Hid (FindR hs b m = (sortW (findH hs b)).take (min m (q : Int)).toNat) := by
          unfold Hid
          rw [HF.out]
          by_cases hlt : m ≤ (q : Int)
          · rw [show min m (q : Int) = m by omega]
          · rw [List.take_of_length_le (by rw [HSL.out]; omega), List.take_of_length_le (by rw [HSL.out]; omega)]
        have hqc : (q : Int) ≤ (c : Int) := by omega
        clear HF
        go_wp2
        go_ret
        exact findAns_cut HO4.out (by rw [HSL.out]; omega) HFF.out HB4.out
end Go.Proofs.YtgmfaganaeibkaaDoor
