/- How far numbers are from each other, in decimals: spec.l3Gaps and impl.SetGaps. -/
import Derived.Test.YthaobhghbopgkaaDoorDec
import Derived.Test.YthaobhghbopgkaaDoorSetOk
import Derived.Test.YthaobhghbopgkaaDoorToInts
import Derived.Test.YthaobhghbopgkaaDoorShelf
import Derived.Lib.AppendIntMem
import Derived.Lib.JoinLaws
import Derived.Test.YthaobhghbopgkaaDoorJoinPlain
namespace Go.Proofs.YthaobhghbopgkaaDoor
open Go.RowKit

/-- The number ahead. -/
def ahead (zs : List Int) (k : Nat) : Int := if k = 0 then 0 else nth zs (k - 1)
def gapN (zs : List Int) (k : Nat) : Nat := (nth zs k - ahead zs k).toNat
def gapT (zs : List Int) (k : Nat) : List (List UInt8) := (List.range k).map fun i => Lib.decDigits (gapN zs i)
/-- What is written of the first k. -/
def gapsTo (zs : List Int) (k : Nat) : ByteArray := ⟨(Lib.join (gapT zs k) [32]).toArray⟩
def gapsB (zs : List Int) : ByteArray := if setB zs then gapsTo zs zs.length else ⟨#[]⟩

theorem gapsTo_zero (zs : List Int) : gapsTo zs 0 = ⟨#[]⟩ := rfl
theorem gapsTo_one (zs : List Int) : gapsTo zs 1 = decS (gapN zs 0) := by simp [gapsTo, gapT, Lib.join, List.intercalate, decS]
theorem gapsTo_succ (zs : List Int) (k : Nat) (h : k ≠ 0) : gapsTo zs (k + 1) = gapsTo zs k ++ ⟨#[32]⟩ ++ decS (gapN zs k) := by
  unfold gapsTo
  have e : gapT zs (k + 1) = gapT zs k ++ [Lib.decDigits (gapN zs k)] := by simp [gapT, List.range_succ]
  obtain ⟨y, ys, hy⟩ : ∃ y ys, gapT zs k = y :: ys := by
    cases hg : gapT zs k with
    | nil => have := congrArg List.length hg; simp [gapT] at this; exact absurd this h
    | cons y ys => exact ⟨y, ys, rfl⟩
  rw [e, hy, join_snoc]
  apply ByteArray.ext
  simp [decS]
theorem gap_bd (zs : List Int) (hz : setB zs = true) (k : Nat) (hk : k < zs.length) : nth zs k - ahead zs k = (gapN zs k : Int) ∧ gapN zs k ≤ 999999999 ∧ 0 ≤ ahead zs k ∧ ahead zs k ≤ 999999999 ∧ 0 ≤ nth zs k ∧ nth zs k ≤ 999999999 := by
  simp only [setB, ascB, Bool.and_eq_true, allTo_iff, decide_eq_true_eq] at hz
  have h1 := hz.2 k hk
  simp only [okAt, Bool.and_eq_true, Bool.or_eq_true, decide_eq_true_eq] at h1
  by_cases e : k = 0
  · subst e
    unfold gapN ahead
    rw [if_pos rfl]
    omega
  · have h2 := hz.2 (k - 1) (by omega)
    simp only [okAt, Bool.and_eq_true, Bool.or_eq_true, decide_eq_true_eq] at h2
    unfold gapN ahead
    rw [if_neg e]
    omega
theorem gapsTo_size (zs : List Int) (hz : setB zs = true) : ∀ k, k ≤ zs.length → (gapsTo zs k).size ≤ 22 * k
  | 0, _ => by simp [gapsTo_zero, ByteArray.size]
  | k + 1, hk => by
    have h1 := gapsTo_size zs hz k (by omega)
    have h2 := decS_size (gapN zs k) (gap_bd zs hz k (by omega)).2.1
    by_cases e : k = 0
    · subst e
      rw [gapsTo_one]
      omega
    · rw [gapsTo_succ zs k e, ByteArray.size_append, ByteArray.size_append]
      have : (⟨#[32]⟩ : ByteArray).size = 1 := rfl
      omega
theorem ahead_succ (zs : List Int) (k : Nat) : ahead zs (k + 1) = nth zs k := by simp [ahead]

set_option maxHeartbeats 1000000 in
theorem l3Gaps_any (a : Option Addr) (cap : Nat) (zs : List Int) (w : World) (hs : setB zs = true) (hr : IntRow w a zs) :
    Calls Tryd.prog 25 #[.slice a zs.length cap] w fun e w' => e = .returned (.string (gapsTo zs zs.length)) ∧ Below w.heap.size w w' := by
  have hl : zs.length ≤ 16 := by
    have h := hs
    simp only [setB, Bool.and_eq_true, decide_eq_true_eq] at h
    omega
  go_enter Tryd.func25, Tryd.ntmps25
  go_wp2
  go_loopw [3, 4, 5] (fun o l i wr => ∃ k : Nat, k ≤ zs.length ∧ i = .int .i64 k ∧ o = .string (gapsTo zs k) ∧ l = .int .i64 (ahead zs k) ∧ Below w.heap.size w wr) (fun _ _ i _ => zs.length - (intOf i).toNat)
  case atStart => exact ⟨0, Nat.zero_le _, rfl, rfl, rfl, Below.refl _ _⟩
  case round =>
    obtain ⟨k, hk, rfl, rfl, rfl, hbel⟩ := hrel
    by_cases hlt : k < zs.length
    · have hkl : (k : Int) < (zs.length : Int) := by omega
      obtain ⟨g, off, rfl, hg, hc⟩ := (hr.below hbel) (by omega)
      have c1 := hc k hlt
      obtain ⟨g1, g2, g3, g4, g5, g6⟩ := gap_bd zs hs k hlt
      have hsz := gapsTo_size zs hs k (by omega)
      have hds := decS_size (gapN zs k) g2
      have HG : Hid (nth zs k - ahead zs k = (gapN zs k : Int)) := g1
      have HAS : Hid (ahead zs (k + 1) = nth zs k) := ahead_succ zs k
      have HD := fun w => dec_upto (gapN zs k) (gapN zs k) w (Nat.le_refl _) g2
      have HDH : Hid (∀ w, Calls Tryd.prog 40 #[.int .i64 (gapN zs k : Int)] w fun e w' => e = .returned (.string (decS (gapN zs k))) ∧ Below w.heap.size w w') := HD
      clear HD g1
      by_cases e : k = 0
      · subst e
        have HS : Hid (gapsTo zs (0 + 1) = ⟨#[]⟩ ++ decS (gapN zs 0)) := by unfold Hid; rw [gapsTo_one]; apply ByteArray.ext; simp
        rw [Nat.add_zero] at c1
        rw [gapsTo_zero]
        generalize decS (gapN zs 0) = ds at *
        generalize nth zs 0 = z at *
        generalize ahead zs 0 = y at *
        clear hr hc hs
        go_wp2_with fail
        rw [HG.out]
        refine (HDH.out _).mono ?_
        rintro e w2 ⟨rfl, hb2⟩
        have hb3 := hbel.trans (hb2.mono hbel.size)
        have c2 : w2.cell? ⟨g, off, none⟩ = some (.int .i64 z) := (hb2.cell (p := ⟨g, off, none⟩) hg).trans c1
        clear c1
        go_wp2
        go_roundw
        case rel => exact ⟨0 + 1, by omega, by go_num, by rw [HS.out], by rw [HAS.out], hb3⟩
        case measure => simp [intOf]; omega
      · have hki : (0 : Int) < (k : Int) := by omega
        have HS : Hid (gapsTo zs (k + 1) = gapsTo zs k ++ ⟨#[32]⟩ ++ decS (gapN zs k)) := gapsTo_succ zs k e
        generalize decS (gapN zs k) = ds at *
        generalize gapsTo zs k = gs at *
        generalize nth zs k = z at *
        generalize ahead zs k = y at *
        clear hr hc hs
        go_wp2_with fail
        rw [HG.out]
        refine (HDH.out _).mono ?_
        rintro e w2 ⟨rfl, hb2⟩
        have hb3 := hbel.trans (hb2.mono hbel.size)
        have c2 : w2.cell? ⟨g, off + k, none⟩ = some (.int .i64 z) := (hb2.cell (p := ⟨g, off + k, none⟩) hg).trans c1
        clear c1
        go_wp2
        go_roundw
        case rel => exact ⟨k + 1, by omega, by go_num, by rw [HS.out], by rw [HAS.out], hb3⟩
        case measure => simp [intOf]; omega
    · have hkl : k = zs.length := by omega
      subst hkl
      clear hr hs
      go_wp2
      go_ret
      exact ⟨rfl, hbel⟩
end Go.Proofs.YthaobhghbopgkaaDoor
