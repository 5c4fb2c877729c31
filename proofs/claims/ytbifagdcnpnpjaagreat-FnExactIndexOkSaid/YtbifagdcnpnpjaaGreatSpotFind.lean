/- slices.BinarySearchFunc over words in fields. -/
import Derived.Test.YtbifagdcnpnpjaaGreatSpot
namespace Go.Proofs.YtbifagdcnpnpjaaGreat
open Go Go.Sort Go.RowKit Go.BigFrame
set_option linter.unusedVariables false

def LowK (ks : List Ky) (f t : ByteArray) (i j : Nat) : Prop := (∀ m k, m < i → ks[m]? = some k → kLess k.1 k.2 f t = true) ∧ ∀ m k, j ≤ m → ks[m]? = some k → kLess k.1 k.2 f t = false
theorem LowK.up {ks : List Ky} {f t : ByteArray} {i j h : Nat} {k : Ky} (ho : KAsc ks) (hl : LowK ks f t i j) (hh : ks[h]? = some k) (h1 : kLess k.1 k.2 f t = true) : LowK ks f t (h + 1) j := by
  refine ⟨fun m k' hm hk => ?_, hl.2⟩
  by_cases e : m = h
  · subst e; rw [hh] at hk; cases hk; exact h1
  · exact kLess_iff.2 ((ho.lt (by omega) hk hh).trans (kLess_iff.1 h1))
theorem LowK.down {ks : List Ky} {f t : ByteArray} {i j h : Nat} {k : Ky} (ho : KAsc ks) (hl : LowK ks f t i j) (hh : ks[h]? = some k) (h1 : kLess k.1 k.2 f t = false) : LowK ks f t i h := by
  refine ⟨hl.1, fun m k' hm hk => ?_⟩
  by_cases e : m = h
  · subst e; rw [hh] at hk; cases hk; exact h1
  · cases hc : kLess k'.1 k'.2 f t with
    | false => rfl
    | true =>
      have := (ho.lt (by omega) hh hk).trans (kLess_iff.1 hc)
      rw [kLess_iff.2 this] at h1
      cases h1
def FoundK (ks : List Ky) (f t : ByteArray) (w w' : World) (e : Ending) : Prop := ∃ b, e = .returned (.tuple #[.int .i64 ((placeK ks f t : Nat) : Int), .bool b]) ∧ Below w.heap.size w w'
theorem foundK {ks : List Ky} {f t : ByteArray} {w w' : World} {i : Nat} {b : Bool} (h : placeK ks f t = i) (hb : Below w.heap.size w w') : FoundK ks f t w w' (.returned (.tuple #[.int .i64 ((i : Nat) : Int), .bool b])) := ⟨b, by rw [h], hb⟩
set_option maxRecDepth 100000 in
set_option maxHeartbeats 2000000 in
theorem searchK_any (a : Option Addr) (cap : Nat) (ks : List Ky) (f t : ByteArray) (w : World) (hz : ks.length ≤ 1048576) (ho : KAsc ks) (hr : SpotRow w a ks) :
    Calls Tryz.prog 152 #[.slice a ks.length cap, .agg #[.string f, .string t], .func (.func 153) #[] #[]] w fun e w' => FoundK ks f t w w' e := by
  have HR : Hid (∀ wx, Below w.heap.size w wx → SpotRow wx a ks) := fun wx h => hr.below h
  have HO : Hid (KAsc ks) := ho
  have B0 := Blk.new w #[.string f, .string t] 149
  have hb0 : Below w.heap.size w (w.alloc (.cells #[.string f, .string t] 149)) := (Below.refl _ w).alloc (Nat.le_refl _) _
  clear hr ho
  go_enter Tryz.func152, Tryz.ntmps152
  go_wp2
  go_loopw [9, 10] (fun vi vj wr => ∃ i j : Nat, vi = .int .i64 i ∧ vj = .int .i64 j ∧ i ≤ j ∧ j ≤ ks.length ∧ LowK ks f t i j ∧ Blk wr w.heap.size #[.string f, .string t] 149 ∧ Below w.heap.size w wr) (fun vi vj _ => (intOf vj).toNat - (intOf vi).toNat)
  case atStart => exact ⟨0, ks.length, rfl, rfl, Nat.zero_le _, Nat.le_refl _, ⟨fun m k hm => absurd hm (Nat.not_lt_zero _), fun m k h1 h2 => by rw [List.getElem?_eq_none h1] at h2; cases h2⟩, B0, hb0⟩
  case round =>
    obtain ⟨i, j, rfl, rfl, hij, hj, hl, hB, hbel⟩ := hrel
    have HL : Hid (LowK ks f t i j) := hl
    clear hl B0 hb0
    have b0 := hB.cell 0
    have b1 := hB.cell 1
    simp at b0 b1
    by_cases hlt : i < j
    · obtain ⟨g, off, rfl, hg, hc⟩ := (HR.out _ hbel) (by omega)
      have hq : ((i : Int) + (j : Int)) / 2 = (((i + j) / 2 : Nat) : Int) := by omega
      obtain ⟨q, hqe⟩ : ∃ q, (i + j) / 2 = q := ⟨_, rfl⟩
      have hqi : i ≤ q := by omega
      have hqj : q < j := by omega
      have hqn : q < ks.length := by omega
      have hql : (q : Int) < (ks.length : Int) := by omega
      rw [hqe] at hq
      clear hqe
      obtain ⟨c0, c1⟩ := hc q ks[q] (List.getElem?_eq_getElem hqn)
      have HUP : Hid (kLess ks[q].1 ks[q].2 f t = true → LowK ks f t (q + 1) j) := HL.out.up HO.out (List.getElem?_eq_getElem hqn)
      have HDN : Hid (kLess ks[q].1 ks[q].2 f t = false → LowK ks f t i q) := HL.out.down HO.out (List.getElem?_eq_getElem hqn)
      clear hc
      generalize ks[q] = kq at *
      obtain ⟨f1, t1⟩ := kq
      simp only at c0 c1 HUP HDN
      have HC : Hid (∀ p : Regrown, Calls Tryz.prog 153 #[.agg #[.string f1, .string t1], .agg #[.string f, .string t]] (grow (redrawn wr p.d) p.os) fun e w' => e = .returned (.int .i64 (spotC f1 t1 f t)) ∧ Below (grow (redrawn wr p.d) p.os).heap.size (grow (redrawn wr p.d) p.os) w') := fun p => spotAgainst_any f1 t1 f t _
      have e0 := cellQ c0
      have e1 := cellQ c1
      have d0 := cellQ b0
      have d1 := cellQ b1
      have hneg := spotC_neg f1 t1 f t
      generalize spotC f1 t1 f t = cc at *
      cases hk : kLess f1 t1 f t with
      | true =>
        rw [hk] at hneg
        have hn2 : cc < 0 := of_decide_eq_true hneg
        have HS : Hid (LowK ks f t (q + 1) j) := HUP.out hk
        clear HUP HDN hk
        go_wp2_with fail
        clear hq
        refine wp_region_quiet_below (by kernel_rfl) (by kernel_rfl) ?_
        repeat (go_big_quiet_step ((go_at_call 153; with_reducible exact Calls.regrown_of (HC.out _))))
        refine wpQuiet_nil ?_
        intro _ hw'
        obtain ⟨pq, hw''⟩ := hw'
        subst hw''
        have hbq := belowQ wr pq
        have BX := hB.below hbq hB.lt
        clear e0 e1 d0 d1 HC hB b0 b1 c0 c1
        go_wp2
        go_roundw
        case rel => exact ⟨q + 1, j, by go_num, rfl, by omega, hj, HS.out, BX, hbel.trans (hbq.mono hbel.size)⟩
        case measure => simp [intOf]; omega
      | false =>
        rw [hk] at hneg
        have HS : Hid (LowK ks f t i q) := HDN.out hk
        clear HUP HDN hk
        go_wp2_with fail
        clear hq
        refine wp_region_quiet_below (by kernel_rfl) (by kernel_rfl) ?_
        repeat (go_big_quiet_step ((go_at_call 153; with_reducible exact Calls.regrown_of (HC.out _))))
        refine wpQuiet_nil ?_
        intro _ hw'
        obtain ⟨pq, hw''⟩ := hw'
        subst hw''
        have hbq := belowQ wr pq
        have BX := hB.below hbq hB.lt
        clear e0 e1 d0 d1 HC hB b0 b1 c0 c1
        go_wp2
        go_roundw
        case rel => exact ⟨i, q, rfl, rfl, hqi, by omega, HS.out, BX, hbel.trans (hbq.mono hbel.size)⟩
        case measure => simp [intOf]; omega
    · obtain rfl : i = j := by omega
      have HP : Hid (placeK ks f t = i) := placeK_eq ks f t i HL.out.1 hj (fun k hk => HL.out.2 i k (Nat.le_refl _) hk)
      by_cases hn : i < ks.length
      · obtain ⟨g, off, rfl, hg, hc⟩ := (HR.out _ hbel) (by omega)
        have hni : (i : Int) < (ks.length : Int) := by omega
        obtain ⟨c0, c1⟩ := hc i ks[i] (List.getElem?_eq_getElem hn)
        clear hc
        generalize ks[i] = kq at *
        obtain ⟨f1, t1⟩ := kq
        simp only at c0 c1
        have HC : Hid (∀ p : Regrown, Calls Tryz.prog 153 #[.agg #[.string f1, .string t1], .agg #[.string f, .string t]] (grow (redrawn wr p.d) p.os) fun e w' => e = .returned (.int .i64 (spotC f1 t1 f t)) ∧ Below (grow (redrawn wr p.d) p.os).heap.size (grow (redrawn wr p.d) p.os) w') := fun p => spotAgainst_any f1 t1 f t _
        have e0 := cellQ c0
        have e1 := cellQ c1
        have d0 := cellQ b0
        have d1 := cellQ b1
        generalize spotC f1 t1 f t = cc at *
        go_wp2_with fail
        refine wp_region_quiet_below (by kernel_rfl) (by kernel_rfl) ?_
        repeat (go_big_quiet_step ((go_at_call 153; with_reducible exact Calls.regrown_of (HC.out _))))
        refine wpQuiet_nil ?_
        intro _ hw'
        obtain ⟨pq, hw''⟩ := hw'
        subst hw''
        have hbq := belowQ wr pq
        clear e0 e1 d0 d1 HC hB b0 b1 c0 c1
        go_wp2
        go_ret2
        exact foundK HP.out (hbel.trans (hbq.mono hbel.size))
      · have hni : decide ((i : Int) < (ks.length : Int)) = false := decide_eq_false (by omega)
        go_wp2_with fail
        go_quiet (fail)
        go_wp2
        go_ret2
        exact foundK HP.out (below_drewN hbel _)
end Go.Proofs.YtbifagdcnpnpjaaGreat
