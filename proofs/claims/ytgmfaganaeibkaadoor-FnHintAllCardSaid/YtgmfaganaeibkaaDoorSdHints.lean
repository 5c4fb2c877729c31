/- Hints are held against each other; laws.sdHints tells that two slices of the same hints are the same. -/
import Derived.Test.YtgmfaganaeibkaaDoorHns
import Derived.Test.YtgmfaganaeibkaaDoorBlk
import Derived.Laws.StructEq
import Derived.Deep.QuietTactic
import Derived.BigQuiet
namespace Go.Proofs.YtgmfaganaeibkaaDoor
open Go.RowKit
set_option linter.unusedVariables false

/-- Whether two hints are one. -/
def hnEq (c d : Hn) : Bool := (c.text.toList == d.text.toList) && (c.weight == d.weight)
theorem hnEq_iff {c d : Hn} : hnEq c d = true ↔ c = d := by
  unfold hnEq
  rw [Bool.and_eq_true, beq_iff_eq, beq_iff_eq, ByteArray.toList_eq, ByteArray.toList_eq]
  obtain ⟨s, x⟩ := c
  obtain ⟨t, y⟩ := d
  simp only [Hn.mk.injEq]
  constructor
  · rintro ⟨h1, h2⟩
    exact ⟨ByteArray.ext (Array.toList_inj.1 h1), h2⟩
  · rintro ⟨rfl, rfl⟩
    exact ⟨rfl, rfl⟩
theorem hnEq_self (c : Hn) : hnEq c c = true := hnEq_iff.2 rfl
theorem eqHn (s t : ByteArray) (x y : Int) (w : World) : (binOp .eql 31 (.agg #[.string s, .int .i64 x]) (.agg #[.string t, .int .i64 y])).run Tryd.prog w = .ok (.bool (hnEq ⟨s, x⟩ ⟨t, y⟩)) w := by
  have hS : Tryd.prog.underlying 31 = some (.struct (Tryd.prog.fieldsOf 31)) := by kernel_rfl
  have hp : Tryd.prog.stoodInHeld 31 = false := by kernel_rfl
  have u9 := Tryd.underlying9
  have z9 := Tryd.isAgg9
  have s9 := Tryd.sizeOf9
  have u3 := Tryd.underlying3
  have z3 := Tryd.isAgg3
  have s3 := Tryd.sizeOf3
  unfold hnEq
  rw [run_eql_struct, show (10000 : Nat) = 9999 + 1 from rfl, run_equalIn_agg w 9999 31 _ _ hS hp]
  simp only [Program.fieldsOf, Tryd.underlying31]
  cases h1 : (s.toList == t.toList)
  · go_simp
  · cases h2 : (x == y)
    · go_simp
    · go_simp
theorem neqHn (s t : ByteArray) (x y : Int) (w : World) : (binOp .neq 31 (.agg #[.string s, .int .i64 x]) (.agg #[.string t, .int .i64 y])).run Tryd.prog w = .ok (.bool (!hnEq ⟨s, x⟩ ⟨t, y⟩)) w := by
  have hS : Tryd.prog.underlying 31 = some (.struct (Tryd.prog.fieldsOf 31)) := by kernel_rfl
  have hp : Tryd.prog.stoodInHeld 31 = false := by kernel_rfl
  have u9 := Tryd.underlying9
  have z9 := Tryd.isAgg9
  have s9 := Tryd.sizeOf9
  have u3 := Tryd.underlying3
  have z3 := Tryd.isAgg3
  have s3 := Tryd.sizeOf3
  unfold hnEq
  rw [run_neq_struct, show (10000 : Nat) = 9999 + 1 from rfl, run_equalIn_agg w 9999 31 _ _ hS hp]
  simp only [Program.fieldsOf, Tryd.underlying31]
  cases h1 : (s.toList == t.toList)
  · go_simp
  · cases h2 : (x == y)
    · go_simp
    · go_simp
set_option maxHeartbeats 1000000 in
theorem sdHints_same (a b : Option Addr) (ca cb : Nat) (hs : List Hn) (w : World) (hl : hs.length ≤ 1048576) (ha : HnRow w a hs) (hb : HnRow w b hs) :
    Calls Tryd.prog 14 #[.slice a hs.length ca, .slice b hs.length cb] w fun e w' => e = .returned (.bool true) ∧ Below w.heap.size w w' := by
  go_enter Tryd.func14, Tryd.ntmps14
  go_wp2
  go_loopw [5] (fun i wr => ∃ k : Nat, k ≤ hs.length ∧ i = .int .i64 k ∧ Below w.heap.size w wr) (fun i _ => hs.length - (intOf i).toNat)
  case atStart => exact ⟨0, Nat.zero_le _, rfl, Below.refl _ _⟩
  case round =>
    obtain ⟨k, hk, rfl, hbel⟩ := hrel
    by_cases hlt : k < hs.length
    · have hks : (k : Int) < (hs.length : Int) := by omega
      obtain ⟨g1, o1, rfl, hg1, hc1⟩ := (ha.below hbel) (by omega)
      obtain ⟨g2, o2, rfl, hg2, hc2⟩ := (hb.below hbel) (by omega)
      obtain ⟨x0, x1⟩ := hc1 k hlt
      obtain ⟨y0, y1⟩ := hc2 k hlt
      have hne := neqHn (hnat hs k).text (hnat hs k).text (hnat hs k).weight (hnat hs k).weight
      have hse := hnEq_self ⟨(hnat hs k).text, (hnat hs k).weight⟩
      clear ha hb hc1 hc2
      generalize hnat hs k = fd at *
      obtain ⟨nm, wt⟩ := fd
      simp only at x0 x1 y0 y1 hne hse
      rw [hse] at hne
      clear hse
      go_wp2
      go_quiet (fail)
      go_wp2
      go_roundw
      case rel => exact ⟨k + 1, by omega, by go_num, below_drewN hbel _⟩
      case measure => simp [intOf]; omega
    · have hkl : k = hs.length := by omega
      subst hkl
      clear ha hb
      go_wp2
      go_ret
      exact ⟨rfl, hbel⟩
end Go.Proofs.YtgmfaganaeibkaaDoor
