/- laws.sdFields tells that two slices of the same fields are the same. -/
import Derived.Test.YtlbigfgjalmhiaaFlds
import Derived.Test.YtlbigfgjalmhiaaBlk
import Derived.Laws.StructEq
import Derived.Deep.QuietTactic
import Derived.BigQuiet
namespace Go.Proofs.Ytlbigfgjalmhiaa
open Go.RowKit

theorem neqField (n : ByteArray) (x y : Int) (w : World) : (binOp .neq 60 (.agg #[.string n, .int .i64 x, .int .i64 y]) (.agg #[.string n, .int .i64 x, .int .i64 y])).run Try.prog w = .ok (.bool false) w := by
  have hS : Try.prog.underlying 60 = some (.struct (Try.prog.fieldsOf 60)) := by kernel_rfl
  have hp : Try.prog.stoodInHeld 60 = false := by kernel_rfl
  have u9 := Try.underlying9
  have z9 := Try.isAgg9
  have s9 := Try.sizeOf9
  have u3 := Try.underlying3
  have z3 := Try.isAgg3
  have s3 := Try.sizeOf3
  rw [run_neq_struct, show (10000 : Nat) = 9999 + 1 from rfl, run_equalIn_agg w 9999 60 _ _ hS hp]
  simp only [Program.fieldsOf, Try.underlying60]
  go_simp

set_option maxHeartbeats 1000000 in
theorem sdFields_same (a b : Option Addr) (ca cb : Nat) (fs : List Fld) (w : World) (hl : fs.length ≤ 1048576) (ha : FldRow w a fs) (hb : FldRow w b fs) :
    Calls Try.prog 14 #[.slice a fs.length ca, .slice b fs.length cb] w fun e w' => e = .returned (.bool true) ∧ Below w.heap.size w w' := by
  go_enter Try.func14, Try.ntmps14
  go_wp2
  go_loopw [5] (fun i wr => ∃ k : Nat, k ≤ fs.length ∧ i = .int .i64 k ∧ Below w.heap.size w wr) (fun i _ => fs.length - (intOf i).toNat)
  case atStart => exact ⟨0, Nat.zero_le _, rfl, Below.refl _ _⟩
  case round =>
    obtain ⟨k, hk, rfl, hbel⟩ := hrel
    by_cases hlt : k < fs.length
    · have hks : (k : Int) < (fs.length : Int) := by omega
      obtain ⟨g1, o1, rfl, hg1, hc1⟩ := (ha.below hbel) (by omega)
      obtain ⟨g2, o2, rfl, hg2, hc2⟩ := (hb.below hbel) (by omega)
      obtain ⟨x0, x1, x2⟩ := hc1 k hlt
      obtain ⟨y0, y1, y2⟩ := hc2 k hlt
      have hne := neqField (fat fs k).name (fat fs k).kind (fat fs k).weight
      clear ha hb hc1 hc2
      generalize fat fs k = fd at *
      obtain ⟨nm, kd, wt⟩ := fd
      simp only at x0 x1 x2 y0 y1 y2 hne
      go_wp2
      go_quiet (fail)
      go_wp2
      go_roundw
      case rel => exact ⟨k + 1, by omega, by go_num, below_drewN hbel _⟩
      case measure => simp [intOf]; omega
    · have hkl : k = fs.length := by omega
      subst hkl
      clear ha hb
      go_wp2
      go_ret
      exact ⟨rfl, hbel⟩
end Go.Proofs.Ytlbigfgjalmhiaa
