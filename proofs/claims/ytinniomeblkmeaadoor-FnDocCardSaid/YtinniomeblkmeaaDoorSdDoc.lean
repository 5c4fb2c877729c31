/- laws.sdDoc tells that two documents are the same. -/
import Derived.Test.YtinniomeblkmeaaDoorCels
import Derived.Test.YtinniomeblkmeaaDoorCelRows
import Derived.Laws.StructEq
import Derived.Deep.QuietTactic
import Derived.BigQuiet
namespace Go.Proofs.YtinniomeblkmeaaDoor
open Go.RowKit

theorem neqCell (n t : ByteArray) (w : World) : (binOp .neq 92 (.agg #[.string n, .string t]) (.agg #[.string n, .string t])).run Tryd.prog w = .ok (.bool false) w := by
  have hS : Tryd.prog.underlying 92 = some (.struct (Tryd.prog.fieldsOf 92)) := by kernel_rfl
  have hp : Tryd.prog.stoodInHeld 92 = false := by kernel_rfl
  have u9 := Tryd.underlying9
  have z9 := Tryd.isAgg9
  have s9 := Tryd.sizeOf9
  rw [run_neq_struct, show (10000 : Nat) = 9999 + 1 from rfl, run_equalIn_agg w 9999 92 _ _ hS hp]
  simp only [Program.fieldsOf, Tryd.underlying92]
  go_simp

set_option maxHeartbeats 1000000 in
theorem sdDoc_same (key : ByteArray) (a b : Option Addr) (ca cb : Nat) (cs : List Cel) (w : World) (hl : cs.length ≤ 1048576) (ha : CelRow w a cs) (hb : CelRow w b cs) :
    Calls Tryd.prog 25 #[.agg #[.string key, .slice a cs.length ca], .agg #[.string key, .slice b cs.length cb]] w fun e w' => e = .returned (.bool true) ∧ Below w.heap.size w w' := by
  have hb0 : Below w.heap.size w ((w.alloc (.cells #[.string key, .slice a cs.length ca] 34)).alloc (.cells #[.string key, .slice b cs.length cb] 34)) := ((Below.refl _ w).alloc (Nat.le_refl _) _).alloc (by simp) _
  have r1 := ha.below hb0
  have r2 := hb.below hb0
  have B1 := (Blk.new w #[.string key, .slice a cs.length ca] 34).alloc (.cells #[.string key, .slice b cs.length cb] 34)
  have B2 := Blk.new (w.alloc (.cells #[.string key, .slice a cs.length ca] 34)) #[.string key, .slice b cs.length cb] 34
  clear ha hb
  go_enter Tryd.func25, Tryd.ntmps25
  obtain ⟨W, hW⟩ : ∃ W, (w.alloc (.cells #[.string key, .slice a cs.length ca] 34)).alloc (.cells #[.string key, .slice b cs.length cb] 34) = W := ⟨_, rfl⟩
  rw [hW] at hb0 r1 r2 B1 B2
  rw [show (w.alloc (.cells #[.string key, .slice a cs.length ca] 34)).heap.size = w.heap.size + 1 from by simp] at B2
  have k0 := B1.cell 0
  have k1 := B1.cell 1
  have k2 := B2.cell 0
  have k3 := B2.cell 1
  simp at k0 k1 k2 k3
  go_wp2
  clear hW
  go_loopw [5] (fun i wr => ∃ k : Nat, k ≤ cs.length ∧ i = .int .i64 k ∧ Below W.heap.size W wr) (fun i _ => cs.length - (intOf i).toNat)
  case atStart => exact ⟨0, Nat.zero_le _, rfl, Below.refl _ _⟩
  case round =>
    obtain ⟨k, hk, rfl, hbel⟩ := hrel
    have C1 := B1.below hbel B1.lt
    have C2 := B2.below hbel B2.lt
    have j1 := C1.cell 1
    have j3 := C2.cell 1
    simp at j1 j3
    by_cases hlt : k < cs.length
    · have hks : (k : Int) < (cs.length : Int) := by omega
      obtain ⟨g1, o1, rfl, hg1, hc1⟩ := (r1.below hbel) (by omega)
      obtain ⟨g2, o2, rfl, hg2, hc2⟩ := (r2.below hbel) (by omega)
      obtain ⟨x0, x1⟩ := hc1 k hlt
      obtain ⟨y0, y1⟩ := hc2 k hlt
      have hne := neqCell (cat cs k).name (cat cs k).text
      clear r1 r2 hc1 hc2 k0 k1 k2 k3 B1 B2 C1 C2
      generalize (cat cs k).name = nm at *
      generalize (cat cs k).text = tx at *
      go_wp2
      go_quiet (fail)
      go_wp2
      go_roundw
      case rel => exact ⟨k + 1, by omega, by go_num, below_drewN hbel _⟩
      case measure => simp [intOf]; omega
    · have hkl : k = cs.length := by omega
      subst hkl
      have hb5 := hb0.trans (hbel.mono hb0.size)
      clear r1 r2 k0 k1 k2 k3 B1 B2 C1 C2
      go_wp2
      go_ret
      exact ⟨rfl, hb5⟩
end Go.Proofs.YtinniomeblkmeaaDoor
