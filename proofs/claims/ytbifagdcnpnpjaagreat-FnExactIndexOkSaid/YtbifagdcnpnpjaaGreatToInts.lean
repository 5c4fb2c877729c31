/- toIntS copies a slice of ints; eqIntS and sdInts tell that two slices of the same ints are the same. -/
import Derived.Test.YtbifagdcnpnpjaaGreatMg5FnExactIndexOk
namespace Go.Proofs.YtbifagdcnpnpjaaGreat
open Go.RowKit
theorem infoInt : (Tryz.prog.info? 3).map (fun i => (i.zero, i.size, i.bytes)) = some (some (.int .i64 0), 1, 8) := by kernel_rfl

def copied (zs : List Int) (k : Nat) : List Value := (zs.take k).map (Value.int .i64) ++ List.replicate (zs.length - k) (.int .i64 0)
theorem copied_step (zs : List Int) (k : Nat) (h : k < zs.length) : (copied zs k).set k (.int .i64 (nth zs k)) = copied zs (k + 1) := by
  unfold copied nth
  have e : (zs.take k).length = k := by simp; omega
  rw [List.set_append_right _ _ (by simp; omega)]
  rw [show zs.length - k = (zs.length - (k + 1)) + 1 from by omega, List.replicate_succ, List.take_succ_eq_append_getElem h, List.getD_eq_getElem?_getD, List.getElem?_eq_getElem h]
  simp only [List.length_map, e, Nat.sub_self, List.set_cons_zero, List.map_append, List.map_cons, List.map_nil, List.append_assoc, List.cons_append, List.nil_append, Option.getD_some]
theorem copied_all (zs : List Int) : copied zs zs.length = zs.map (Value.int .i64) := by simp [copied]
theorem copied_none (zs : List Int) : copied zs 0 = List.replicate zs.length (.int .i64 0) := by simp [copied]

set_option maxHeartbeats 400000 in
theorem toIntS_any (a : Option Addr) (cap : Nat) (zs : List Int) (w : World) (hz : zs.length ≤ 1099511627776) (hr : IntRow w a zs) :
    Calls Tryz.prog 146 #[.slice a zs.length cap] w fun e w' => ∃ v, e = .returned v ∧ w'.ownsRow w.heap.size 3 1 v zs.length (zs.map (Value.int .i64)) ∧ Below w.heap.size w w' := by
  obtain ⟨i0, hi, hz0, hz1, hz2⟩ := info_parts infoInt
  go_enter Tryz.func146, Tryz.ntmps146
  go_wp2_with (refine wpList_make_full _ rfl _ _ 105 rfl w.heap.size 3 i0 (.int .i64 0) 1 Tryz.underlying105 hi hz0 hz1 .i64 .i64 _ _ zs.length rfl rfl rfl rfl (by rw [hz2]; omega) (by unfold maxLen; omega) (Nat.le_refl _) ?_; intro w1 hown1 hgrow1)
  have hlit : w1.ownsRow w.heap.size 3 1 (.slice (some ⟨w.heap.size, 0, none⟩) zs.length zs.length) zs.length (copied zs 0) := by
    rw [copied_none]
    have e := toList_madeCells_one (.int .i64 0) zs.length
    rw [Nat.mul_one] at hown1
    have e2 : (Value.int .i64 0).cells = #[.int .i64 0] := rfl
    rw [e2, e] at hown1
    exact hown1
  have hb1 : Below w.heap.size w w1 := (Below.refl _ w).grown hgrow1 (Nat.le_refl _) (fun j hj => by cases hj)
  clear hown1 hgrow1
  go_wp2
  go_loopw [4] (fun i wr => ∃ k : Nat, k ≤ zs.length ∧ i = .int .i64 k ∧ wr.ownsRow w.heap.size 3 1 (.slice (some ⟨w.heap.size, 0, none⟩) zs.length zs.length) zs.length (copied zs k) ∧ Below w.heap.size w wr) (fun i _ => zs.length - (intOf i).toNat)
  case atStart => exact ⟨0, Nat.zero_le _, rfl, hlit, hb1⟩
  case round =>
    obtain ⟨k, hk, rfl, hown, hbel⟩ := hrel
    by_cases hlt : k < zs.length
    · obtain ⟨g, off, rfl, hg, hc⟩ := hr (by omega)
      have c1 : wr.cell? ⟨g, off + k, none⟩ = some (.int .i64 (nth zs k)) := by rw [hbel.cell (p := ⟨g, off + k, none⟩) hg]; exact hc k hlt
      have c2 : wr.cell? ⟨w.heap.size, k, none⟩ = (copied zs k)[k]? := hown.cellAt k (by omega)
      have hcl : (copied zs k).length = zs.length := by have := hown.1; omega
      rw [List.getElem?_eq_getElem (by omega)] at c2
      have f2 := hown.frozenAt k
      have hs := (hown.stored k (.int .i64 (nth zs k))).1
      rw [copied_step zs k hlt] at hs
      have hb2 := hbel.setCell (p := ⟨w.heap.size, k, none⟩) (Nat.le_refl _) (.int .i64 (nth zs k))
      generalize (copied zs k)[k] = old at c2
      generalize nth zs k = z at *
      clear hr hc hown hlit hcl
      go_wp2
      go_roundw
      case rel => exact ⟨k + 1, by omega, by go_num, hs, hb2⟩
      case measure => simp [intOf]; omega
    · have hkl : k = zs.length := by omega
      subst hkl
      rw [copied_all] at hown
      clear hr hlit
      go_wp2
      go_ret
      exact ⟨_, rfl, hown, hbel⟩
end Go.Proofs.YtbifagdcnpnpjaaGreat
