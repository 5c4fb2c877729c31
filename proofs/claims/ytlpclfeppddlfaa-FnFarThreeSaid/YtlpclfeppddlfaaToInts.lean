/- toIntS copies a slice of ints; eqIntS and sdInts tell that two slices of the same ints are the same. -/
import Derived.Test.YtlpclfeppddlfaaBase
namespace Go.Proofs.Ytlpclfeppddlfaa
open Go.RowKit
theorem infoInt : (Try.prog.info? 3).map (fun i => (i.zero, i.size, i.bytes)) = some (some (.int .i64 0), 1, 8) := by kernel_rfl

def copied (zs : List Int) (k : Nat) : List Value := (zs.take k).map (Value.int .i64) ++ List.replicate (zs.length - k) (.int .i64 0)
theorem copied_step (zs : List Int) (k : Nat) (h : k < zs.length) : (copied zs k).set k (.int .i64 (nth zs k)) = copied zs (k + 1) := by
  unfold copied nth
  have e : (zs.take k).length = k := by simp; omega
  rw [List.set_append_right _ _ (by simp; omega)]
  rw [show zs.length - k = (zs.length - (k + 1)) + 1 from by omega, List.replicate_succ, List.take_succ_eq_append_getElem h, List.getD_eq_getElem?_getD, List.getElem?_eq_getElem h]
  simp only [List.length_map, e, Nat.sub_self, List.set_cons_zero, List.map_append, List.map_cons, List.map_nil, List.append_assoc, List.cons_append, List.nil_append, Option.getD_some]
theorem copied_all (zs : List Int) : copied zs zs.length = zs.map (Value.int .i64) := by simp [copied]
theorem copied_none (zs : List Int) : copied zs 0 = List.replicate zs.length (.int .i64 0) := by simp [copied]

end Go.Proofs.Ytlpclfeppddlfaa
