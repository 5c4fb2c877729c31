/- QueryOk of both sides. -/
import Derived.Test.YtjkimadnopeakaaGreatDoorQyFormS
namespace Go.Proofs.YtjkimadnopeakaaGreatDoor
open Go.RowKit
set_option linter.unusedVariables false

theorem QAt.drew {w : World} {B d : Nat} {a : Option Addr} {ps : List Qy} (h : QAt w B d a ps) : QAt w.drew B d a ps := QAt.kept (w := w) (w' := w.drew) (Nat.le_refl _) (fun _ _ _ => rfl) h
/-- A question is ok. -/
def queryB (k : Int) (f t : ByteArray) (lo hi : Int) (ps : List Qy) : Bool := qformB 4 (.mk k f t lo hi ps)
set_option maxRecDepth 100000 in
theorem queryOkS_any (k : Int) (f t : ByteArray) (lo hi : Int) (ps : List Qy) (a : Option Addr) (c D : Nat) (w : World) (ha : QAt w 0 D a ps) (hsz : QSz 1048576 D ps) (hfs : f.size ≤ 1048576) (hts : t.size ≤ 1048576) :
    Calls Tryz.prog 55 #[.agg #[.int .i64 k, .string f, .string t, .int .i64 lo, .int .i64 hi, .slice a ps.length c]] w fun e w' => e = .returned (.bool (queryB k f t lo hi ps)) ∧ Below w.heap.size w w' := by
  have hb0 : Below w.heap.size w (w.alloc (.cells #[.int .i64 k, .string f, .string t, .int .i64 lo, .int .i64 hi, .slice a ps.length c] 41)) := (Below.refl _ w).alloc (Nat.le_refl _) _
  have HL : Hid (Calls Tryz.prog 101 #[.agg #[.int .i64 k, .string f, .string t, .int .i64 lo, .int .i64 hi, .slice a ps.length c], .int .i64 4] (w.alloc (.cells #[.int .i64 k, .string f, .string t, .int .i64 lo, .int .i64 hi, .slice a ps.length c] 41)) fun e w' => e = .returned (.bool (queryB k f t lo hi ps)) ∧ Below (w.alloc (.cells #[.int .i64 k, .string f, .string t, .int .i64 lo, .int .i64 hi, .slice a ps.length c] 41)).heap.size (w.alloc (.cells #[.int .i64 k, .string f, .string t, .int .i64 lo, .int .i64 hi, .slice a ps.length c] 41)) w') := formS_any 4 (Nat.le_refl _) k f t lo hi ps a c D _ (ha.below hb0) hsz hfs hts
  clear ha hsz
  go_enter Tryz.func55, Tryz.ntmps55
  go_wp2_with fail
  refine HL.out.mono ?_
  rintro e w2 ⟨rfl, hb2⟩
  have hw2 := hb0.trans (hb2.mono hb0.size)
  clear HL hb0 hb2
  go_wp2
  go_ret
  exact ⟨rfl, hw2⟩
set_option maxRecDepth 100000 in
theorem queryOkI_any (k : Int) (f t : ByteArray) (lo hi : Int) (ps : List Qy) (a : Option Addr) (c D : Nat) (w : World) (ha : QAt w 0 D a ps) (hsz : QSz 1048576 D ps) (hfs : f.size ≤ 1048576) (hts : t.size ≤ 1048576) (hm : MaxL w) :
    Calls Tryz.prog 57 #[.agg #[.int .i64 k, .string f, .string t, .int .i64 lo, .int .i64 hi, .slice a ps.length c]] w fun e w' => e = .returned (.bool (queryB k f t lo hi ps)) ∧ Below w.heap.size w w' := by
  have hb0 : Below w.heap.size w (w.alloc (.cells #[.int .i64 k, .string f, .string t, .int .i64 lo, .int .i64 hi, .slice a ps.length c] 41)) := (Below.refl _ w).alloc (Nat.le_refl _) _
  have HL : Hid (Calls Tryz.prog 102 #[.agg #[.int .i64 k, .string f, .string t, .int .i64 lo, .int .i64 hi, .slice a ps.length c], .int .i64 4] (w.alloc (.cells #[.int .i64 k, .string f, .string t, .int .i64 lo, .int .i64 hi, .slice a ps.length c] 41)) fun e w' => e = .returned (.bool (queryB k f t lo hi ps)) ∧ Below (w.alloc (.cells #[.int .i64 k, .string f, .string t, .int .i64 lo, .int .i64 hi, .slice a ps.length c] 41)).heap.size (w.alloc (.cells #[.int .i64 k, .string f, .string t, .int .i64 lo, .int .i64 hi, .slice a ps.length c] 41)) w') := formI_any 4 (Nat.le_refl _) k f t lo hi ps a c D _ (ha.below hb0) hsz hfs hts (hm.below hb0)
  clear ha hsz hm
  go_enter Tryz.func57, Tryz.ntmps57
  go_wp2_with fail
  refine HL.out.mono ?_
  rintro e w2 ⟨rfl, hb2⟩
  have hw2 := hb0.trans (hb2.mono hb0.size)
  clear HL hb0 hb2
  go_wp2
  go_ret
  exact ⟨rfl, hw2⟩
end Go.Proofs.YtjkimadnopeakaaGreatDoor
