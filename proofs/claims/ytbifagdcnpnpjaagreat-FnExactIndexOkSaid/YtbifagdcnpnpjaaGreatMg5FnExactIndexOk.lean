/- Plain, Base, Flds, In, Leaf, NameOk, FldsOk, FldsOk2, FldCells, Cels, CelRows, in one text. -/
import Derived.WalkKit
import Derived.Below
import Derived.Test.YtbifagdcnpnpjaaGreatCommon
import Derived.Test.YtbifagdcnpnpjaaGreatRows
import Derived.ProofKit
import Derived.WalkSpells
import Derived.WalkLawsBesides
import Derived.WalkSmall
import Derived.OpenShut
import Derived.Deep.QuietTactic
import Derived.BigQuiet
import Derived.Deep.RegionWith
import Derived.Deep.DeepCutAuto
import Derived.Test.YtbifagdcnpnpjaaGreatBlk
/- Plain mathematics on bytes and lists: nothing of the program. -/
namespace Go.Proofs.YtbifagdcnpnpjaaGreat
open Go.RowKit

/-- The byte at a place, as a number; 0 past the end. -/
def byteAt (s : ByteArray) (k : Nat) : Int := ((s.data.toList.getD k 0).toNat : Int)
theorem byteAt_eq (s : ByteArray) (k : Nat) (h : k < s.size) : byteAt s k = ((s[k]'h).toNat : Int) := by
  unfold byteAt
  have h' : k < s.data.toList.length := by simpa using h
  rw [List.getD_eq_getElem?_getD, List.getElem?_eq_getElem h']
  rfl
theorem byteAt_bd (s : ByteArray) (k : Nat) : 0 ≤ byteAt s k ∧ byteAt s k ≤ 255 := by
  unfold byteAt
  have := (s.data.toList.getD k 0).toNat_lt
  omega

/-- All of the first k. -/
def allTo (f : Nat → Bool) : Nat → Bool
  | 0 => true
  | k + 1 => allTo f k && f k
theorem allTo_iff (f : Nat → Bool) (k : Nat) : allTo f k = true ↔ ∀ j, j < k → f j = true := by
  induction k with
  | zero => simp [allTo]
  | succ k ih =>
    simp only [allTo, Bool.and_eq_true, ih]
    constructor
    · rintro ⟨h1, h2⟩ j hj
      by_cases e : j = k
      · subst e; exact h2
      · exact h1 j (by omega)
    · intro h
      exact ⟨fun j hj => h j (by omega), h k (by omega)⟩
theorem allTo_false (f : Nat → Bool) (n k : Nat) (h : k < n) (hf : f k = false) : allTo f n = false := by
  cases e : allTo f n with
  | false => rfl
  | true => have := (allTo_iff f n).1 e k h; rw [hf] at this; cases this
theorem allTo_snoc (f : Nat → Bool) (k : Nat) (h : allTo f k = true) (hf : f k = true) : allTo f (k + 1) = true := by simp [allTo, h, hf]
theorem ret_bool {a b : Bool} (h : a = b) : Ending.returned (.bool a) = .returned (.bool b) := by rw [h]
theorem ret_int {k : IntKind} {a b : Int} (h : a = b) : Ending.returned (.int k a) = .returned (.int k b) := by rw [h]
theorem ret_string {a b : ByteArray} (h : a = b) : Ending.returned (.string a) = .returned (.string b) := by rw [h]
theorem addr_add0 (B j : Nat) : (⟨B, 0, none⟩ : Addr).add j = ⟨B, j, none⟩ := by
  unfold Addr.add
  by_cases h : j = 0
  · simp [h]
  · simp [h]
theorem cell_one0 (w : World) (v : Value) (t : TypeId) : ∀ j u, [v][j]? = some u → (w.alloc (.cells #[v] t)).cell? ((⟨w.heap.size, 0, none⟩ : Addr).add j) = some u := by
  intro j u hj
  match j, hj with
  | 0, hj => simp at hj; subst hj; simp [Addr.add]
theorem cells_new (w : World) (l : List Value) (t : TypeId) : ∀ j u, l[j]? = some u → (w.alloc (.cells l.toArray t)).cell? ((⟨w.heap.size, 0, none⟩ : Addr).add j) = some u := by
  intro j u hj
  rw [addr_add0, World.cell?_alloc_new]
  simpa using hj
end Go.Proofs.YtbifagdcnpnpjaaGreat

/- What every text of this seat stands on. -/
namespace Go.Proofs.YtbifagdcnpnpjaaGreat
open Go.RowKit

theorem addr_add (b o i : Nat) : (⟨b, o, none⟩ : Addr).add i = ⟨b, o + i, none⟩ := by
  unfold Addr.add
  by_cases e : i = 0
  · simp [e]
  · simp [e]

/-- The number at a place. -/
def nth (zs : List Int) (i : Nat) : Int := zs.getD i 0
/-- A slice of ints, as it is read. -/
def IntRow (w : World) (a : Option Addr) (zs : List Int) : Prop := 0 < zs.length → ∃ g off, a = some ⟨g, off, none⟩ ∧ g < w.heap.size ∧ ∀ i, i < zs.length → w.cell? ⟨g, off + i, none⟩ = some (.int .i64 (nth zs i))
theorem IntRow.below {w w' : World} {a : Option Addr} {zs : List Int} (h : IntRow w a zs) (hb : Below w.heap.size w w') : IntRow w' a zs := fun hp => by
  obtain ⟨g, off, e, hg, hc⟩ := h hp
  exact ⟨g, off, e, by have := hb.size; omega, fun i hi => by rw [hb.cell (p := ⟨g, off + i, none⟩) hg]; exact hc i hi⟩
theorem owns_intRow {w : World} {base : Nat} {e : TypeId} {v : Value} {zs : List Int} (h : w.ownsRow base e 1 v zs.length (zs.map (Value.int .i64))) :
    ∃ a cap, v = .slice a zs.length cap ∧ IntRow w a zs := by
  rcases h.2 with ⟨rfl, h0⟩ | ⟨g, cap, cur, rfl, hb, hg, r⟩
  · exact ⟨none, 0, by rw [h0], fun hp => by omega⟩
  · refine ⟨_, cap, rfl, fun hp => ⟨g, 0, rfl, lt_of_block hg, fun i hi => ?_⟩⟩
    rw [nth, Nat.zero_add, h.cellAt i (by omega), List.getElem?_map, List.getElem?_eq_getElem hi, List.getD_eq_getElem?_getD, List.getElem?_eq_getElem hi]
    rfl
/-- The ints that came in. -/
theorem ints_in {w : World} {a : Option Addr} {len cap : Nat} {zs : List Int} (h : (a = none ∧ len = 0 ∧ cap = 0 ∧ zs = []) ∨
    ∃ x, a = some x ∧ len ≤ cap ∧ cap ≤ maxLen ∧ zs.length = cap ∧ (∀ i, i < zs.length → w.cell? (x.add i) = some (.int .i64 (zs.getD i 0))) ∧ ∀ n ∈ zs, (Lit.int .i64 n).wf = true) :
    ∃ ys : List Int, ys.length = len ∧ len ≤ maxLen ∧ IntRow w a ys := by
  rcases h with ⟨rfl, rfl, rfl, rfl⟩ | ⟨x, rfl, h1, h2, h3, h4, _⟩
  · exact ⟨[], rfl, by decide, fun hp => by simp at hp⟩
  · refine ⟨zs.take len, by simp; omega, by omega, fun hp => ?_⟩
    have hl : (zs.take len).length = len := by simp; omega
    rw [hl] at hp
    obtain ⟨b, off, spot⟩ := x
    have hc0 := h4 0 (by omega)
    have hspot : spot = none := by simpa [Addr.add] using World.cell?_spot hc0
    subst hspot
    refine ⟨b, off, rfl, ?_, fun i hi => ?_⟩
    · exact cell_lt (o := off) (v := .int .i64 (zs.getD 0 0)) (by rw [← hc0, addr_add]; simp)
    · rw [hl] at hi
      rw [← addr_add, h4 i (by omega)]
      simp [nth, hi]
end Go.Proofs.YtbifagdcnpnpjaaGreat

/- Slices of fields: how they are read, copied, held against each other. -/
namespace Go.Proofs.YtbifagdcnpnpjaaGreat
open Go.RowKit

structure Fld where
  name : ByteArray
  kind : Int
  weight : Int
instance : Inhabited Fld := ⟨⟨⟨#[]⟩, 0, 0⟩⟩
def fat (fs : List Fld) (i : Nat) : Fld := fs.getD i default
theorem fat_get (fs : List Fld) (k : Nat) (h : k < fs.length) : fat fs k = fs[k] := by unfold fat; rw [List.getD_eq_getElem?_getD, List.getElem?_eq_getElem h]; rfl
def Fld.val (f : Fld) : Value := .agg #[.string f.name, .int .i64 f.kind, .int .i64 f.weight]
def Fld.cells (f : Fld) : List Value := [.string f.name, .int .i64 f.kind, .int .i64 f.weight]
def fldCells (fs : List Fld) : List Value := fs.flatMap Fld.cells
/-- A slice of fields, as it is read. -/
def FldRow (w : World) (a : Option Addr) (fs : List Fld) : Prop := 0 < fs.length → ∃ g off, a = some ⟨g, off, none⟩ ∧ g < w.heap.size ∧ ∀ i, i < fs.length →
  w.cell? ⟨g, off + i * 3, none⟩ = some (.string (fat fs i).name) ∧ w.cell? ⟨g, off + i * 3 + 1, none⟩ = some (.int .i64 (fat fs i).kind) ∧ w.cell? ⟨g, off + i * 3 + 2, none⟩ = some (.int .i64 (fat fs i).weight)
theorem FldRow.below {w w' : World} {a : Option Addr} {fs : List Fld} (h : FldRow w a fs) (hb : Below w.heap.size w w') : FldRow w' a fs := fun hp => by
  obtain ⟨g, off, e, hg, hc⟩ := h hp
  refine ⟨g, off, e, by have := hb.size; omega, fun i hi => ?_⟩
  obtain ⟨c0, c1, c2⟩ := hc i hi
  exact ⟨(hb.cell (p := ⟨g, off + i * 3, none⟩) hg).trans c0, (hb.cell (p := ⟨g, off + i * 3 + 1, none⟩) hg).trans c1, (hb.cell (p := ⟨g, off + i * 3 + 2, none⟩) hg).trans c2⟩

theorem toField_any (n : ByteArray) (k x : Int) (w : World) :
    Calls Tryz.prog 87 #[.agg #[.string n, .int .i64 k, .int .i64 x]] w fun e w' => e = .returned (.agg #[.string n, .int .i64 k, .int .i64 x]) ∧ Below w.heap.size w w' := by
  go_enter Tryz.func87, Tryz.ntmps87
  go_wp2
  exact bodyPost_ret (v := .agg #[.string n, .int .i64 k, .int .i64 x]) (by simp [results, Tryz.results87, go_sem]) rfl ⟨rfl, (((Below.refl _ w).alloc (Nat.le_refl _) _).alloc (by simp) _).alloc (by simp; omega) _⟩

theorem infoFld : (Tryz.prog.info? 123).map (fun i => (i.zero, i.size, i.bytes)) = some (some (.agg #[.string ⟨#[]⟩, .int .i64 0, .int .i64 0]), 3, 32) := by kernel_rfl

/-- The first k of a row's elements are these fields. -/
def FldTo (xs : List Value) (fs : List Fld) (k : Nat) : Prop := ∀ i, i < k → xs[i * 3]? = some (.string (fat fs i).name) ∧ xs[i * 3 + 1]? = some (.int .i64 (fat fs i).kind) ∧ xs[i * 3 + 2]? = some (.int .i64 (fat fs i).weight)
theorem FldTo.set {xs : List Value} {fs : List Fld} {k : Nat} (h : FldTo xs fs k) (hk : k * 3 + 2 < xs.length) :
    FldTo (((xs.set (k * 3) (.string (fat fs k).name)).set (k * 3 + 1) (.int .i64 (fat fs k).kind)).set (k * 3 + 2) (.int .i64 (fat fs k).weight)) fs (k + 1) := by
  intro i hi
  by_cases e : i = k
  · subst e
    refine ⟨?_, ?_, ?_⟩
    · rw [List.getElem?_set_ne (by omega), List.getElem?_set_ne (by omega), List.getElem?_set_self (by omega)]
    · rw [List.getElem?_set_ne (by omega), List.getElem?_set_self (by simp; omega)]
    · rw [List.getElem?_set_self (by simp; omega)]
  · obtain ⟨h0, h1, h2⟩ := h i (by omega)
    refine ⟨?_, ?_, ?_⟩
    · rw [List.getElem?_set_ne (by omega), List.getElem?_set_ne (by omega), List.getElem?_set_ne (by omega)]; exact h0
    · rw [List.getElem?_set_ne (by omega), List.getElem?_set_ne (by omega), List.getElem?_set_ne (by omega)]; exact h1
    · rw [List.getElem?_set_ne (by omega), List.getElem?_set_ne (by omega), List.getElem?_set_ne (by omega)]; exact h2
theorem owns_fldRow {w : World} {base : Nat} {e : TypeId} {v : Value} {fs : List Fld} {xs : List Value} (h : w.ownsRow base e 3 v fs.length xs) (ht : FldTo xs fs fs.length) :
    ∃ a cap, v = .slice a fs.length cap ∧ fs.length ≤ cap ∧ (a = none → cap = 0) ∧ FldRow w a fs := by
  have hx := h.1
  rcases h.2 with ⟨rfl, h0⟩ | ⟨g, cap, cur, rfl, hb, hg, hc, _⟩
  · exact ⟨none, 0, by rw [h0], by omega, fun _ => rfl, fun hp => by omega⟩
  · refine ⟨_, cap, rfl, hc, (fun h => by cases h), fun hp => ⟨g, 0, rfl, lt_of_block hg, fun i hi => ?_⟩⟩
    obtain ⟨h0, h1, h2⟩ := ht i hi
    refine ⟨?_, ?_, ?_⟩
    · rw [Nat.zero_add, h.cellAt _ (by omega)]; exact h0
    · rw [Nat.zero_add, h.cellAt _ (by omega)]; exact h1
    · rw [Nat.zero_add, h.cellAt _ (by omega)]; exact h2

set_option maxHeartbeats 1000000 in
theorem toFieldS_any (a : Option Addr) (cap : Nat) (fs : List Fld) (w : World) (hz : fs.length ≤ 1048576) (hr : FldRow w a fs) :
    Calls Tryz.prog 46 #[.slice a fs.length cap] w fun e w' => ∃ v xs, e = .returned v ∧ w'.ownsRow w.heap.size 123 3 v fs.length xs ∧ FldTo xs fs fs.length ∧ Below w.heap.size w w' := by
  obtain ⟨i0, hi, hz0, hz1, hz2⟩ := info_parts infoFld
  go_enter Tryz.func46, Tryz.ntmps46
  go_wp2_with (refine wpList_make_full _ rfl _ _ 29 rfl w.heap.size 123 i0 (.agg #[.string ⟨#[]⟩, .int .i64 0, .int .i64 0]) 3 Tryz.underlying29 hi hz0 hz1 .i64 .i64 _ _ fs.length rfl rfl rfl rfl (by rw [hz2]; omega) (by unfold maxLen; omega) (Nat.le_refl _) ?_; intro w1 hown1 hgrow1)
  have hb1 : Below w.heap.size w w1 := (Below.refl _ w).grown hgrow1 (Nat.le_refl _) (fun j hj => by cases hj)
  generalize (madeCells (Value.agg #[.string ⟨#[]⟩, .int .i64 0, .int .i64 0]).cells (fs.length * 3)).toList = x0 at hown1
  have HO : Hid (w1.ownsRow w.heap.size 123 3 (.slice (some ⟨w.heap.size, 0, none⟩) fs.length fs.length) fs.length x0) := hown1
  clear hown1 hgrow1
  go_wp2
  go_loopw [4] (fun i wr => ∃ (k : Nat) (xs : List Value), k ≤ fs.length ∧ i = .int .i64 k ∧ wr.ownsRow w.heap.size 123 3 (.slice (some ⟨w.heap.size, 0, none⟩) fs.length fs.length) fs.length xs ∧ FldTo xs fs k ∧ Below w.heap.size w wr) (fun i _ => fs.length - (intOf i).toNat)
  case atStart => exact ⟨0, x0, Nat.zero_le _, rfl, HO.out, fun i hi => by omega, hb1⟩
  case round =>
    clear HO
    obtain ⟨k, xs, hk, rfl, hown, hto, hbel⟩ := hrel
    by_cases hlt : k < fs.length
    · obtain ⟨g, off, rfl, hg, hc⟩ := (hr.below hbel) (by omega)
      obtain ⟨c0, c1, c2⟩ := hc k hlt
      have hxl := hown.1
      have HN : Hid (FldTo (((xs.set (k * 3) (.string (fat fs k).name)).set (k * 3 + 1) (.int .i64 (fat fs k).kind)).set (k * 3 + 2) (.int .i64 (fat fs k).weight)) fs (k + 1)) := hto.set (by omega)
      generalize (fat fs k).name = nm at *
      generalize (fat fs k).kind = kd at *
      generalize (fat fs k).weight = wt at *
      have HOW : Hid (wr.ownsRow w.heap.size 123 3 (.slice (some ⟨w.heap.size, 0, none⟩) fs.length fs.length) fs.length xs) := hown
      clear hr hc hto hown
      go_wp2_with fail
      refine (toField_any nm kd wt _).mono ?_
      rintro e w2 ⟨rfl, hb2⟩
      have ho2 := HOW.out.kept (grown_none hb2) (Classical.em _)
      obtain ⟨ho3, hg3⟩ := ho2.stored (k * 3) (.string nm)
      obtain ⟨ho4, hg4⟩ := ho3.stored (k * 3 + 1) (.int .i64 kd)
      obtain ⟨ho5, hg5⟩ := ho4.stored (k * 3 + 2) (.int .i64 wt)
      have d0 := ho2.cellAt (k * 3) (by omega)
      have d1 := ho2.cellAt (k * 3 + 1) (by omega)
      have d2 := ho2.cellAt (k * 3 + 2) (by omega)
      rw [List.getElem?_eq_getElem (by omega)] at d0 d1 d2
      have f0 := ho2.frozenAt (k * 3)
      have f1 := ho2.frozenAt (k * 3 + 1)
      have f2 := ho2.frozenAt (k * 3 + 2)
      generalize xs[k * 3] = o0 at d0
      generalize xs[k * 3 + 1] = o1 at d1
      generalize xs[k * 3 + 2] = o2 at d2
      have hb5 : Below w.heap.size w ((((w2.setCell ⟨w.heap.size, k * 3, none⟩ (.string nm)).setCell ⟨w.heap.size, k * 3 + 1, none⟩ (.int .i64 kd)).setCell ⟨w.heap.size, k * 3 + 2, none⟩ (.int .i64 wt))) :=
        (((hbel.trans (hb2.mono hbel.size)).setCell (Nat.le_refl _) _).setCell (Nat.le_refl _) _).setCell (Nat.le_refl _) _
      clear ho2 ho3 ho4 hg3 hg4 hg5 HOW
      have HO5 : Hid ((((w2.setCell ⟨w.heap.size, k * 3, none⟩ (.string nm)).setCell ⟨w.heap.size, k * 3 + 1, none⟩ (.int .i64 kd)).setCell ⟨w.heap.size, k * 3 + 2, none⟩ (.int .i64 wt)).ownsRow w.heap.size 123 3 (.slice (some ⟨w.heap.size, 0, none⟩) fs.length fs.length) fs.length (((xs.set (k * 3) (.string nm)).set (k * 3 + 1) (.int .i64 kd)).set (k * 3 + 2) (.int .i64 wt))) := ho5
      have HB5 : Hid (Below w.heap.size w ((((w2.setCell ⟨w.heap.size, k * 3, none⟩ (.string nm)).setCell ⟨w.heap.size, k * 3 + 1, none⟩ (.int .i64 kd)).setCell ⟨w.heap.size, k * 3 + 2, none⟩ (.int .i64 wt)))) := hb5
      clear ho5 hb5
      go_wp2
      go_roundw
      case rel => exact ⟨k + 1, _, by omega, by go_num, HO5.out, HN.out, HB5.out⟩
      case measure => simp [intOf]; omega
    · have hkl : k = fs.length := by omega
      subst hkl
      clear hr
      go_wp2
      go_ret
      exact ⟨_, xs, rfl, hown, hto, hbel⟩
end Go.Proofs.YtbifagdcnpnpjaaGreat

/- spec.l1In. -/
namespace Go.Proofs.YtbifagdcnpnpjaaGreat
open Go.RowKit

def inB (n a b : Int) : Bool := decide (a ≤ n) && decide (n ≤ b)
theorem l1In_any (n a b : Int) (w : World) :
    Calls Tryz.prog 42 #[.int .i64 n, .int .i64 a, .int .i64 b] w fun e w' => e = .returned (.bool (inB n a b)) ∧ w' = w := by
  by_cases h1 : a ≤ n <;> by_cases h2 : n ≤ b
  all_goals
    go_enter Tryz.func42, Tryz.ntmps42
    go_wp2
    go_ret
    exact ⟨by simp [inB, h1, h2], rfl⟩
end Go.Proofs.YtbifagdcnpnpjaaGreat

/- Contracts of the small functions on bytes: each answers as the Bool function beside it and leaves the world as it was. -/
namespace Go.Proofs.YtbifagdcnpnpjaaGreat
open Go.RowKit

def greatB (n : Int) : Bool := decide (65 ≤ n) && decide (n ≤ 90)
def smallB (n : Int) : Bool := decide (97 ≤ n) && decide (n ≤ 122)
def figureB (n : Int) : Bool := decide (48 ≤ n) && decide (n ≤ 57)
def lowI (n : Int) : Int := if greatB n then n + 32 else n
theorem lowI_yes (n : Int) (h1 : 65 ≤ n) (h2 : n ≤ 90) : lowI n = n + 32 := by simp [lowI, greatB, h1, h2]
theorem lowI_no (n : Int) (h : n < 65 ∨ 90 < n) : lowI n = n := by
  unfold lowI
  rw [if_neg]
  simp [greatB]
  omega

theorem isGreat_any (n : Int) (w : World) :
    Calls Tryz.prog 164 #[.int .u8 n] w fun e w' => e = .returned (.bool (greatB n)) ∧ w = w' := by
  by_cases h1 : 65 ≤ n <;> by_cases h2 : n ≤ 90
  all_goals
    go_enter Tryz.func164, Tryz.ntmps164
    go_wp2
    go_ret
    exact ⟨by simp [greatB, h1, h2], rfl⟩

theorem isSmall_any (n : Int) (w : World) :
    Calls Tryz.prog 135 #[.int .u8 n] w fun e w' => e = .returned (.bool (smallB n)) ∧ w = w' := by
  by_cases h1 : 97 ≤ n <;> by_cases h2 : n ≤ 122
  all_goals
    go_enter Tryz.func135, Tryz.ntmps135
    go_wp2
    go_ret
    exact ⟨by simp [smallB, h1, h2], rfl⟩

theorem isFigure_any (n : Int) (w : World) :
    Calls Tryz.prog 134 #[.int .u8 n] w fun e w' => e = .returned (.bool (figureB n)) ∧ w = w' := by
  by_cases h1 : 48 ≤ n <;> by_cases h2 : n ≤ 57
  all_goals
    go_enter Tryz.func134, Tryz.ntmps134
    go_wp2
    go_ret
    exact ⟨by simp [figureB, h1, h2], rfl⟩
end Go.Proofs.YtbifagdcnpnpjaaGreat

/- Contracts of impl.NameOk and spec.NameOk. -/
namespace Go.Proofs.YtbifagdcnpnpjaaGreat
open Go.RowKit

def okB (n : Int) : Bool := smallB n || figureB n
def nameI (s : ByteArray) : Bool := !s.toList.isEmpty && decide ((s.size : Int) ≤ 8) && !figureB (byteAt s 0) && allTo (fun j => okB (byteAt s j)) s.size

theorem toList_size (s : ByteArray) : s.toList.length = s.size := by rw [ByteArray.toList_eq]; simp
theorem isEmpty_size (s : ByteArray) (h : s.toList.isEmpty = false) : 0 < s.size := by
  rw [← toList_size]
  cases hs : s.toList with
  | nil => rw [hs] at h; simp at h
  | cons a b => simp

set_option maxHeartbeats 400000 in
theorem nameI_any (s : ByteArray) (w : World) (hs : s.size ≤ maxLen) :
    Calls Tryz.prog 117 #[.string s] w fun e w' => e = .returned (.bool (nameI s)) ∧ w = w' := by
  unfold maxLen at hs
  cases he : s.toList.isEmpty with
  | true =>
    go_enter Tryz.func117, Tryz.ntmps117
    go_wp2
    go_ret
    exact ⟨by simp [nameI, he], rfl⟩
  | false =>
    have hp := isEmpty_size s he
    by_cases h8 : 8 < (s.size : Int)
    · go_enter Tryz.func117, Tryz.ntmps117
      go_wp2
      go_ret
      exact ⟨ret_bool (by simp [nameI, he]; omega), rfl⟩
    · have h8' : (s.size : Int) ≤ 8 := by omega
      have hb0 := byteAt_eq s 0 hp
      cases hf : figureB ((s[0]'hp).toNat : Int) with
      | true =>
        clear hb0
        go_enter Tryz.func117, Tryz.ntmps117
        go_wp2_with (go_at_call 134; refine (isFigure_any _ _).mono ?_; rintro e w' ⟨rfl, rfl⟩)
        go_ret
        exact ⟨ret_bool (by simp [nameI, byteAt_eq s 0 hp, hf]), rfl⟩
      | false =>
        clear hb0
        go_enter Tryz.func117, Tryz.ntmps117
        go_wp2_with (go_at_call 134; refine (isFigure_any _ _).mono ?_; rintro e w' ⟨rfl, rfl⟩)
        go_loop [18] (fun i => ∃ k : Nat, k ≤ s.size ∧ i = .int .i64 k ∧ allTo (fun j => okB (byteAt s j)) k = true) (fun i => s.size - (intOf i).toNat)
        case atStart => exact ⟨0, Nat.zero_le _, rfl, rfl⟩
        case round =>
          obtain ⟨k, hk, rfl, ha⟩ := hrel
          by_cases hlt : k < s.size
          · cases h1 : smallB ((s[k]'hlt).toNat : Int) <;> cases h2 : figureB ((s[k]'hlt).toNat : Int)
            all_goals
              go_wp2_with (first | (go_at_call 135; refine (isSmall_any _ _).mono ?_; rintro e w' ⟨rfl, rfl⟩) | (go_at_call 134; refine (isFigure_any _ _).mono ?_; rintro e w' ⟨rfl, rfl⟩))
            · go_ret
              exact ⟨ret_bool (by rw [nameI, allTo_false _ _ k hlt (by simp [okB, byteAt_eq s k hlt, h1, h2])]; simp), rfl⟩
            all_goals
              go_round
              case rel => exact ⟨k + 1, by omega, by go_num, allTo_snoc _ _ ha (by simp [okB, byteAt_eq s k hlt, h1, h2])⟩
              case measure => simp [intOf]; omega
          · have hk' : k = s.size := by omega
            subst hk'
            go_wp2
            go_ret
            exact ⟨ret_bool (by simp [nameI, he, h8', byteAt_eq s 0 hp, hf, ha]), rfl⟩

def okS (s : ByteArray) (j : Nat) : Bool := smallB (byteAt s j) || ((j : Int) != 0 && figureB (byteAt s j))
def nameS (s : ByteArray) : Bool := allTo (okS s) s.size && inB s.size 1 8

set_option maxHeartbeats 400000 in
theorem nameS_any (s : ByteArray) (w : World) (hs : s.size ≤ maxLen) :
    Calls Tryz.prog 84 #[.string s] w fun e w' => e = .returned (.bool (nameS s)) ∧ w = w' := by
  unfold maxLen at hs
  go_enter Tryz.func84, Tryz.ntmps84
  go_wp2
  go_loop [3] (fun i => ∃ k : Nat, k ≤ s.size ∧ i = .int .i64 k ∧ allTo (okS s) k = true) (fun i => s.size - (intOf i).toNat)
  case atStart => exact ⟨0, Nat.zero_le _, rfl, rfl⟩
  case round =>
    obtain ⟨k, hk, rfl, ha⟩ := hrel
    by_cases hlt : k < s.size
    · have hb := byteAt_eq s k hlt
      have hbd := byteAt_bd s k
      rw [hb] at hbd
      have HB : Hid (byteAt s k = ((s[k]'hlt).toNat : Int)) := hb
      clear hb
      rcases (show (97 ≤ ((s[k]'hlt).toNat : Int) ∧ ((s[k]'hlt).toNat : Int) ≤ 122) ∨ (((s[k]'hlt).toNat : Int) < 97 ∧ k = 0) ∨ (122 < ((s[k]'hlt).toNat : Int) ∧ k = 0) ∨ (¬ k = 0 ∧ ((s[k]'hlt).toNat : Int) < 48) ∨ (¬ k = 0 ∧ 48 ≤ ((s[k]'hlt).toNat : Int) ∧ ((s[k]'hlt).toNat : Int) ≤ 57) ∨ (¬ k = 0 ∧ 57 < ((s[k]'hlt).toNat : Int) ∧ ((s[k]'hlt).toNat : Int) < 97) ∨ (¬ k = 0 ∧ 122 < ((s[k]'hlt).toNat : Int)) from by omega) with ⟨h1, h2⟩ | ⟨h1, rfl⟩ | ⟨h1, rfl⟩ | ⟨h0, h1⟩ | ⟨h0, h1, h2⟩ | ⟨h0, h1, h2⟩ | ⟨h0, h1⟩
      · go_wp2
        go_round
        case rel => exact ⟨k + 1, by omega, by go_num, allTo_snoc _ _ ha (by simp [okS, HB.out, smallB, h1, h2])⟩
        case measure => simp [intOf]; omega
      · go_wp2
        go_ret
        exact ⟨ret_bool (by rw [nameS, allTo_false _ _ 0 hlt (by simp [okS, HB.out, smallB]; omega)]; simp), rfl⟩
      · have d1 : decide (((s[0]'hlt).toNat : Int) ≤ 122) = false := by simp; omega
        go_wp2
        go_ret
        exact ⟨ret_bool (by rw [nameS, allTo_false _ _ 0 hlt (by simp [okS, HB.out, smallB]; omega)]; simp), rfl⟩
      · have d0 : ((k : Int) == 0) = false := by simp; omega
        go_wp2
        go_ret
        exact ⟨ret_bool (by rw [nameS, allTo_false _ _ k hlt (by simp [okS, HB.out, smallB, figureB]; omega)]; simp), rfl⟩
      · have d0 : ((k : Int) == 0) = false := by simp; omega
        have d2 : decide (((s[k]'hlt).toNat : Int) < 48) = false := by simp; omega
        have d3 : decide (57 < ((s[k]'hlt).toNat : Int)) = false := by simp; omega
        go_wp2
        go_round
        case rel => exact ⟨k + 1, by omega, by go_num, allTo_snoc _ _ ha (by simp [okS, HB.out, figureB, h1, h2, h0])⟩
        case measure => simp [intOf]; omega
      · have d0 : ((k : Int) == 0) = false := by simp; omega
        go_wp2
        go_ret
        exact ⟨ret_bool (by rw [nameS, allTo_false _ _ k hlt (by simp [okS, HB.out, smallB, figureB]; omega)]; simp), rfl⟩
      · have d0 : ((k : Int) == 0) = false := by simp; omega
        have d1 : decide (((s[k]'hlt).toNat : Int) ≤ 122) = false := by simp; omega
        have d3 : decide (57 < ((s[k]'hlt).toNat : Int)) = true := by simp; omega
        go_wp2
        go_ret
        exact ⟨ret_bool (by rw [nameS, allTo_false _ _ k hlt (by simp [okS, HB.out, smallB, figureB]; omega)]; simp), rfl⟩
    · have hk' : k = s.size := by omega
      subst hk'
      go_wp2_with (go_at_call 42; refine (l1In_any _ _ _ _).mono ?_; rintro e w' ⟨rfl, rfl⟩)
      go_ret
      exact ⟨ret_bool (by simp [nameS, ha]), rfl⟩
/-- Both answer the same. -/
theorem name_same (s : ByteArray) : nameI s = nameS s := by
  rw [Bool.eq_iff_iff]
  have hL := toList_size s
  simp only [nameI, nameS, inB, Bool.and_eq_true, allTo_iff, okB, okS, Bool.or_eq_true, decide_eq_true_eq, Bool.not_eq_true']
  constructor
  · rintro ⟨⟨⟨h1, h2⟩, h3⟩, h4⟩
    have := isEmpty_size s h1
    refine ⟨fun j hj => ?_, by omega, by omega⟩
    rcases h4 j hj with h | h
    · exact .inl h
    · by_cases e : j = 0
      · subst e; rw [h3] at h; cases h
      · exact .inr ⟨by simpa using e, h⟩
  · rintro ⟨h1, h2, h3⟩
    have hp : 0 < s.size := by omega
    have h0 := h1 0 hp
    simp only [Int.ofNat_zero, bne_self_eq_false, Bool.false_eq_true, false_and, or_false] at h0
    refine ⟨⟨⟨?_, by omega⟩, ?_⟩, fun j hj => ?_⟩
    · cases hs : s.toList with
      | nil => rw [hs] at hL; simp at hL; omega
      | cons a b => rfl
    · simp only [smallB, figureB, Bool.and_eq_true, decide_eq_true_eq] at h0 ⊢
      simp; omega
    · rcases h1 j hj with h | ⟨_, h⟩
      · exact .inl h
      · exact .inr h
end Go.Proofs.YtbifagdcnpnpjaaGreat

/- FieldsOk of the program and of the model: the parts. -/
namespace Go.Proofs.YtbifagdcnpnpjaaGreat
open Go.RowKit

/-- A field's weight goes with its kind. -/
def wOk (k x : Int) : Bool := if k == 1 then decide (1 ≤ x) && decide (x ≤ 9) else if k == 2 then x == 0 else if k == 3 then x == 0 else false
theorem weightOk_any (n : ByteArray) (k x : Int) (w : World) :
    Calls Tryz.prog 118 #[.agg #[.string n, .int .i64 k, .int .i64 x]] w fun e w' => e = .returned (.bool (wOk k x)) ∧ Below w.heap.size w w' := by
  go_enter Tryz.func118, Tryz.ntmps118
  go_wp2
  all_goals
    go_ret
    refine ⟨ret_bool ?_, (Below.refl _ w).alloc (Nat.le_refl _) _⟩
    simp_all [wOk]
  all_goals omega

/-- None of the first k has the name. -/
def noneTo (fs : List Fld) (n : ByteArray) (k : Nat) : Bool := allTo (fun j => !((fat fs j).name.toList == n.toList)) k
theorem noneTo_snoc {fs : List Fld} {n : ByteArray} {k : Nat} (h : noneTo fs n k = true) (h2 : ((fat fs k).name.toList == n.toList) = false) : noneTo fs n (k + 1) = true := allTo_snoc _ k h (by simp [h2])
theorem noneTo_not {fs : List Fld} {n : ByteArray} {k j : Nat} (h : k < j) (h2 : ((fat fs k).name.toList == n.toList) = true) : noneTo fs n j = false := allTo_false _ _ k h (by simp [h2])
/-- The place of the first of a name, or -1. -/
def FPos (fs : List Fld) (n : ByteArray) (p : Int) : Prop := (∃ k : Nat, k < fs.length ∧ p = k ∧ ((fat fs k).name.toList == n.toList) = true ∧ noneTo fs n k = true) ∨ (p = -1 ∧ noneTo fs n fs.length = true)
/-- The first of a name, or nothing. -/
def FoundF (fs : List Fld) (n : ByteArray) (f : Fld) (b : Bool) : Prop := (b = true ∧ ∃ k : Nat, k < fs.length ∧ f = fat fs k ∧ ((fat fs k).name.toList == n.toList) = true ∧ noneTo fs n k = true) ∨ (b = false ∧ f = default ∧ noneTo fs n fs.length = true)

set_option maxHeartbeats 400000 in
theorem l2Field_any (a : Option Addr) (cap : Nat) (fs : List Fld) (n : ByteArray) (w : World) (hz : fs.length ≤ 1048576) (hr : FldRow w a fs) :
    Calls Tryz.prog 81 #[.slice a fs.length cap, .string n] w fun e w' => ∃ p : Int, e = .returned (.int .i64 p) ∧ FPos fs n p ∧ w' = w := by
  go_enter Tryz.func81, Tryz.ntmps81
  go_wp2
  go_loop [5] (fun i => ∃ k : Nat, k ≤ fs.length ∧ i = .int .i64 k ∧ noneTo fs n k = true) (fun i => fs.length - (intOf i).toNat)
  case atStart => exact ⟨0, Nat.zero_le _, rfl, rfl⟩
  case round =>
    obtain ⟨k, hk, rfl, hn⟩ := hrel
    have HN : Hid (noneTo fs n k = true) := hn
    clear hn
    by_cases hlt : k < fs.length
    · obtain ⟨g, off, rfl, hg, hc⟩ := hr (by omega)
      obtain ⟨c0, c1, c2⟩ := hc k hlt
      cases he : ((fat fs k).name.toList == n.toList) with
      | true =>
        have HF : Hid (FPos fs n k) := .inl ⟨k, hlt, rfl, he, HN.out⟩
        generalize (fat fs k).name = nm at *
        clear hr hc c1 c2
        go_wp2
        go_ret
        exact ⟨k, rfl, HF.out, rfl⟩
      | false =>
        have HS : Hid (noneTo fs n (k + 1) = true) := noneTo_snoc HN.out he
        generalize (fat fs k).name = nm at *
        clear hr hc c1 c2
        go_wp2
        go_round
        case rel => exact ⟨k + 1, by omega, by go_num, HS.out⟩
        case measure => simp [intOf]; omega
    · have hkl : k = fs.length := by omega
      subst hkl
      clear hr
      go_wp2
      go_ret
      exact ⟨-1, rfl, .inr ⟨rfl, HN.out⟩, rfl⟩

set_option maxHeartbeats 1000000 in
theorem fieldOf_any (a : Option Addr) (cap : Nat) (fs : List Fld) (n : ByteArray) (w : World) (hz : fs.length ≤ 1048576) (hr : FldRow w a fs) :
    Calls Tryz.prog 104 #[.slice a fs.length cap, .string n] w fun e w' => ∃ (f : Fld) (b : Bool), e = .returned (.tuple #[.agg #[.string f.name, .int .i64 f.kind, .int .i64 f.weight], .bool b]) ∧ FoundF fs n f b ∧ Below w.heap.size w w' := by
  have hb0 : Below w.heap.size w (w.alloc (.cells #[.string ⟨#[]⟩, .int .i64 0, .int .i64 0] 123)) := (Below.refl _ w).alloc (Nat.le_refl _) _
  have r0 := hr.below hb0
  have HB0 : Hid (Below w.heap.size w (w.alloc (.cells #[.string ⟨#[]⟩, .int .i64 0, .int .i64 0] 123))) := hb0
  clear hr hb0
  go_enter Tryz.func104, Tryz.ntmps104
  go_wp2
  go_loopw [10] (fun i wr => ∃ k : Nat, k ≤ fs.length ∧ i = .int .i64 k ∧ noneTo fs n k = true ∧ Below (w.alloc (.cells #[.string ⟨#[]⟩, .int .i64 0, .int .i64 0] 123)).heap.size (w.alloc (.cells #[.string ⟨#[]⟩, .int .i64 0, .int .i64 0] 123)) wr) (fun i _ => fs.length - (intOf i).toNat)
  case atStart => exact ⟨0, Nat.zero_le _, rfl, rfl, Below.refl _ _⟩
  case round =>
    obtain ⟨k, hk, rfl, hn, hbel⟩ := hrel
    have HN : Hid (noneTo fs n k = true) := hn
    clear hn
    have hblk : Blk wr w.heap.size #[.string ⟨#[]⟩, .int .i64 0, .int .i64 0] 123 := (Blk.new w _ _).below hbel (by simp)
    have d0 : wr.cell? ⟨w.heap.size, 0, none⟩ = some (.string ⟨#[]⟩) := hblk.cell 0
    have d1 : wr.cell? ⟨w.heap.size, 1, none⟩ = some (.int .i64 0) := hblk.cell 1
    have d2 : wr.cell? ⟨w.heap.size, 2, none⟩ = some (.int .i64 0) := hblk.cell 2
    have f0 := hblk.frozen 0
    have f1 := hblk.frozen 1
    have f2 := hblk.frozen 2
    clear hblk
    have hsz := hbel.size
    rw [World.size_alloc] at hsz
    have hsl : w.heap.size < wr.heap.size := by omega
    have hbw : Below w.heap.size w wr := HB0.out.trans (hbel.mono (by simp))
    by_cases hlt : k < fs.length
    · obtain ⟨g, off, rfl, hg, hc⟩ := (r0.below hbel) (by omega)
      obtain ⟨c0, c1, c2⟩ := hc k hlt
      cases he : ((fat fs k).name.toList == n.toList) with
      | true =>
        have HF : Hid (FoundF fs n (fat fs k) true) := .inl ⟨rfl, k, hlt, rfl, he, HN.out⟩
        generalize fat fs k = fd at *
        obtain ⟨nm, kd, wt⟩ := fd
        simp only at c0 c1 c2 he
        clear r0 hc HB0 HN
        go_wp2
        refine bodyPost_ret (v := .tuple #[.agg #[.string nm, .int .i64 kd, .int .i64 wt], .bool true]) (by simp [results, Tryz.results104, go_sem, d0, d1, d2, hsl]) rfl ⟨⟨nm, kd, wt⟩, true, rfl, HF.out, ?_⟩
        exact (((hbw.setCell (Nat.le_refl _) _).setCell (Nat.le_refl _) _).setCell (Nat.le_refl _) _).alloc (by simp; omega) _
      | false =>
        have HS : Hid (noneTo fs n (k + 1) = true) := noneTo_snoc HN.out he
        generalize fat fs k = fd at *
        obtain ⟨nm, kd, wt⟩ := fd
        simp only at c0 c1 c2 he
        clear r0 hc HB0 HN
        go_wp2
        go_roundw
        case rel => exact ⟨k + 1, by omega, by go_num, HS.out, hbel.alloc (by simp; omega) _⟩
        case measure => simp [intOf]; omega
    · have hkl : k = fs.length := by omega
      subst hkl
      clear r0 HB0
      go_wp2
      refine bodyPost_ret (v := .tuple #[.agg #[.string ⟨#[]⟩, .int .i64 0, .int .i64 0], .bool false]) (by simp [results, Tryz.results104, go_sem, d0, d1, d2]) rfl ⟨⟨⟨#[]⟩, 0, 0⟩, false, rfl, .inr ⟨rfl, rfl, HN.out⟩, ?_⟩
      exact ((hbw.setCell (Nat.le_refl _) _).setCell (Nat.le_refl _) _).setCell (Nat.le_refl _) _
end Go.Proofs.YtbifagdcnpnpjaaGreat

/- FieldsOk of the program and of the model. -/
namespace Go.Proofs.YtbifagdcnpnpjaaGreat
open Go.RowKit

theorem allTo_congr {f g : Nat → Bool} {k : Nat} (h : ∀ j, j < k → f j = g j) : allTo f k = allTo g k := by
  induction k with
  | zero => rfl
  | succ k ih => simp only [allTo]; rw [ih (fun j hj => h j (by omega)), h k (by omega)]
theorem fat_take (fs : List Fld) (k j : Nat) (h : j < k) (hk : k ≤ fs.length) : fat (fs.take k) j = fat fs j := by
  rw [fat_get _ _ (by simp; omega), fat_get _ _ (by omega)]
  simp
theorem noneTo_take (fs : List Fld) (n : ByteArray) (k : Nat) (hk : k ≤ fs.length) : noneTo (fs.take k) n k = noneTo fs n k := allTo_congr fun j hj => by rw [fat_take fs k j hj hk]
theorem FldRow.take {w : World} {a : Option Addr} {fs : List Fld} (h : FldRow w a fs) (k : Nat) (hk : k ≤ fs.length) : FldRow w a (fs.take k) := fun hp => by
  have hl : (fs.take k).length = k := by simp; omega
  rw [hl] at hp
  obtain ⟨g, off, e, hg, hc⟩ := h (by omega)
  refine ⟨g, off, e, hg, fun i hi => ?_⟩
  rw [hl] at hi
  rw [fat_take fs k i hi hk]
  exact hc i (by omega)
theorem fieldOf_to (a : Option Addr) (cap : Nat) (fs : List Fld) (n : ByteArray) (k : Nat) (w : World) (hk : k ≤ fs.length) (hz : fs.length ≤ 1048576) (hr : FldRow w a fs) :
    Calls Tryz.prog 104 #[.slice a k cap, .string n] w fun e w' => ∃ (f : Fld), e = .returned (.tuple #[.agg #[.string f.name, .int .i64 f.kind, .int .i64 f.weight], .bool (!noneTo fs n k)]) ∧ Below w.heap.size w w' := by
  have hl : (fs.take k).length = k := by simp; omega
  have h := fieldOf_any a cap (fs.take k) n w (by rw [hl]; omega) (hr.take k hk)
  rw [hl] at h
  refine h.mono ?_
  rintro e w' ⟨f, b, rfl, hf, hb⟩
  refine ⟨f, ?_, hb⟩
  have e2 : b = !noneTo fs n k := by
    rcases hf with ⟨rfl, j, hj, _, h2, _⟩ | ⟨rfl, _, h2⟩
    · rw [hl] at hj
      rw [fat_take fs k j hj hk] at h2
      rw [noneTo_not hj h2]
      rfl
    · rw [hl, noneTo_take fs n k hk] at h2
      rw [h2]
      rfl
  rw [e2]

def fldOk (fs : List Fld) (i : Nat) : Bool := noneTo fs (fat fs i).name i && nameI (fat fs i).name && wOk (fat fs i).kind (fat fs i).weight
def fieldsB (fs : List Fld) : Bool := decide (1 ≤ fs.length) && decide (fs.length ≤ 4) && allTo (fldOk fs) fs.length
theorem fieldsB_no (fs : List Fld) (k : Nat) (h : k < fs.length) (hf : fldOk fs k = false) : fieldsB fs = false := by
  unfold fieldsB
  rw [allTo_false _ _ k h hf]
  simp
def FldsSmall (fs : List Fld) : Prop := ∀ i, i < fs.length → (fat fs i).name.size ≤ 1048576

set_option maxHeartbeats 2000000 in
theorem fieldsI_any (a : Option Addr) (cap : Nat) (fs : List Fld) (w : World) (hz : fs.length ≤ 1048576) (hcap : fs.length ≤ cap) (hsm : FldsSmall fs) (hr : FldRow w a fs) :
    Calls Tryz.prog 90 #[.slice a fs.length cap] w fun e w' => e = .returned (.bool (fieldsB fs)) ∧ Below w.heap.size w w' := by
  by_cases h0 : fs.length = 0
  · have HB : Hid (fieldsB fs = false) := by unfold Hid fieldsB; simp [h0]
    have d0 : ((fs.length : Int) == 0) = true := by simp [h0]
    clear hr hsm h0
    go_enter Tryz.func90, Tryz.ntmps90
    go_wp2
    go_ret
    exact ⟨ret_bool HB.out.symm, Below.refl _ _⟩
  have d0 : ((fs.length : Int) == 0) = false := by rw [beq_eq_false_iff_ne]; omega
  by_cases h4 : 4 < (fs.length : Int)
  · have HB : Hid (fieldsB fs = false) := by unfold Hid fieldsB; rw [show decide (fs.length ≤ 4) = false from by simp; omega]; simp
    clear hr hsm h0
    go_enter Tryz.func90, Tryz.ntmps90
    go_wp2
    go_ret
    exact ⟨ret_bool HB.out.symm, Below.refl _ _⟩
  have d4 : decide (4 < (fs.length : Int)) = false := by simpa using h4
  go_enter Tryz.func90, Tryz.ntmps90
  go_wp2
  go_loopw [17] (fun i wr => ∃ k : Nat, k ≤ fs.length ∧ i = .int .i64 k ∧ allTo (fldOk fs) k = true ∧ Below w.heap.size w wr) (fun i _ => fs.length - (intOf i).toNat)
  case atStart => exact ⟨0, Nat.zero_le _, rfl, rfl, Below.refl _ _⟩
  case round =>
    obtain ⟨k, hk, rfl, ha, hbel⟩ := hrel
    have HA : Hid (allTo (fldOk fs) k = true) := ha
    clear ha
    have hsz := hbel.size
    by_cases hlt : k < fs.length
    · have hki : (k : Int) ≤ (cap : Int) := by omega
      have hkl : (k : Int) < (fs.length : Int) := by omega
      have r1 := hr.below hbel
      obtain ⟨g, off, rfl, hg, hc⟩ := r1 (by omega)
      obtain ⟨c0, c1, c2⟩ := hc k hlt
      have hs := hsm k hlt
      have HNO : Hid (fldOk fs k = false → fieldsB fs = false) := fieldsB_no fs k hlt
      have HFO : Hid (fldOk fs k = (noneTo fs (fat fs k).name k && nameI (fat fs k).name && wOk (fat fs k).kind (fat fs k).weight)) := rfl
      generalize fat fs k = fd at *
      obtain ⟨nm, kd, wt⟩ := fd
      simp only at c0 c1 c2 hs HFO
      have r2 := r1.below ((Below.refl _ wr).alloc (Nat.le_refl _) (.cells #[.string nm, .int .i64 kd, .int .i64 wt] 123))
      clear hr hc hsm r1 h0 h4
      have r3 := r2.below ((Below.refl _ _).alloc (Nat.le_refl _) (.cells #[.string ⟨#[]⟩, .int .i64 0, .int .i64 0] 123))
      have hbW : Below w.heap.size w (wr.alloc (.cells #[.string nm, .int .i64 kd, .int .i64 wt] 123)) := hbel.alloc hsz _
      have B1 : Blk (wr.alloc (.cells #[.string nm, .int .i64 kd, .int .i64 wt] 123)) wr.heap.size #[.string nm, .int .i64 kd, .int .i64 wt] 123 := Blk.new _ _ _
      go_wp2
      go_cut [6] (fun tw wx => tw = .bool (!noneTo fs nm k) ∧ Blk wx wr.heap.size #[.string nm, .int .i64 kd, .int .i64 wt] 123 ∧ Below w.heap.size w wx)
      case first =>
        go_region_with (go_at_call 104; refine (fieldOf_to (some ⟨g, off, none⟩) cap fs nm k _ (by omega) (by omega) (by first | exact r2 | exact r3)).mono ?_; rintro e w2 ⟨f2, rfl, hb2⟩; obtain ⟨hcl, hfz⟩ := bcell hb2; have hz2 : wr.heap.size + 1 ≤ w2.heap.size := by have := hb2.size; simp at this; omega)
        all_goals
          go_wp2_with fail
          go_meet
          case rel =>
            refine ⟨rfl, ?_, ?_⟩
            · first
              | exact (B1.over hb2 (by simp) rfl).alloc _
              | exact ((((B1.alloc _).over hb2 (by simp; omega) rfl).other (Nat.ne_of_lt (Nat.lt_succ_self _)) _).other (Nat.ne_of_lt (Nat.lt_succ_self _)) _).other (Nat.ne_of_lt (Nat.lt_succ_self _)) _
            · first
              | exact ((below_drew hbW).trans (hb2.mono (by simp; omega))).alloc (by omega) _
              | exact ((((below_drew (hbW.alloc (by simp; omega) _)).trans (hb2.mono (by simp; omega))).setCell (Nat.le_succ_of_le hsz) _).setCell (Nat.le_succ_of_le hsz) _).setCell (Nat.le_succ_of_le hsz) _
      case rest =>
        obtain ⟨rfl, hblk, hbx⟩ := hcut
        have e0 : wc.cell? ⟨wr.heap.size, 0, none⟩ = some (.string nm) := hblk.cell 0
        have e1 : wc.cell? ⟨wr.heap.size, 1, none⟩ = some (.int .i64 kd) := hblk.cell 1
        have e2 : wc.cell? ⟨wr.heap.size, 2, none⟩ = some (.int .i64 wt) := hblk.cell 2
        have hlx := hblk.lt
        clear r2 r3 hbW B1 hblk c0 c1 c2 hbel
        cases h1 : noneTo fs nm k with
        | false =>
          have hb : Hid (fieldsB fs = false) := HNO.out (by rw [HFO.out, h1]; rfl)
          go_wp2
          go_ret
          exact ⟨ret_bool hb.out.symm, hbx⟩
        | true =>
          go_wp2_with fail
          refine (nameI_any nm _ (by unfold maxLen; omega)).mono ?_
          rintro e w3 ⟨rfl, rfl⟩
          cases h2 : nameI nm with
          | false =>
            have hb : Hid (fieldsB fs = false) := HNO.out (by rw [HFO.out, h1, h2]; rfl)
            go_wp2
            go_ret
            exact ⟨ret_bool hb.out.symm, hbx⟩
          | true =>
            go_wp2_with fail
            refine (weightOk_any nm kd wt _).mono ?_
            rintro e w4 ⟨rfl, hb4⟩
            have hbx4 : Below w.heap.size w w4 := hbx.trans (hb4.mono hbx.size)
            clear e0 e1 e2
            cases h3 : wOk kd wt with
            | false =>
              have hb : Hid (fieldsB fs = false) := HNO.out (by rw [HFO.out, h1, h2, h3]; rfl)
              go_wp2
              go_ret
              exact ⟨ret_bool hb.out.symm, hbx4⟩
            | true =>
              have HS : Hid (allTo (fldOk fs) (k + 1) = true) := allTo_snoc _ k HA.out (by rw [HFO.out, h1, h2, h3]; rfl)
              go_wp2
              go_roundw
              case rel => exact ⟨k + 1, by omega, by go_num, HS.out, hbx4⟩
              case measure => simp [intOf]; omega
    · have hkl : k = fs.length := by omega
      subst hkl
      have HB : Hid (fieldsB fs = true) := by unfold Hid fieldsB; rw [HA.out]; simp; omega
      clear hr hsm
      go_wp2
      go_ret
      exact ⟨ret_bool HB.out.symm, hbel⟩
end Go.Proofs.YtbifagdcnpnpjaaGreat

/- The cells of a row of fields. -/
namespace Go.Proofs.YtbifagdcnpnpjaaGreat
open Go.RowKit

theorem fldCells_snoc (fs : List Fld) (f : Fld) : fldCells (fs ++ [f]) = fldCells fs ++ [.string f.name, .int .i64 f.kind, .int .i64 f.weight] := by simp [fldCells, Fld.cells]
theorem fldCells_cons (f : Fld) (fs : List Fld) : fldCells (f :: fs) = .string f.name :: .int .i64 f.kind :: .int .i64 f.weight :: fldCells fs := by simp [fldCells, Fld.cells]
theorem fldTo_cells : ∀ fs : List Fld, FldTo (fldCells fs) fs fs.length
  | [], i, hi => absurd hi (by simp)
  | f :: fs, 0, _ => ⟨rfl, rfl, rfl⟩
  | f :: fs, i + 1, hi => by
    have h := fldTo_cells fs i (by simpa using hi)
    have e1 : (i + 1) * 3 = i * 3 + 1 + 1 + 1 := by omega
    rw [fldCells_cons, e1]
    exact h
theorem three_one (a : ByteArray) (x y : Int) : ∀ u ∈ [Value.string a, Value.int .i64 x, Value.int .i64 y], u.oneCell' = true := by
  intro u hu
  simp at hu
  rcases hu with rfl | rfl | rfl <;> rfl
theorem fldCells_len (fs : List Fld) : (fldCells fs).length = fs.length * 3 := by
  induction fs with
  | nil => rfl
  | cons f fs ih => rw [fldCells_cons]; simp [ih]; omega
theorem flds_one (fs : List Fld) : ∀ u ∈ fldCells fs, u.oneCell' = true := by
  intro u hu
  simp only [fldCells, List.mem_flatMap] at hu
  obtain ⟨f, _, hu⟩ := hu
  simp [Fld.cells] at hu
  rcases hu with rfl | rfl | rfl <;> rfl
theorem fldRow_cells {w : World} {g off : Nat} {fs : List Fld} (h : FldRow w (some ⟨g, off, none⟩) fs) : ∀ j u, (fldCells fs)[j]? = some u → w.cell? ((⟨g, off, none⟩ : Addr).add j) = some u := by
  intro j u hj
  have hlen : j < fs.length * 3 := by rw [← fldCells_len]; exact (List.getElem?_eq_some_iff.1 hj).1
  obtain ⟨g', off', e, hg, hc⟩ := h (by omega)
  cases e
  rw [addr_add]
  have hi : j / 3 < fs.length := by omega
  obtain ⟨q0, q1, q2⟩ := hc (j / 3) hi
  obtain ⟨p0, p1, p2⟩ := fldTo_cells fs (j / 3) hi
  rcases (show j = j / 3 * 3 ∨ j = j / 3 * 3 + 1 ∨ j = j / 3 * 3 + 2 from by omega) with e | e | e
  · rw [e, p0] at hj; rw [e, q0]; exact hj
  · rw [e, p1] at hj; rw [e, ← Nat.add_assoc, q1]; exact hj
  · rw [e, p2] at hj; rw [e, ← Nat.add_assoc, q2]; exact hj
end Go.Proofs.YtbifagdcnpnpjaaGreat

/- Slices of cells: how they are read, copied, measured, held against each other; documents. -/
namespace Go.Proofs.YtbifagdcnpnpjaaGreat
open Go.RowKit

structure Cel where
  name : ByteArray
  text : ByteArray
instance : Inhabited Cel := ⟨⟨⟨#[]⟩, ⟨#[]⟩⟩⟩
def cat (cs : List Cel) (i : Nat) : Cel := cs.getD i default
theorem cat_get (cs : List Cel) (k : Nat) (h : k < cs.length) : cat cs k = cs[k] := by unfold cat; rw [List.getD_eq_getElem?_getD, List.getElem?_eq_getElem h]; rfl
/-- A slice of cells, as it is read. -/
def CelRow (w : World) (a : Option Addr) (cs : List Cel) : Prop := 0 < cs.length → ∃ g off, a = some ⟨g, off, none⟩ ∧ g < w.heap.size ∧ ∀ i, i < cs.length →
  w.cell? ⟨g, off + i * 2, none⟩ = some (.string (cat cs i).name) ∧ w.cell? ⟨g, off + i * 2 + 1, none⟩ = some (.string (cat cs i).text)
theorem CelRow.below {w w' : World} {a : Option Addr} {cs : List Cel} (h : CelRow w a cs) (hb : Below w.heap.size w w') : CelRow w' a cs := fun hp => by
  obtain ⟨g, off, e, hg, hc⟩ := h hp
  refine ⟨g, off, e, by have := hb.size; omega, fun i hi => ?_⟩
  obtain ⟨c0, c1⟩ := hc i hi
  exact ⟨(hb.cell (p := ⟨g, off + i * 2, none⟩) hg).trans c0, (hb.cell (p := ⟨g, off + i * 2 + 1, none⟩) hg).trans c1⟩
theorem CelRow.set {w : World} {a : Option Addr} {cs : List Cel} (h : CelRow w a cs) {p : Addr} (hne : ∀ x, a = some x → x.block ≠ p.block) (v : Value) : CelRow (w.setCell p v) a cs := fun hp => by
  obtain ⟨g, off, e, hg, hc⟩ := h hp
  have hn : g ≠ p.block := hne _ e
  refine ⟨g, off, e, by simpa [World.setCell] using hg, fun i hi => ?_⟩
  obtain ⟨c0, c1⟩ := hc i hi
  exact ⟨(World.cell?_of_block (Below.heap_setCell _ _ _ _ hn)).trans c0, (World.cell?_of_block (Below.heap_setCell _ _ _ _ hn)).trans c1⟩
def CelsSmall (cs : List Cel) : Prop := ∀ i, i < cs.length → (cat cs i).name.size ≤ 1048576 ∧ (cat cs i).text.size ≤ 1048576

theorem toCell_any (n t : ByteArray) (w : World) :
    Calls Tryz.prog 102 #[.agg #[.string n, .string t]] w fun e w' => e = .returned (.agg #[.string n, .string t]) ∧ Below w.heap.size w w' := by
  go_enter Tryz.func102, Tryz.ntmps102
  go_wp2
  exact bodyPost_ret (v := .agg #[.string n, .string t]) (by simp [results, Tryz.results102, go_sem]) rfl ⟨rfl, (((Below.refl _ w).alloc (Nat.le_refl _) _).alloc (by simp) _).alloc (by simp; omega) _⟩

theorem infoCel : (Tryz.prog.info? 121).map (fun i => (i.zero, i.size, i.bytes)) = some (some (.agg #[.string ⟨#[]⟩, .string ⟨#[]⟩]), 2, 32) := by kernel_rfl
/-- The first k of a row's elements are these cells. -/
def CelTo (xs : List Value) (cs : List Cel) (k : Nat) : Prop := ∀ i, i < k → xs[i * 2]? = some (.string (cat cs i).name) ∧ xs[i * 2 + 1]? = some (.string (cat cs i).text)
theorem CelTo.set {xs : List Value} {cs : List Cel} {k : Nat} (h : CelTo xs cs k) (hk : k * 2 + 1 < xs.length) :
    CelTo ((xs.set (k * 2) (.string (cat cs k).name)).set (k * 2 + 1) (.string (cat cs k).text)) cs (k + 1) := by
  intro i hi
  by_cases e : i = k
  · subst e
    refine ⟨?_, ?_⟩
    · rw [List.getElem?_set_ne (by omega), List.getElem?_set_self (by omega)]
    · rw [List.getElem?_set_self (by simp; omega)]
  · obtain ⟨h0, h1⟩ := h i (by omega)
    refine ⟨?_, ?_⟩
    · rw [List.getElem?_set_ne (by omega), List.getElem?_set_ne (by omega)]; exact h0
    · rw [List.getElem?_set_ne (by omega), List.getElem?_set_ne (by omega)]; exact h1
theorem owns_celRow {w : World} {base : Nat} {e : TypeId} {v : Value} {cs : List Cel} {xs : List Value} (h : w.ownsRow base e 2 v cs.length xs) (ht : CelTo xs cs cs.length) :
    ∃ a cap, v = .slice a cs.length cap ∧ cs.length ≤ cap ∧ (a = none → cap = 0) ∧ (∀ x, a = some x → base ≤ x.block) ∧ CelRow w a cs := by
  have hx := h.1
  rcases h.2 with ⟨rfl, h0⟩ | ⟨g, cap, cur, rfl, hb, hg, hc, _⟩
  · exact ⟨none, 0, by rw [h0], by omega, fun _ => rfl, (fun _ e => by cases e), fun hp => by omega⟩
  · refine ⟨_, cap, rfl, hc, (fun h => by cases h), (fun x e => by cases e; exact hb), fun hp => ⟨g, 0, rfl, lt_of_block hg, fun i hi => ?_⟩⟩
    obtain ⟨h0, h1⟩ := ht i hi
    refine ⟨?_, ?_⟩
    · rw [Nat.zero_add, h.cellAt _ (by omega)]; exact h0
    · rw [Nat.zero_add, h.cellAt _ (by omega)]; exact h1

set_option maxHeartbeats 1000000 in
theorem toCellS_any (a : Option Addr) (cap : Nat) (cs : List Cel) (w : World) (hz : cs.length ≤ 1048576) (hr : CelRow w a cs) :
    Calls Tryz.prog 69 #[.slice a cs.length cap] w fun e w' => ∃ v xs, e = .returned v ∧ w'.ownsRow w.heap.size 121 2 v cs.length xs ∧ CelTo xs cs cs.length ∧ Below w.heap.size w w' := by
  obtain ⟨i0, hi, hz0, hz1, hz2⟩ := info_parts infoCel
  go_enter Tryz.func69, Tryz.ntmps69
  go_wp2_with (refine wpList_make_full _ rfl _ _ 37 rfl w.heap.size 121 i0 (.agg #[.string ⟨#[]⟩, .string ⟨#[]⟩]) 2 Tryz.underlying37 hi hz0 hz1 .i64 .i64 _ _ cs.length rfl rfl rfl rfl (by rw [hz2]; omega) (by unfold maxLen; omega) (Nat.le_refl _) ?_; intro w1 hown1 hgrow1)
  have hb1 : Below w.heap.size w w1 := (Below.refl _ w).grown hgrow1 (Nat.le_refl _) (fun j hj => by cases hj)
  generalize (madeCells (Value.agg #[.string ⟨#[]⟩, .string ⟨#[]⟩]).cells (cs.length * 2)).toList = x0 at hown1
  have HO : Hid (w1.ownsRow w.heap.size 121 2 (.slice (some ⟨w.heap.size, 0, none⟩) cs.length cs.length) cs.length x0) := hown1
  clear hown1 hgrow1
  go_wp2
  go_loopw [4] (fun i wr => ∃ (k : Nat) (xs : List Value), k ≤ cs.length ∧ i = .int .i64 k ∧ wr.ownsRow w.heap.size 121 2 (.slice (some ⟨w.heap.size, 0, none⟩) cs.length cs.length) cs.length xs ∧ CelTo xs cs k ∧ Below w.heap.size w wr) (fun i _ => cs.length - (intOf i).toNat)
  case atStart => exact ⟨0, x0, Nat.zero_le _, rfl, HO.out, fun i hi => by omega, hb1⟩
  case round =>
    clear HO
    obtain ⟨k, xs, hk, rfl, hown, hto, hbel⟩ := hrel
    by_cases hlt : k < cs.length
    · obtain ⟨g, off, rfl, hg, hc⟩ := (hr.below hbel) (by omega)
      obtain ⟨c0, c1⟩ := hc k hlt
      have hxl := hown.1
      have HN : Hid (CelTo ((xs.set (k * 2) (.string (cat cs k).name)).set (k * 2 + 1) (.string (cat cs k).text)) cs (k + 1)) := hto.set (by omega)
      generalize cat cs k = cl at *
      obtain ⟨nm, tx⟩ := cl
      simp only at c0 c1 HN
      have HOW : Hid (wr.ownsRow w.heap.size 121 2 (.slice (some ⟨w.heap.size, 0, none⟩) cs.length cs.length) cs.length xs) := hown
      clear hr hc hto hown
      go_wp2_with fail
      refine (toCell_any nm tx _).mono ?_
      rintro e w2 ⟨rfl, hb2⟩
      have ho2 := HOW.out.kept (grown_none hb2) (Classical.em _)
      obtain ⟨ho3, hg3⟩ := ho2.stored (k * 2) (.string nm)
      obtain ⟨ho4, hg4⟩ := ho3.stored (k * 2 + 1) (.string tx)
      have d0 := ho2.cellAt (k * 2) (by omega)
      have d1 := ho2.cellAt (k * 2 + 1) (by omega)
      rw [List.getElem?_eq_getElem (by omega)] at d0 d1
      have f0 := ho2.frozenAt (k * 2)
      have f1 := ho2.frozenAt (k * 2 + 1)
      generalize xs[k * 2] = o0 at d0
      generalize xs[k * 2 + 1] = o1 at d1
      have HB4 : Hid (Below w.heap.size w ((w2.setCell ⟨w.heap.size, k * 2, none⟩ (.string nm)).setCell ⟨w.heap.size, k * 2 + 1, none⟩ (.string tx))) :=
        ((hbel.trans (hb2.mono hbel.size)).setCell (Nat.le_refl _) _).setCell (Nat.le_refl _) _
      have HO4 : Hid (((w2.setCell ⟨w.heap.size, k * 2, none⟩ (.string nm)).setCell ⟨w.heap.size, k * 2 + 1, none⟩ (.string tx)).ownsRow w.heap.size 121 2 (.slice (some ⟨w.heap.size, 0, none⟩) cs.length cs.length) cs.length ((xs.set (k * 2) (.string nm)).set (k * 2 + 1) (.string tx))) := ho4
      clear ho2 ho3 ho4 hg3 hg4 HOW
      go_wp2
      go_roundw
      case rel => exact ⟨k + 1, _, by omega, by go_num, HO4.out, HN.out, HB4.out⟩
      case measure => simp [intOf]; omega
    · have hkl : k = cs.length := by omega
      subst hkl
      clear hr
      go_wp2
      go_ret
      exact ⟨_, xs, rfl, hown, hto, hbel⟩

theorem szCell_any (n t : ByteArray) (left : Int) (w : World) (hn : n.size ≤ maxLen) (ht : t.size ≤ maxLen) (h0 : 0 ≤ left) (h1 : left ≤ 1048576) :
    Calls Tryz.prog 101 #[.agg #[.string n, .string t], .int .i64 left] w fun e w' => ∃ r : Int, e = .returned (.int .i64 r) ∧ r ≤ left ∧ (0 ≤ r → (n.size : Int) ≤ left ∧ (t.size : Int) ≤ left) ∧ Below w.heap.size w w' := by
  unfold maxLen at hn ht
  by_cases hlt : left - (n.size : Int) < 0
  · go_enter Tryz.func101, Tryz.ntmps101
    go_wp2
    go_ret
    exact ⟨-1, rfl, by omega, fun h => by omega, (Below.refl _ w).alloc (Nat.le_refl _) _⟩
  · have hd : decide (left - (n.size : Int) < 0) = false := by simpa using hlt
    by_cases hlt2 : left - (n.size : Int) - (t.size : Int) < 0
    · go_enter Tryz.func101, Tryz.ntmps101
      go_wp2
      go_ret
      exact ⟨-1, rfl, by omega, fun h => by omega, (Below.refl _ w).alloc (Nat.le_refl _) _⟩
    · have hd2 : decide (left - (n.size : Int) - (t.size : Int) < 0) = false := by simpa using hlt2
      go_enter Tryz.func101, Tryz.ntmps101
      go_wp2
      go_ret
      exact ⟨left - n.size - t.size, rfl, by omega, fun h => by omega, (Below.refl _ w).alloc (Nat.le_refl _) _⟩

set_option maxHeartbeats 1000000 in
theorem szCellS_any (a : Option Addr) (cap : Nat) (cs : List Cel) (left0 : Int) (w : World) (h0 : 0 ≤ left0) (h1 : left0 ≤ 1048576) (hz : cs.length ≤ maxLen) (hsm : ∀ i, i < cs.length → (cat cs i).name.size ≤ maxLen ∧ (cat cs i).text.size ≤ maxLen) (hr : CelRow w a cs) :
    Calls Tryz.prog 67 #[.slice a cs.length cap, .int .i64 left0] w fun e w' => ∃ r : Int, e = .returned (.int .i64 r) ∧ r ≤ left0 ∧ (0 ≤ r → cs.length ≤ 1048576 ∧ CelsSmall cs) ∧ Below w.heap.size w w' := by
  unfold maxLen at hz
  by_cases hbig : left0 - (cs.length : Int) < 0
  · clear hr hsm
    go_enter Tryz.func67, Tryz.ntmps67
    go_wp2
    go_ret
    exact ⟨-1, rfl, by omega, fun h => by omega, Below.refl _ _⟩
  have hbd : decide (left0 - (cs.length : Int) < 0) = false := by simpa using hbig
  go_enter Tryz.func67, Tryz.ntmps67
  go_wp2
  go_loopw [1, 5] (fun l i wr => ∃ (k : Nat) (left : Int), k ≤ cs.length ∧ i = .int .i64 k ∧ l = .int .i64 left ∧ 0 ≤ left ∧ left ≤ left0 ∧ (∀ j, j < k → (cat cs j).name.size ≤ 1048576 ∧ (cat cs j).text.size ≤ 1048576) ∧ Below w.heap.size w wr) (fun _ i _ => cs.length - (intOf i).toNat)
  case atStart => exact ⟨0, left0 - cs.length, Nat.zero_le _, rfl, rfl, by omega, by omega, fun j hj => by omega, Below.refl _ _⟩
  case round =>
    obtain ⟨k, left, hk, rfl, rfl, hl0, hl1, hj, hbel⟩ := hrel
    have HJ : Hid (∀ j, j < k → (cat cs j).name.size ≤ 1048576 ∧ (cat cs j).text.size ≤ 1048576) := hj
    clear hj
    by_cases hlt : k < cs.length
    · have hkl : (k : Int) < (cs.length : Int) := by omega
      obtain ⟨g, off, rfl, hg, hc⟩ := (hr.below hbel) (by omega)
      obtain ⟨c0, c1⟩ := hc k hlt
      have hs := hsm k hlt
      have HJK : Hid ((cat cs k).name.size ≤ 1048576 ∧ (cat cs k).text.size ≤ 1048576 → ∀ j, j < k + 1 → (cat cs j).name.size ≤ 1048576 ∧ (cat cs j).text.size ≤ 1048576) := fun h j hj => by
        by_cases e : j = k
        · subst e; exact h
        · exact HJ.out j (by omega)
      generalize cat cs k = cl at *
      obtain ⟨nm, tx⟩ := cl
      simp only at c0 c1 hs HJK
      obtain ⟨hs1, hs2⟩ := hs
      clear hr hc hsm
      go_wp2_with fail
      refine (szCell_any nm tx left _ hs1 hs2 hl0 (by omega)).mono ?_
      rintro e w2 ⟨r, rfl, hr1, hr2, hb2⟩
      have hb3 := hbel.trans (hb2.mono hbel.size)
      clear c0 c1
      by_cases hneg : r < 0
      · go_wp2
        go_ret
        exact ⟨-1, rfl, by omega, fun h => by omega, hb3⟩
      · have hnd : decide (r < 0) = false := by simpa using hneg
        go_wp2
        go_roundw
        case rel => exact ⟨k + 1, r, by omega, by go_num, rfl, by omega, by omega, HJK.out (by have := hr2 (by omega); omega), hb3⟩
        case measure => simp [intOf]; omega
    · have hkl : k = cs.length := by omega
      subst hkl
      clear hr hsm
      go_wp2
      go_ret
      exact ⟨left, rfl, by omega, fun _ => ⟨by omega, HJ.out⟩, hbel⟩

theorem eqCell_same (n t : ByteArray) (w : World) :
    Calls Tryz.prog 100 #[.agg #[.string n, .string t], .agg #[.string n, .string t]] w fun e w' => e = .returned (.bool true) ∧ Below w.heap.size w w' := by
  go_enter Tryz.func100, Tryz.ntmps100
  go_wp2
  go_ret
  exact ⟨rfl, ((Below.refl _ w).alloc (Nat.le_refl _) _).alloc (by simp) _⟩

set_option maxHeartbeats 1000000 in
theorem eqCellS_same (a b : Option Addr) (ca cb : Nat) (cs : List Cel) (w : World) (hl : cs.length ≤ 1099511627) (ha : CelRow w a cs) (hb : CelRow w b cs) :
    Calls Tryz.prog 54 #[.slice a cs.length ca, .slice b cs.length cb] w fun e w' => e = .returned (.bool true) ∧ Below w.heap.size w w' := by
  go_enter Tryz.func54, Tryz.ntmps54
  go_wp2
  go_loopw [5] (fun i wr => ∃ k : Nat, k ≤ cs.length ∧ i = .int .i64 k ∧ Below w.heap.size w wr) (fun i _ => cs.length - (intOf i).toNat)
  case atStart => exact ⟨0, Nat.zero_le _, rfl, Below.refl _ _⟩
  case round =>
    obtain ⟨k, hk, rfl, hbel⟩ := hrel
    by_cases hlt : k < cs.length
    · obtain ⟨g1, o1, rfl, hg1, hc1⟩ := (ha.below hbel) (by omega)
      obtain ⟨g2, o2, rfl, hg2, hc2⟩ := (hb.below hbel) (by omega)
      obtain ⟨r0, r1⟩ := hc1 k hlt
      obtain ⟨s0, s1⟩ := hc2 k hlt
      clear ha hb hc1 hc2
      generalize cat cs k = cl at *
      obtain ⟨n, t⟩ := cl
      simp only at r0 r1 s0 s1
      go_wp2
      go_region_with (go_at_call 100; refine (eqCell_same n t _).mono ?_; rintro e w2 ⟨rfl, hb2d⟩; have hb2 : Below wr.heap.size wr w2 := ⟨hb2d.os, hb2d.tape, hb2d.output, hb2d.size, hb2d.block⟩; clear hb2d)
      all_goals
        go_wp2
        go_roundw
        case rel => exact ⟨k + 1, by omega, by go_num, hbel.trans (hb2.mono hbel.size)⟩
        case measure => simp [intOf]; omega
    · clear ha hb
      go_wp2
      go_ret
      exact ⟨rfl, hbel⟩

/-- A document, as it is handed on: its key, and where its cells lie. -/
def docV (key : ByteArray) (a : Option Addr) (n cap : Nat) : Value := .agg #[.string key, .slice a n cap]

theorem toDoc_any (key : ByteArray) (a : Option Addr) (cap : Nat) (cs : List Cel) (w : World) (hz : cs.length ≤ 1048576) (hr : CelRow w a cs) :
    Calls Tryz.prog 25 #[.agg #[.string key, .slice a cs.length cap]] w fun e w' => ∃ p c, e = .returned (.agg #[.string key, .slice p cs.length c]) ∧ cs.length ≤ c ∧ (p = none → c = 0) ∧ (∀ x, p = some x → w.heap.size ≤ x.block) ∧ CelRow w' p cs ∧ Below w.heap.size w w' := by
  have hb0 : Below w.heap.size w (((w.alloc (.cells #[.string key, .slice a cs.length cap] 50)).alloc (.cells #[.string ⟨#[]⟩, .slice none 0 0] 39)).alloc (.cells #[.string key, .slice none 0 0] 39)) := (((Below.refl _ w).alloc (Nat.le_refl _) _).alloc (by simp) _).alloc (by simp; omega) _
  have r0 := hr.below hb0
  clear hr
  have HB0 : Hid (Below w.heap.size w (((w.alloc (.cells #[.string key, .slice a cs.length cap] 50)).alloc (.cells #[.string ⟨#[]⟩, .slice none 0 0] 39)).alloc (.cells #[.string key, .slice none 0 0] 39))) := hb0
  clear hb0
  go_enter Tryz.func25, Tryz.ntmps25
  go_wp2_with fail
  refine (toCellS_any a cap cs _ hz r0).mono ?_
  rintro e w2 ⟨v, xs, rfl, ho, ht, hb2⟩
  obtain ⟨p, c, rfl, hc, hpn, hbb, hrow⟩ := owns_celRow ho ht
  have HBB : Hid (∀ x, p = some x → w.heap.size + 3 ≤ x.block) := fun x e => by have := hbb x e; simp at this; omega
  clear hbb
  obtain ⟨hcl, hfz⟩ := bcell hb2
  have hz2 : w.heap.size + 3 ≤ w2.heap.size := by have := hb2.size; simp at this; omega
  have hbw : Below w.heap.size w w2 := HB0.out.trans (hb2.mono (by simp; omega))
  clear HB0 ho ht r0 hb2
  have HR : Hid (CelRow w2 p cs) := hrow
  clear hrow
  go_wp2
  refine bodyPost_ret (v := .agg #[.string key, .slice p cs.length c]) (by simp [results, Tryz.results25, go_sem, hcl]) rfl ⟨p, c, rfl, hc, hpn, (fun x e => by have := HBB.out x e; omega), ?_, ?_⟩
  · exact ((HR.out.set (fun x e => by have := HBB.out x e; show x.block ≠ w.heap.size + 1 + 1; omega) _).set (fun x e => by have := HBB.out x e; show x.block ≠ w.heap.size + 1; omega) _).set (fun x e => by have := HBB.out x e; show x.block ≠ w.heap.size + 1; omega) _
  · exact ((hbw.setCell (by show w.heap.size ≤ w.heap.size + 1 + 1; omega) _).setCell (by show w.heap.size ≤ w.heap.size + 1; omega) _).setCell (by show w.heap.size ≤ w.heap.size + 1; omega) _

theorem szDoc_any (key : ByteArray) (a : Option Addr) (cap : Nat) (cs : List Cel) (w : World) (hk : key.size ≤ maxLen) (hz : cs.length ≤ maxLen) (hsm : ∀ i, i < cs.length → (cat cs i).name.size ≤ maxLen ∧ (cat cs i).text.size ≤ maxLen) (hr : CelRow w a cs) :
    Calls Tryz.prog 23 #[.agg #[.string key, .slice a cs.length cap], .int .i64 1048576] w fun e w' => ∃ r : Int, e = .returned (.int .i64 r) ∧ (0 ≤ r → key.size ≤ 1048576 ∧ cs.length ≤ 1048576 ∧ CelsSmall cs) ∧ Below w.heap.size w w' := by
  unfold maxLen at hk
  by_cases hlt : 1048576 - (key.size : Int) < 0
  · clear hr hsm
    go_enter Tryz.func23, Tryz.ntmps23
    go_wp2
    go_ret
    exact ⟨-1, rfl, fun h => by omega, (Below.refl _ w).alloc (Nat.le_refl _) _⟩
  · have hd : decide (1048576 - (key.size : Int) < 0) = false := by simpa using hlt
    have hb0 : Below w.heap.size w (w.alloc (.cells #[.string key, .slice a cs.length cap] 50)) := (Below.refl _ w).alloc (Nat.le_refl _) _
    have r0 := hr.below hb0
    clear hr
    go_enter Tryz.func23, Tryz.ntmps23
    go_wp2_with fail
    refine (szCellS_any a cap cs (1048576 - key.size) _ (by omega) (by omega) hz hsm r0).mono ?_
    rintro e w2 ⟨r, rfl, hr1, hr2, hb2⟩
    have hb3 : Below w.heap.size w w2 := hb0.trans (hb2.mono (by simp))
    clear r0 hsm
    by_cases hneg : r < 0
    · go_wp2
      go_ret
      exact ⟨-1, rfl, fun h => by omega, hb3⟩
    · have hnd : decide (r < 0) = false := by simpa using hneg
      go_wp2
      go_ret
      exact ⟨r, rfl, fun h => ⟨by omega, hr2 h⟩, hb3⟩

theorem eqDoc_same (key : ByteArray) (a b : Option Addr) (ca cb : Nat) (cs : List Cel) (w : World) (hl : cs.length ≤ 1099511627) (ha : CelRow w a cs) (hb : CelRow w b cs) :
    Calls Tryz.prog 16 #[.agg #[.string key, .slice a cs.length ca], .agg #[.string key, .slice b cs.length cb]] w fun e w' => e = .returned (.bool true) ∧ Below w.heap.size w w' := by
  have hb0 : Below w.heap.size w ((w.alloc (.cells #[.string key, .slice a cs.length ca] 39)).alloc (.cells #[.string key, .slice b cs.length cb] 39)) := ((Below.refl _ w).alloc (Nat.le_refl _) _).alloc (by simp) _
  have a0 := ha.below hb0
  have b0 := hb.below hb0
  clear ha hb
  go_enter Tryz.func16, Tryz.ntmps16
  go_wp2_with fail
  refine (eqCellS_same a b ca cb cs _ hl a0 b0).mono ?_
  rintro e w2 ⟨rfl, hb2⟩
  have hb3 : Below w.heap.size w w2 := hb0.trans (hb2.mono (by simp; omega))
  clear a0 b0
  go_wp2
  go_ret
  exact ⟨rfl, hb3⟩
end Go.Proofs.YtbifagdcnpnpjaaGreat

/- Rows of cells that a call owns: small facts. -/
namespace Go.Proofs.YtbifagdcnpnpjaaGreat
open Go.RowKit

/-- What lies in memory of cells. -/
def celCells (cs : List Cel) : List Value := cs.flatMap fun c => [.string c.name, .string c.text]
theorem celCells_snoc (cs : List Cel) (c : Cel) : celCells (cs ++ [c]) = celCells cs ++ [.string c.name, .string c.text] := by simp [celCells]
theorem celCells_cons (c : Cel) (cs : List Cel) : celCells (c :: cs) = .string c.name :: .string c.text :: celCells cs := by simp [celCells]
theorem celTo_cells : ∀ cs : List Cel, CelTo (celCells cs) cs cs.length
  | [], i, hi => absurd hi (by simp)
  | c :: cs, 0, _ => ⟨rfl, rfl⟩
  | c :: cs, i + 1, hi => by
    have h := celTo_cells cs i (by simpa using hi)
    have e1 : (i + 1) * 2 = i * 2 + 1 + 1 := by omega
    have e2 : (i + 1) * 2 + 1 = i * 2 + 1 + 1 + 1 := by omega
    rw [celCells_cons, e1]
    exact h
/-- Cells of small texts. -/
def CelsB (cs : List Cel) : Prop := ∀ c ∈ cs, c.name.size ≤ 1000 ∧ c.text.size ≤ 1000
theorem CelsB.snoc {cs : List Cel} (h : CelsB cs) {c : Cel} (h1 : c.name.size ≤ 1000) (h2 : c.text.size ≤ 1000) : CelsB (cs ++ [c]) := by
  intro x hx
  rcases List.mem_append.1 hx with hx | hx
  · exact h x hx
  · have : x = c := by simpa using hx
    subst this
    exact ⟨h1, h2⟩
theorem CelsB.small {cs : List Cel} (h : CelsB cs) : CelsSmall cs := by
  intro i hi
  have := h (cs[i]) (List.getElem_mem hi)
  rw [cat_get cs i hi]
  omega
theorem two_one (a b : ByteArray) : ∀ u ∈ [Value.string a, Value.string b], u.oneCell' = true := by
  intro u hu
  simp at hu
  rcases hu with rfl | rfl <;> rfl
theorem own_type {w : World} {B s n b : Nat} {e T : TypeId} {v : Value} {xs : List Value} {cs : Array Value} (hown : w.ownsRow B e s v n xs) (hb : Blk w b cs T) (hTe : T ≠ e) : v.ownBlock ≠ some b := by
  rcases hown.2 with ⟨rfl, _⟩ | ⟨g, cap, cur, rfl, _, hg, _⟩
  · simp [Value.ownBlock]
  · intro h
    simp only [Value.ownBlock, Option.some.injEq] at h
    subst h
    unfold Blk at hb
    rw [hg] at hb
    simp only [Option.some.injEq, Obj.cells.injEq] at hb
    exact hTe hb.2.1.symm
end Go.Proofs.YtbifagdcnpnpjaaGreat
