/- Slices of hints: how they are read, copied, measured, held against each other. -/
import Derived.Test.YtgmfaganaeibkaaDoorBase
import Derived.Test.YtgmfaganaeibkaaDoorBlk
import Derived.Deep.RegionWith
namespace Go.Proofs.YtgmfaganaeibkaaDoor
open Go.RowKit

structure Hn where
  text : ByteArray
  weight : Int
instance : Inhabited Hn := ⟨⟨⟨#[]⟩, 0⟩⟩
def hnat (cs : List Hn) (i : Nat) : Hn := cs.getD i default
theorem hnat_get (cs : List Hn) (k : Nat) (h : k < cs.length) : hnat cs k = cs[k] := by unfold hnat; rw [List.getD_eq_getElem?_getD, List.getElem?_eq_getElem h]; rfl
/-- A slice of cells, as it is read. -/
def HnRow (w : World) (a : Option Addr) (cs : List Hn) : Prop := 0 < cs.length → ∃ g off, a = some ⟨g, off, none⟩ ∧ g < w.heap.size ∧ ∀ i, i < cs.length →
  w.cell? ⟨g, off + i * 2, none⟩ = some (.string (hnat cs i).text) ∧ w.cell? ⟨g, off + i * 2 + 1, none⟩ = some (.int .i64 (hnat cs i).weight)
theorem HnRow.below {w w' : World} {a : Option Addr} {cs : List Hn} (h : HnRow w a cs) (hb : Below w.heap.size w w') : HnRow w' a cs := fun hp => by
  obtain ⟨g, off, e, hg, hc⟩ := h hp
  refine ⟨g, off, e, by have := hb.size; omega, fun i hi => ?_⟩
  obtain ⟨c0, c1⟩ := hc i hi
  exact ⟨(hb.cell (p := ⟨g, off + i * 2, none⟩) hg).trans c0, (hb.cell (p := ⟨g, off + i * 2 + 1, none⟩) hg).trans c1⟩
theorem HnRow.set {w : World} {a : Option Addr} {cs : List Hn} (h : HnRow w a cs) {p : Addr} (hne : ∀ x, a = some x → x.block ≠ p.block) (v : Value) : HnRow (w.setCell p v) a cs := fun hp => by
  obtain ⟨g, off, e, hg, hc⟩ := h hp
  have hn : g ≠ p.block := hne _ e
  refine ⟨g, off, e, by simpa [World.setCell] using hg, fun i hi => ?_⟩
  obtain ⟨c0, c1⟩ := hc i hi
  exact ⟨(World.cell?_of_block (Below.heap_setCell _ _ _ _ hn)).trans c0, (World.cell?_of_block (Below.heap_setCell _ _ _ _ hn)).trans c1⟩
def HnsSmall (cs : List Hn) : Prop := ∀ i, i < cs.length → (hnat cs i).text.size ≤ 1048576

theorem toHint_any (n : ByteArray) (t : Int) (w : World) :
    Calls Tryd.prog 47 #[.agg #[.string n, .int .i64 t]] w fun e w' => e = .returned (.agg #[.string n, .int .i64 t]) ∧ Below w.heap.size w w' := by
  go_enter Tryd.func47, Tryd.ntmps47
  go_wp2
  exact bodyPost_ret (v := .agg #[.string n, .int .i64 t]) (by simp [results, Tryd.results47, go_sem]) rfl ⟨rfl, (((Below.refl _ w).alloc (Nat.le_refl _) _).alloc (by simp) _).alloc (by simp; omega) _⟩

theorem infoHn : (Tryd.prog.info? 31).map (fun i => (i.zero, i.size, i.bytes)) = some (some (.agg #[.string ⟨#[]⟩, .int .i64 0]), 2, 24) := by kernel_rfl
/-- The first k of a row's elements are these cells. -/
def HnTo (xs : List Value) (cs : List Hn) (k : Nat) : Prop := ∀ i, i < k → xs[i * 2]? = some (.string (hnat cs i).text) ∧ xs[i * 2 + 1]? = some (.int .i64 (hnat cs i).weight)
theorem HnTo.set {xs : List Value} {cs : List Hn} {k : Nat} (h : HnTo xs cs k) (hk : k * 2 + 1 < xs.length) :
    HnTo ((xs.set (k * 2) (.string (hnat cs k).text)).set (k * 2 + 1) (.int .i64 (hnat cs k).weight)) cs (k + 1) := by
  intro i hi
  by_cases e : i = k
  · subst e
    refine ⟨?_, ?_⟩
    · rw [List.getElem?_set_ne (by omega), List.getElem?_set_self (by omega)]
    · rw [List.getElem?_set_self (by simp; omega)]
  · obtain ⟨h0, h1⟩ := h i (by omega)
    refine ⟨?_, ?_⟩
    · rw [List.getElem?_set_ne (by omega), List.getElem?_set_ne (by omega)]; exact h0
    · rw [List.getElem?_set_ne (by omega), List.getElem?_set_ne (by omega)]; exact h1
theorem owns_hnRow {w : World} {base : Nat} {e : TypeId} {v : Value} {cs : List Hn} {xs : List Value} (h : w.ownsRow base e 2 v cs.length xs) (ht : HnTo xs cs cs.length) :
    ∃ a cap, v = .slice a cs.length cap ∧ cs.length ≤ cap ∧ (a = none → cap = 0) ∧ (∀ x, a = some x → base ≤ x.block) ∧ HnRow w a cs := by
  have hx := h.1
  rcases h.2 with ⟨rfl, h0⟩ | ⟨g, cap, cur, rfl, hb, hg, hc, _⟩
  · exact ⟨none, 0, by rw [h0], by omega, fun _ => rfl, (fun _ e => by cases e), fun hp => by omega⟩
  · refine ⟨_, cap, rfl, hc, (fun h => by cases h), (fun x e => by cases e; exact hb), fun hp => ⟨g, 0, rfl, lt_of_block hg, fun i hi => ?_⟩⟩
    obtain ⟨h0, h1⟩ := ht i hi
    refine ⟨?_, ?_⟩
    · rw [Nat.zero_add, h.cellAt _ (by omega)]; exact h0
    · rw [Nat.zero_add, h.cellAt _ (by omega)]; exact h1

set_option maxHeartbeats 1000000 in
theorem toHintSX_any (a : Option Addr) (cap : Nat) (cs : List Hn) (w : World) (hz : cs.length ≤ 1048576) (hr : HnRow w a cs) :
    Calls Tryd.prog 21 #[.slice a cs.length cap] w fun e w' => ∃ xs, e = .returned (.slice (some ⟨w.heap.size, 0, none⟩) cs.length cs.length) ∧ w'.ownsRow w.heap.size 31 2 (.slice (some ⟨w.heap.size, 0, none⟩) cs.length cs.length) cs.length xs ∧ HnTo xs cs cs.length ∧ Below w.heap.size w w' := by
  obtain ⟨i0, hi, hz0, hz1, hz2⟩ := info_parts infoHn
  go_enter Tryd.func21, Tryd.ntmps21
  go_wp2_with (refine wpList_make_full _ rfl _ _ 23 rfl w.heap.size 31 i0 (.agg #[.string ⟨#[]⟩, .int .i64 0]) 2 Tryd.underlying23 hi hz0 hz1 .i64 .i64 _ _ cs.length rfl rfl rfl rfl (by rw [hz2]; omega) (by unfold maxLen; omega) (Nat.le_refl _) ?_; intro w1 hown1 hgrow1)
  have hb1 : Below w.heap.size w w1 := (Below.refl _ w).grown hgrow1 (Nat.le_refl _) (fun j hj => by cases hj)
  generalize (madeCells (Value.agg #[.string ⟨#[]⟩, .int .i64 0]).cells (cs.length * 2)).toList = x0 at hown1
  have HO : Hid (w1.ownsRow w.heap.size 31 2 (.slice (some ⟨w.heap.size, 0, none⟩) cs.length cs.length) cs.length x0) := hown1
  clear hown1 hgrow1
  go_wp2
  go_loopw [4] (fun i wr => ∃ (k : Nat) (xs : List Value), k ≤ cs.length ∧ i = .int .i64 k ∧ wr.ownsRow w.heap.size 31 2 (.slice (some ⟨w.heap.size, 0, none⟩) cs.length cs.length) cs.length xs ∧ HnTo xs cs k ∧ Below w.heap.size w wr) (fun i _ => cs.length - (intOf i).toNat)
  case atStart => exact ⟨0, x0, Nat.zero_le _, rfl, HO.out, fun i hi => by omega, hb1⟩
  case round =>
    clear HO
    obtain ⟨k, xs, hk, rfl, hown, hto, hbel⟩ := hrel
    by_cases hlt : k < cs.length
    · obtain ⟨g, off, rfl, hg, hc⟩ := (hr.below hbel) (by omega)
      obtain ⟨c0, c1⟩ := hc k hlt
      have hxl := hown.1
      have HN : Hid (HnTo ((xs.set (k * 2) (.string (hnat cs k).text)).set (k * 2 + 1) (.int .i64 (hnat cs k).weight)) cs (k + 1)) := hto.set (by omega)
      generalize hnat cs k = cl at *
      obtain ⟨nm, tx⟩ := cl
      simp only at c0 c1 HN
      have HOW : Hid (wr.ownsRow w.heap.size 31 2 (.slice (some ⟨w.heap.size, 0, none⟩) cs.length cs.length) cs.length xs) := hown
      clear hr hc hto hown
      go_wp2_with fail
      refine (toHint_any nm tx _).mono ?_
      rintro e w2 ⟨rfl, hb2⟩
      have ho2 := HOW.out.kept (grown_none hb2) (Classical.em _)
      obtain ⟨ho3, hg3⟩ := ho2.stored (k * 2) (.string nm)
      obtain ⟨ho4, hg4⟩ := ho3.stored (k * 2 + 1) (.int .i64 tx)
      have d0 := ho2.cellAt (k * 2) (by omega)
      have d1 := ho2.cellAt (k * 2 + 1) (by omega)
      rw [List.getElem?_eq_getElem (by omega)] at d0 d1
      have f0 := ho2.frozenAt (k * 2)
      have f1 := ho2.frozenAt (k * 2 + 1)
      generalize xs[k * 2] = o0 at d0
      generalize xs[k * 2 + 1] = o1 at d1
      have HB4 : Hid (Below w.heap.size w ((w2.setCell ⟨w.heap.size, k * 2, none⟩ (.string nm)).setCell ⟨w.heap.size, k * 2 + 1, none⟩ (.int .i64 tx))) :=
        ((hbel.trans (hb2.mono hbel.size)).setCell (Nat.le_refl _) _).setCell (Nat.le_refl _) _
      have HO4 : Hid (((w2.setCell ⟨w.heap.size, k * 2, none⟩ (.string nm)).setCell ⟨w.heap.size, k * 2 + 1, none⟩ (.int .i64 tx)).ownsRow w.heap.size 31 2 (.slice (some ⟨w.heap.size, 0, none⟩) cs.length cs.length) cs.length ((xs.set (k * 2) (.string nm)).set (k * 2 + 1) (.int .i64 tx))) := ho4
      clear ho2 ho3 ho4 hg3 hg4 HOW
      go_wp2
      go_roundw
      case rel => exact ⟨k + 1, _, by omega, by go_num, HO4.out, HN.out, HB4.out⟩
      case measure => simp [intOf]; omega
    · have hkl : k = cs.length := by omega
      subst hkl
      clear hr
      go_wp2
      go_ret
      exact ⟨xs, rfl, hown, hto, hbel⟩
theorem toHintS_any (a : Option Addr) (cap : Nat) (cs : List Hn) (w : World) (hz : cs.length ≤ 1048576) (hr : HnRow w a cs) :
    Calls Tryd.prog 21 #[.slice a cs.length cap] w fun e w' => ∃ v xs, e = .returned v ∧ w'.ownsRow w.heap.size 31 2 v cs.length xs ∧ HnTo xs cs cs.length ∧ Below w.heap.size w w' :=
  (toHintSX_any a cap cs w hz hr).mono fun _ _ ⟨xs, he, h⟩ => ⟨_, xs, he, h⟩

theorem szHint_any (n : ByteArray) (x : Int) (left : Int) (w : World) (hn : n.size ≤ maxLen) (h0 : 0 ≤ left) (h1 : left ≤ 1048576) :
    Calls Tryd.prog 46 #[.agg #[.string n, .int .i64 x], .int .i64 left] w fun e w' => ∃ r : Int, e = .returned (.int .i64 r) ∧ r ≤ left ∧ (0 ≤ r → (n.size : Int) ≤ left) ∧ Below w.heap.size w w' := by
  unfold maxLen at hn
  by_cases hlt : left - (n.size : Int) < 0
  · go_enter Tryd.func46, Tryd.ntmps46
    go_wp2
    go_ret
    exact ⟨-1, rfl, by omega, fun h => by omega, (Below.refl _ w).alloc (Nat.le_refl _) _⟩
  · have hd : decide (left - (n.size : Int) < 0) = false := by simpa using hlt
    go_enter Tryd.func46, Tryd.ntmps46
    go_wp2
    go_ret
    exact ⟨left - n.size, rfl, by omega, fun h => by omega, (Below.refl _ w).alloc (Nat.le_refl _) _⟩

set_option maxHeartbeats 1000000 in
theorem szHintS_any (a : Option Addr) (cap : Nat) (cs : List Hn) (w : World) (hz : cs.length ≤ maxLen) (hsm : ∀ i, i < cs.length → (hnat cs i).text.size ≤ maxLen) (hr : HnRow w a cs) :
    Calls Tryd.prog 20 #[.slice a cs.length cap, .int .i64 1048576] w fun e w' => ∃ r : Int, e = .returned (.int .i64 r) ∧ (0 ≤ r → cs.length ≤ 1048576 ∧ HnsSmall cs) ∧ Below w.heap.size w w' := by
  unfold maxLen at hz
  by_cases hbig : 1048576 - (cs.length : Int) < 0
  · clear hr hsm
    go_enter Tryd.func20, Tryd.ntmps20
    go_wp2
    go_ret
    exact ⟨-1, rfl, fun h => by omega, Below.refl _ _⟩
  have hbd : decide (1048576 - (cs.length : Int) < 0) = false := by simpa using hbig
  go_enter Tryd.func20, Tryd.ntmps20
  go_wp2
  go_loopw [1, 5] (fun l i wr => ∃ (k : Nat) (left : Int), k ≤ cs.length ∧ i = .int .i64 k ∧ l = .int .i64 left ∧ 0 ≤ left ∧ left ≤ 1048576 ∧ (∀ j, j < k → (hnat cs j).text.size ≤ 1048576) ∧ Below w.heap.size w wr) (fun _ i _ => cs.length - (intOf i).toNat)
  case atStart => exact ⟨0, 1048576 - cs.length, Nat.zero_le _, rfl, rfl, by omega, by omega, fun j hj => by omega, Below.refl _ _⟩
  case round =>
    obtain ⟨k, left, hk, rfl, rfl, hl0, hl1, hj, hbel⟩ := hrel
    have HJ : Hid (∀ j, j < k → (hnat cs j).text.size ≤ 1048576) := hj
    clear hj
    by_cases hlt : k < cs.length
    · have hkl : (k : Int) < (cs.length : Int) := by omega
      obtain ⟨g, off, rfl, hg, hc⟩ := (hr.below hbel) (by omega)
      obtain ⟨c0, c1⟩ := hc k hlt
      have hs := hsm k hlt
      have HJK : Hid ((hnat cs k).text.size ≤ 1048576 → ∀ j, j < k + 1 → (hnat cs j).text.size ≤ 1048576) := fun h j hj => by
        by_cases e : j = k
        · subst e; exact h
        · exact HJ.out j (by omega)
      generalize hnat cs k = fd at *
      obtain ⟨nm, wt⟩ := fd
      simp only at c0 c1 hs HJK
      clear hr hc hsm
      go_wp2_with fail
      refine (szHint_any nm wt left _ hs hl0 hl1).mono ?_
      rintro e w2 ⟨r, rfl, hr1, hr2, hb2⟩
      have hb3 := hbel.trans (hb2.mono hbel.size)
      clear c0 c1
      by_cases hneg : r < 0
      · go_wp2
        go_ret
        exact ⟨-1, rfl, fun h => by omega, hb3⟩
      · have hnd : decide (r < 0) = false := by simpa using hneg
        go_wp2
        go_roundw
        case rel => exact ⟨k + 1, r, by omega, by go_num, rfl, by omega, by omega, HJK.out (by have := hr2 (by omega); omega), hb3⟩
        case measure => simp [intOf]; omega
    · have hkl : k = cs.length := by omega
      subst hkl
      clear hr hsm
      go_wp2
      go_ret
      exact ⟨left, rfl, fun _ => ⟨by omega, HJ.out⟩, hbel⟩

theorem eqHint_same (t : ByteArray) (x : Int) (w : World) :
    Calls Tryd.prog 48 #[.agg #[.string t, .int .i64 x], .agg #[.string t, .int .i64 x]] w fun e w' => e = .returned (.bool true) ∧ Below w.heap.size w w' := by
  go_enter Tryd.func48, Tryd.ntmps48
  go_wp2
  go_ret
  exact ⟨rfl, ((Below.refl _ w).alloc (Nat.le_refl _) _).alloc (by simp) _⟩

set_option maxHeartbeats 1000000 in
theorem eqHintS_same (a b : Option Addr) (ca cb : Nat) (cs : List Hn) (w : World) (hl : cs.length ≤ 1099511627) (ha : HnRow w a cs) (hb : HnRow w b cs) :
    Calls Tryd.prog 22 #[.slice a cs.length ca, .slice b cs.length cb] w fun e w' => e = .returned (.bool true) ∧ Below w.heap.size w w' := by
  go_enter Tryd.func22, Tryd.ntmps22
  go_wp2
  go_loopw [5] (fun i wr => ∃ k : Nat, k ≤ cs.length ∧ i = .int .i64 k ∧ Below w.heap.size w wr) (fun i _ => cs.length - (intOf i).toNat)
  case atStart => exact ⟨0, Nat.zero_le _, rfl, Below.refl _ _⟩
  case round =>
    obtain ⟨k, hk, rfl, hbel⟩ := hrel
    by_cases hlt : k < cs.length
    · obtain ⟨g1, o1, rfl, hg1, hc1⟩ := (ha.below hbel) (by omega)
      obtain ⟨g2, o2, rfl, hg2, hc2⟩ := (hb.below hbel) (by omega)
      obtain ⟨r0, r1⟩ := hc1 k hlt
      obtain ⟨s0, s1⟩ := hc2 k hlt
      clear ha hb hc1 hc2
      generalize hnat cs k = fd at *
      obtain ⟨t, x⟩ := fd
      simp only at r0 r1 s0 s1
      go_wp2
      go_region_with (go_at_call 48; refine (eqHint_same t x _).mono ?_; rintro e w2 ⟨rfl, hb2d⟩; have hb2 : Below wr.heap.size wr w2 := ⟨hb2d.os, hb2d.tape, hb2d.output, hb2d.size, hb2d.block⟩; clear hb2d)
      all_goals
        go_wp2
        go_roundw
        case rel => exact ⟨k + 1, by omega, by go_num, hbel.trans (hb2.mono hbel.size)⟩
        case measure => simp [intOf]; omega
    · clear ha hb
      go_wp2
      go_ret
      exact ⟨rfl, hbel⟩
theorem toHintS2_any (a : Option Addr) (cap : Nat) (cs : List Hn) (w : World) (hz : cs.length ≤ 1048576) (hr : HnRow w a cs) :
    Calls Tryd.prog 21 #[.slice a cs.length cap] w fun e w' => ∃ p c, e = .returned (.slice p cs.length c) ∧ cs.length ≤ c ∧ HnRow w' p cs ∧ Below w.heap.size w w' := by
  refine (toHintS_any a cap cs w hz hr).mono ?_
  rintro e w' ⟨v, xs, rfl, ho, ht, hb⟩
  obtain ⟨p, c, rfl, hc, _, _, hrow⟩ := owns_hnRow ho ht
  exact ⟨p, c, rfl, hc, hrow, hb⟩
end Go.Proofs.YtgmfaganaeibkaaDoor
