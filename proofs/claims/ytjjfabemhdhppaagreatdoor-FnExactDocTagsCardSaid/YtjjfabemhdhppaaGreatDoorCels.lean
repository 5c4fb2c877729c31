/- Slices of cells: how they are read, copied, measured, held against each other; documents. -/
import Derived.Test.YtjjfabemhdhppaaGreatDoorBase
import Derived.Test.YtjjfabemhdhppaaGreatDoorBlk
namespace Go.Proofs.YtjjfabemhdhppaaGreatDoor
open Go.RowKit

structure Cel where
  name : ByteArray
  text : ByteArray
instance : Inhabited Cel := ⟨⟨⟨#[]⟩, ⟨#[]⟩⟩⟩
def cat (cs : List Cel) (i : Nat) : Cel := cs.getD i default
theorem cat_get (cs : List Cel) (k : Nat) (h : k < cs.length) : cat cs k = cs[k] := by unfold cat; rw [List.getD_eq_getElem?_getD, List.getElem?_eq_getElem h]; rfl
/-- A slice of cells, as it is read. -/
def CelRow (w : World) (a : Option Addr) (cs : List Cel) : Prop := 0 < cs.length → ∃ g off, a = some ⟨g, off, none⟩ ∧ g < w.heap.size ∧ ∀ i, i < cs.length →
  w.cell? ⟨g, off + i * 2, none⟩ = some (.string (cat cs i).name) ∧ w.cell? ⟨g, off + i * 2 + 1, none⟩ = some (.string (cat cs i).text)
theorem CelRow.below {w w' : World} {a : Option Addr} {cs : List Cel} (h : CelRow w a cs) (hb : Below w.heap.size w w') : CelRow w' a cs := fun hp => by
  obtain ⟨g, off, e, hg, hc⟩ := h hp
  refine ⟨g, off, e, by have := hb.size; omega, fun i hi => ?_⟩
  obtain ⟨c0, c1⟩ := hc i hi
  exact ⟨(hb.cell (p := ⟨g, off + i * 2, none⟩) hg).trans c0, (hb.cell (p := ⟨g, off + i * 2 + 1, none⟩) hg).trans c1⟩
theorem CelRow.set {w : World} {a : Option Addr} {cs : List Cel} (h : CelRow w a cs) {p : Addr} (hne : ∀ x, a = some x → x.block ≠ p.block) (v : Value) : CelRow (w.setCell p v) a cs := fun hp => by
  obtain ⟨g, off, e, hg, hc⟩ := h hp
  have hn : g ≠ p.block := hne _ e
  refine ⟨g, off, e, by simpa [World.setCell] using hg, fun i hi => ?_⟩
  obtain ⟨c0, c1⟩ := hc i hi
  exact ⟨(World.cell?_of_block (Below.heap_setCell _ _ _ _ hn)).trans c0, (World.cell?_of_block (Below.heap_setCell _ _ _ _ hn)).trans c1⟩
def CelsSmall (cs : List Cel) : Prop := ∀ i, i < cs.length → (cat cs i).name.size ≤ 1048576 ∧ (cat cs i).text.size ≤ 1048576

theorem toCell_any (n t : ByteArray) (w : World) :
    Calls Tryz.prog 38 #[.agg #[.string n, .string t]] w fun e w' => e = .returned (.agg #[.string n, .string t]) ∧ Below w.heap.size w w' := by
  go_enter Tryz.func38, Tryz.ntmps38
  go_wp2
  exact bodyPost_ret (v := .agg #[.string n, .string t]) (by simp [results, Tryz.results38, go_sem]) rfl ⟨rfl, (((Below.refl _ w).alloc (Nat.le_refl _) _).alloc (by simp) _).alloc (by simp; omega) _⟩

theorem infoCel : (Tryz.prog.info? 66).map (fun i => (i.zero, i.size, i.bytes)) = some (some (.agg #[.string ⟨#[]⟩, .string ⟨#[]⟩]), 2, 32) := by kernel_rfl
/-- The first k of a row's elements are these cells. -/
def CelTo (xs : List Value) (cs : List Cel) (k : Nat) : Prop := ∀ i, i < k → xs[i * 2]? = some (.string (cat cs i).name) ∧ xs[i * 2 + 1]? = some (.string (cat cs i).text)
theorem CelTo.set {xs : List Value} {cs : List Cel} {k : Nat} (h : CelTo xs cs k) (hk : k * 2 + 1 < xs.length) :
    CelTo ((xs.set (k * 2) (.string (cat cs k).name)).set (k * 2 + 1) (.string (cat cs k).text)) cs (k + 1) := by
  intro i hi
  by_cases e : i = k
  · subst e
    refine ⟨?_, ?_⟩
    · rw [List.getElem?_set_ne (by omega), List.getElem?_set_self (by omega)]
    · rw [List.getElem?_set_self (by simp; omega)]
  · obtain ⟨h0, h1⟩ := h i (by omega)
    refine ⟨?_, ?_⟩
    · rw [List.getElem?_set_ne (by omega), List.getElem?_set_ne (by omega)]; exact h0
    · rw [List.getElem?_set_ne (by omega), List.getElem?_set_ne (by omega)]; exact h1
theorem owns_celRow {w : World} {base : Nat} {e : TypeId} {v : Value} {cs : List Cel} {xs : List Value} (h : w.ownsRow base e 2 v cs.length xs) (ht : CelTo xs cs cs.length) :
    ∃ a cap, v = .slice a cs.length cap ∧ cs.length ≤ cap ∧ (a = none → cap = 0) ∧ (∀ x, a = some x → base ≤ x.block) ∧ CelRow w a cs := by
  have hx := h.1
  rcases h.2 with ⟨rfl, h0⟩ | ⟨g, cap, cur, rfl, hb, hg, hc, _⟩
  · exact ⟨none, 0, by rw [h0], by omega, fun _ => rfl, (fun _ e => by cases e), fun hp => by omega⟩
  · refine ⟨_, cap, rfl, hc, (fun h => by cases h), (fun x e => by cases e; exact hb), fun hp => ⟨g, 0, rfl, lt_of_block hg, fun i hi => ?_⟩⟩
    obtain ⟨h0, h1⟩ := ht i hi
    refine ⟨?_, ?_⟩
    · rw [Nat.zero_add, h.cellAt _ (by omega)]; exact h0
    · rw [Nat.zero_add, h.cellAt _ (by omega)]; exact h1

set_option maxHeartbeats 1000000 in
theorem toCellS_any (a : Option Addr) (cap : Nat) (cs : List Cel) (w : World) (hz : cs.length ≤ 1048576) (hr : CelRow w a cs) :
    Calls Tryz.prog 24 #[.slice a cs.length cap] w fun e w' => ∃ v xs, e = .returned v ∧ w'.ownsRow w.heap.size 66 2 v cs.length xs ∧ CelTo xs cs cs.length ∧ Below w.heap.size w w' := by
  obtain ⟨i0, hi, hz0, hz1, hz2⟩ := info_parts infoCel
  go_enter Tryz.func24, Tryz.ntmps24
  go_wp2_with (refine wpList_make_full _ rfl _ _ 32 rfl w.heap.size 66 i0 (.agg #[.string ⟨#[]⟩, .string ⟨#[]⟩]) 2 Tryz.underlying32 hi hz0 hz1 .i64 .i64 _ _ cs.length rfl rfl rfl rfl (by rw [hz2]; omega) (by unfold maxLen; omega) (Nat.le_refl _) ?_; intro w1 hown1 hgrow1)
  have hb1 : Below w.heap.size w w1 := (Below.refl _ w).grown hgrow1 (Nat.le_refl _) (fun j hj => by cases hj)
  generalize (madeCells (Value.agg #[.string ⟨#[]⟩, .string ⟨#[]⟩]).cells (cs.length * 2)).toList = x0 at hown1
  have HO : Hid (w1.ownsRow w.heap.size 66 2 (.slice (some ⟨w.heap.size, 0, none⟩) cs.length cs.length) cs.length x0) := hown1
  clear hown1 hgrow1
  go_wp2
  go_loopw [4] (fun i wr => ∃ (k : Nat) (xs : List Value), k ≤ cs.length ∧ i = .int .i64 k ∧ wr.ownsRow w.heap.size 66 2 (.slice (some ⟨w.heap.size, 0, none⟩) cs.length cs.length) cs.length xs ∧ CelTo xs cs k ∧ Below w.heap.size w wr) (fun i _ => cs.length - (intOf i).toNat)
  case atStart => exact ⟨0, x0, Nat.zero_le _, rfl, HO.out, fun i hi => by omega, hb1⟩
  case round =>
    clear HO
    obtain ⟨k, xs, hk, rfl, hown, hto, hbel⟩ := hrel
    by_cases hlt : k < cs.length
    · obtain ⟨g, off, rfl, hg, hc⟩ := (hr.below hbel) (by omega)
      obtain ⟨c0, c1⟩ := hc k hlt
      have hxl := hown.1
      have HN : Hid (CelTo ((xs.set (k * 2) (.string (cat cs k).name)).set (k * 2 + 1) (.string (cat cs k).text)) cs (k + 1)) := hto.set (by omega)
      generalize cat cs k = cl at *
      obtain ⟨nm, tx⟩ := cl
      simp only at c0 c1 HN
      have HOW : Hid (wr.ownsRow w.heap.size 66 2 (.slice (some ⟨w.heap.size, 0, none⟩) cs.length cs.length) cs.length xs) := hown
      clear hr hc hto hown
      go_wp2_with fail
      refine (toCell_any nm tx _).mono ?_
      rintro e w2 ⟨rfl, hb2⟩
      have ho2 := HOW.out.kept (grown_none hb2) (Classical.em _)
      obtain ⟨ho3, hg3⟩ := ho2.stored (k * 2) (.string nm)
      obtain ⟨ho4, hg4⟩ := ho3.stored (k * 2 + 1) (.string tx)
      have d0 := ho2.cellAt (k * 2) (by omega)
      have d1 := ho2.cellAt (k * 2 + 1) (by omega)
      rw [List.getElem?_eq_getElem (by omega)] at d0 d1
      have f0 := ho2.frozenAt (k * 2)
      have f1 := ho2.frozenAt (k * 2 + 1)
      generalize xs[k * 2] = o0 at d0
      generalize xs[k * 2 + 1] = o1 at d1
      have HB4 : Hid (Below w.heap.size w ((w2.setCell ⟨w.heap.size, k * 2, none⟩ (.string nm)).setCell ⟨w.heap.size, k * 2 + 1, none⟩ (.string tx))) :=
        ((hbel.trans (hb2.mono hbel.size)).setCell (Nat.le_refl _) _).setCell (Nat.le_refl _) _
      have HO4 : Hid (((w2.setCell ⟨w.heap.size, k * 2, none⟩ (.string nm)).setCell ⟨w.heap.size, k * 2 + 1, none⟩ (.string tx)).ownsRow w.heap.size 66 2 (.slice (some ⟨w.heap.size, 0, none⟩) cs.length cs.length) cs.length ((xs.set (k * 2) (.string nm)).set (k * 2 + 1) (.string tx))) := ho4
      clear ho2 ho3 ho4 hg3 hg4 HOW
      go_wp2
      go_roundw
      case rel => exact ⟨k + 1, _, by omega, by go_num, HO4.out, HN.out, HB4.out⟩
      case measure => simp [intOf]; omega
    · have hkl : k = cs.length := by omega
      subst hkl
      clear hr
      go_wp2
      go_ret
      exact ⟨_, xs, rfl, hown, hto, hbel⟩

theorem szCell_any (n t : ByteArray) (left : Int) (w : World) (hn : n.size ≤ maxLen) (ht : t.size ≤ maxLen) (h0 : 0 ≤ left) (h1 : left ≤ 1048576) :
    Calls Tryz.prog 30 #[.agg #[.string n, .string t], .int .i64 left] w fun e w' => ∃ r : Int, e = .returned (.int .i64 r) ∧ r ≤ left ∧ (0 ≤ r → (n.size : Int) ≤ left ∧ (t.size : Int) ≤ left) ∧ Below w.heap.size w w' := by
  unfold maxLen at hn ht
  by_cases hlt : left - (n.size : Int) < 0
  · go_enter Tryz.func30, Tryz.ntmps30
    go_wp2
    go_ret
    exact ⟨-1, rfl, by omega, fun h => by omega, (Below.refl _ w).alloc (Nat.le_refl _) _⟩
  · have hd : decide (left - (n.size : Int) < 0) = false := by simpa using hlt
    by_cases hlt2 : left - (n.size : Int) - (t.size : Int) < 0
    · go_enter Tryz.func30, Tryz.ntmps30
      go_wp2
      go_ret
      exact ⟨-1, rfl, by omega, fun h => by omega, (Below.refl _ w).alloc (Nat.le_refl _) _⟩
    · have hd2 : decide (left - (n.size : Int) - (t.size : Int) < 0) = false := by simpa using hlt2
      go_enter Tryz.func30, Tryz.ntmps30
      go_wp2
      go_ret
      exact ⟨left - n.size - t.size, rfl, by omega, fun h => by omega, (Below.refl _ w).alloc (Nat.le_refl _) _⟩

set_option maxHeartbeats 1000000 in
theorem szCellS_any (a : Option Addr) (cap : Nat) (cs : List Cel) (left0 : Int) (w : World) (h0 : 0 ≤ left0) (h1 : left0 ≤ 1048576) (hz : cs.length ≤ maxLen) (hsm : ∀ i, i < cs.length → (cat cs i).name.size ≤ maxLen ∧ (cat cs i).text.size ≤ maxLen) (hr : CelRow w a cs) :
    Calls Tryz.prog 18 #[.slice a cs.length cap, .int .i64 left0] w fun e w' => ∃ r : Int, e = .returned (.int .i64 r) ∧ r ≤ left0 ∧ (0 ≤ r → cs.length ≤ 1048576 ∧ CelsSmall cs) ∧ Below w.heap.size w w' := by
  unfold maxLen at hz
  by_cases hbig : left0 - (cs.length : Int) < 0
  · clear hr hsm
    go_enter Tryz.func18, Tryz.ntmps18
    go_wp2
    go_ret
    exact ⟨-1, rfl, by omega, fun h => by omega, Below.refl _ _⟩
  have hbd : decide (left0 - (cs.length : Int) < 0) = false := by simpa using hbig
  go_enter Tryz.func18, Tryz.ntmps18
  go_wp2
  go_loopw [1, 5] (fun l i wr => ∃ (k : Nat) (left : Int), k ≤ cs.length ∧ i = .int .i64 k ∧ l = .int .i64 left ∧ 0 ≤ left ∧ left ≤ left0 ∧ (∀ j, j < k → (cat cs j).name.size ≤ 1048576 ∧ (cat cs j).text.size ≤ 1048576) ∧ Below w.heap.size w wr) (fun _ i _ => cs.length - (intOf i).toNat)
  case atStart => exact ⟨0, left0 - cs.length, Nat.zero_le _, rfl, rfl, by omega, by omega, fun j hj => by omega, Below.refl _ _⟩
  case round =>
    obtain ⟨k, left, hk, rfl, rfl, hl0, hl1, hj, hbel⟩ := hrel
    have HJ : Hid (∀ j, j < k → (cat cs j).name.size ≤ 1048576 ∧ (cat cs j).text.size ≤ 1048576) := hj
    clear hj
    by_cases hlt : k < cs.length
    · have hkl : (k : Int) < (cs.length : Int) := by omega
      obtain ⟨g, off, rfl, hg, hc⟩ := (hr.below hbel) (by omega)
      obtain ⟨c0, c1⟩ := hc k hlt
      have hs := hsm k hlt
      have HJK : Hid ((cat cs k).name.size ≤ 1048576 ∧ (cat cs k).text.size ≤ 1048576 → ∀ j, j < k + 1 → (cat cs j).name.size ≤ 1048576 ∧ (cat cs j).text.size ≤ 1048576) := fun h j hj => by
        by_cases e : j = k
        · subst e; exact h
        · exact HJ.out j (by omega)
      generalize cat cs k = cl at *
      obtain ⟨nm, tx⟩ := cl
      simp only at c0 c1 hs HJK
      obtain ⟨hs1, hs2⟩ := hs
      clear hr hc hsm
      go_wp2_with fail
      refine (szCell_any nm tx left _ hs1 hs2 hl0 (by omega)).mono ?_
      rintro e w2 ⟨r, rfl, hr1, hr2, hb2⟩
      have hb3 := hbel.trans (hb2.mono hbel.size)
      clear c0 c1
      by_cases hneg : r < 0
      · go_wp2
        go_ret
        exact ⟨-1, rfl, by omega, fun h => by omega, hb3⟩
      · have hnd : decide (r < 0) = false := by simpa using hneg
        go_wp2
        go_roundw
        case rel => exact ⟨k + 1, r, by omega, by go_num, rfl, by omega, by omega, HJK.out (by have := hr2 (by omega); omega), hb3⟩
        case measure => simp [intOf]; omega
    · have hkl : k = cs.length := by omega
      subst hkl
      clear hr hsm
      go_wp2
      go_ret
      exact ⟨left, rfl, by omega, fun _ => ⟨by omega, HJ.out⟩, hbel⟩

theorem eqCell_same (n t : ByteArray) (w : World) :
    Calls Tryz.prog 44 #[.agg #[.string n, .string t], .agg #[.string n, .string t]] w fun e w' => e = .returned (.bool true) ∧ Below w.heap.size w w' := by
  go_enter Tryz.func44, Tryz.ntmps44
  go_wp2
  go_ret
  exact ⟨rfl, ((Below.refl _ w).alloc (Nat.le_refl _) _).alloc (by simp) _⟩

set_option maxHeartbeats 1000000 in
theorem eqCellS_same (a b : Option Addr) (ca cb : Nat) (cs : List Cel) (w : World) (hl : cs.length ≤ 1099511627) (ha : CelRow w a cs) (hb : CelRow w b cs) :
    Calls Tryz.prog 27 #[.slice a cs.length ca, .slice b cs.length cb] w fun e w' => e = .returned (.bool true) ∧ Below w.heap.size w w' := by
  go_enter Tryz.func27, Tryz.ntmps27
  go_wp2
  go_loopw [5] (fun i wr => ∃ k : Nat, k ≤ cs.length ∧ i = .int .i64 k ∧ Below w.heap.size w wr) (fun i _ => cs.length - (intOf i).toNat)
  case atStart => exact ⟨0, Nat.zero_le _, rfl, Below.refl _ _⟩
  case round =>
    obtain ⟨k, hk, rfl, hbel⟩ := hrel
    by_cases hlt : k < cs.length
    · obtain ⟨g1, o1, rfl, hg1, hc1⟩ := (ha.below hbel) (by omega)
      obtain ⟨g2, o2, rfl, hg2, hc2⟩ := (hb.below hbel) (by omega)
      obtain ⟨r0, r1⟩ := hc1 k hlt
      obtain ⟨s0, s1⟩ := hc2 k hlt
      clear ha hb hc1 hc2
      generalize cat cs k = cl at *
      obtain ⟨n, t⟩ := cl
      simp only at r0 r1 s0 s1
      go_wp2
      go_region_with (go_at_call 44; refine (eqCell_same n t _).mono ?_; rintro e w2 ⟨rfl, hb2d⟩; have hb2 : Below wr.heap.size wr w2 := ⟨hb2d.os, hb2d.tape, hb2d.output, hb2d.size, hb2d.block⟩; clear hb2d)
      all_goals
        go_wp2
        go_roundw
        case rel => exact ⟨k + 1, by omega, by go_num, hbel.trans (hb2.mono hbel.size)⟩
        case measure => simp [intOf]; omega
    · clear ha hb
      go_wp2
      go_ret
      exact ⟨rfl, hbel⟩

/-- A document, as it is handed on: its key, and where its cells lie. -/
def docV (key : ByteArray) (a : Option Addr) (n cap : Nat) : Value := .agg #[.string key, .slice a n cap]

theorem toDoc_any (key : ByteArray) (a : Option Addr) (cap : Nat) (cs : List Cel) (w : World) (hz : cs.length ≤ 1048576) (hr : CelRow w a cs) :
    Calls Tryz.prog 8 #[.agg #[.string key, .slice a cs.length cap]] w fun e w' => ∃ p c, e = .returned (.agg #[.string key, .slice p cs.length c]) ∧ cs.length ≤ c ∧ (p = none → c = 0) ∧ (∀ x, p = some x → w.heap.size ≤ x.block) ∧ CelRow w' p cs ∧ Below w.heap.size w w' := by
  have hb0 : Below w.heap.size w (((w.alloc (.cells #[.string key, .slice a cs.length cap] 25)).alloc (.cells #[.string ⟨#[]⟩, .slice none 0 0] 34)).alloc (.cells #[.string key, .slice none 0 0] 34)) := (((Below.refl _ w).alloc (Nat.le_refl _) _).alloc (by simp) _).alloc (by simp; omega) _
  have r0 := hr.below hb0
  clear hr
  have HB0 : Hid (Below w.heap.size w (((w.alloc (.cells #[.string key, .slice a cs.length cap] 25)).alloc (.cells #[.string ⟨#[]⟩, .slice none 0 0] 34)).alloc (.cells #[.string key, .slice none 0 0] 34))) := hb0
  clear hb0
  go_enter Tryz.func8, Tryz.ntmps8
  go_wp2_with fail
  refine (toCellS_any a cap cs _ hz r0).mono ?_
  rintro e w2 ⟨v, xs, rfl, ho, ht, hb2⟩
  obtain ⟨p, c, rfl, hc, hpn, hbb, hrow⟩ := owns_celRow ho ht
  have HBB : Hid (∀ x, p = some x → w.heap.size + 3 ≤ x.block) := fun x e => by have := hbb x e; simp at this; omega
  clear hbb
  obtain ⟨hcl, hfz⟩ := bcell hb2
  have hz2 : w.heap.size + 3 ≤ w2.heap.size := by have := hb2.size; simp at this; omega
  have hbw : Below w.heap.size w w2 := HB0.out.trans (hb2.mono (by simp; omega))
  clear HB0 ho ht r0 hb2
  have HR : Hid (CelRow w2 p cs) := hrow
  clear hrow
  go_wp2
  refine bodyPost_ret (v := .agg #[.string key, .slice p cs.length c]) (by simp [results, Tryz.results8, go_sem, hcl]) rfl ⟨p, c, rfl, hc, hpn, (fun x e => by have := HBB.out x e; omega), ?_, ?_⟩
  · exact ((HR.out.set (fun x e => by have := HBB.out x e; show x.block ≠ w.heap.size + 1 + 1; omega) _).set (fun x e => by have := HBB.out x e; show x.block ≠ w.heap.size + 1; omega) _).set (fun x e => by have := HBB.out x e; show x.block ≠ w.heap.size + 1; omega) _
  · exact ((hbw.setCell (by show w.heap.size ≤ w.heap.size + 1 + 1; omega) _).setCell (by show w.heap.size ≤ w.heap.size + 1; omega) _).setCell (by show w.heap.size ≤ w.heap.size + 1; omega) _

theorem szDoc_any (key : ByteArray) (a : Option Addr) (cap : Nat) (cs : List Cel) (w : World) (hk : key.size ≤ maxLen) (hz : cs.length ≤ maxLen) (hsm : ∀ i, i < cs.length → (cat cs i).name.size ≤ maxLen ∧ (cat cs i).text.size ≤ maxLen) (hr : CelRow w a cs) :
    Calls Tryz.prog 5 #[.agg #[.string key, .slice a cs.length cap], .int .i64 1048576] w fun e w' => ∃ r : Int, e = .returned (.int .i64 r) ∧ (0 ≤ r → key.size ≤ 1048576 ∧ cs.length ≤ 1048576 ∧ CelsSmall cs) ∧ Below w.heap.size w w' := by
  unfold maxLen at hk
  by_cases hlt : 1048576 - (key.size : Int) < 0
  · clear hr hsm
    go_enter Tryz.func5, Tryz.ntmps5
    go_wp2
    go_ret
    exact ⟨-1, rfl, fun h => by omega, (Below.refl _ w).alloc (Nat.le_refl _) _⟩
  · have hd : decide (1048576 - (key.size : Int) < 0) = false := by simpa using hlt
    have hb0 : Below w.heap.size w (w.alloc (.cells #[.string key, .slice a cs.length cap] 25)) := (Below.refl _ w).alloc (Nat.le_refl _) _
    have r0 := hr.below hb0
    clear hr
    go_enter Tryz.func5, Tryz.ntmps5
    go_wp2_with fail
    refine (szCellS_any a cap cs (1048576 - key.size) _ (by omega) (by omega) hz hsm r0).mono ?_
    rintro e w2 ⟨r, rfl, hr1, hr2, hb2⟩
    have hb3 : Below w.heap.size w w2 := hb0.trans (hb2.mono (by simp))
    clear r0 hsm
    by_cases hneg : r < 0
    · go_wp2
      go_ret
      exact ⟨-1, rfl, fun h => by omega, hb3⟩
    · have hnd : decide (r < 0) = false := by simpa using hneg
      go_wp2
      go_ret
      exact ⟨r, rfl, fun h => ⟨by omega, hr2 h⟩, hb3⟩

theorem eqDoc_same (key : ByteArray) (a b : Option Addr) (ca cb : Nat) (cs : List Cel) (w : World) (hl : cs.length ≤ 1099511627) (ha : CelRow w a cs) (hb : CelRow w b cs) :
    Calls Tryz.prog 12 #[.agg #[.string key, .slice a cs.length ca], .agg #[.string key, .slice b cs.length cb]] w fun e w' => e = .returned (.bool true) ∧ Below w.heap.size w w' := by
  have hb0 : Below w.heap.size w ((w.alloc (.cells #[.string key, .slice a cs.length ca] 34)).alloc (.cells #[.string key, .slice b cs.length cb] 34)) := ((Below.refl _ w).alloc (Nat.le_refl _) _).alloc (by simp) _
  have a0 := ha.below hb0
  have b0 := hb.below hb0
  clear ha hb
  go_enter Tryz.func12, Tryz.ntmps12
  go_wp2_with fail
  refine (eqCellS_same a b ca cb cs _ hl a0 b0).mono ?_
  rintro e w2 ⟨rfl, hb2⟩
  have hb3 : Below w.heap.size w w2 := hb0.trans (hb2.mono (by simp; omega))
  clear a0 b0
  go_wp2
  go_ret
  exact ⟨rfl, hb3⟩
end Go.Proofs.YtjjfabemhdhppaaGreatDoor
