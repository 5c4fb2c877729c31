/- The walk of the law FnDocText. -/
import Derived.Test.YtmhdmoabomlhjaaDrawDoc3
import Derived.Test.YtmhdmoabomlhjaaDocText
import Derived.Deep.RegionLaw
import Derived.Deep.AppendLies
namespace Go.Proofs.Ytmhdmoabomlhjaa
open Go.RowKit

/-- What the draw of a document and a name gives. -/
def DrawsDocText : Prop := ∀ (a : Option Addr) (len cap : Nat) (w : World), BytesIn w a len cap →
    Calls Try.prog 10 #[.slice a len cap] w fun e w' => ∃ (key n : ByteArray) (v : Value) (cs : List Cel), e = .returned (.tuple #[.agg #[.string key, v], .string n]) ∧ cs.length ≤ 5 ∧ CelsB cs ∧ w'.ownsRow w.heap.size 31 2 v cs.length (celCells cs) ∧ Below w.heap.size w w'
theorem docH_any (cs : List Cel) (n : ByteArray) : docH cs n = cs.any (isC n) := by
  unfold docH
  induction cs with
  | nil => rfl
  | cons c cs ih =>
    rw [List.find?_cons, List.any_cons]
    cases isC n c <;> simp [ih]
theorem docH_none {us : List Cel} {n : ByteArray} (h : ∀ c ∈ us, isC n c = false) : docH us n = false := by
  rw [docH_any]
  induction us with
  | nil => rfl
  | cons c us ih => rw [List.any_cons, h c (by simp), ih (fun x hx => h x (by simp [hx]))]; rfl
theorem take_any (cs : List Cel) (n : ByteArray) (k : Nat) (hk : k < cs.length) : (cs.take (k + 1)).any (isC n) = ((cs.take k).any (isC n) || isC n (cat cs k)) := by
  rw [List.take_add_one, List.any_append, List.getElem?_eq_getElem hk, cat_get cs k hk]
  simp only [Option.toList_some, List.any_cons, List.any_nil, Bool.or_false]

set_option maxHeartbeats 4000000 in
set_option maxRecDepth 100000 in
theorem wFnDocText0 (hD : DrawsDocText) (a0 : Option Addr) (len0 cap0 : Nat) (w : World) (b0 : BytesIn w a0 len0 cap0) :
    Calls Try.prog 3 #[.slice a0 len0 cap0] w fun e w' => e = .returned (.bool true) ∧ Below w.heap.size w w' := by
  obtain ⟨i0, hi, hz0, hz1, hz2⟩ := info_parts infoCel
  have m0 := b0.le
  have m1 := b0.max
  unfold maxLen at m1
  by_cases hbig : 1048576 < (len0 : Int)
  · clear b0
    go_enter Try.func3, Try.ntmps3
    go_wp2
    go_ret
    exact ⟨rfl, Below.refl _ _⟩
  go_enter Try.func3, Try.ntmps3
  go_wp2_with fail
  refine (hD a0 len0 cap0 _ b0).mono ?_
  rintro e u1 ⟨key, n, v, cs, rfl, hcs, hcb, hown, hb1⟩
  obtain ⟨av, cv, rfl, -, -, -, hrow⟩ := owns_celRow hown (celTo_cells cs)
  have hA : Below u1.heap.size u1 (u1.alloc (.cells #[.string key, .slice av cs.length cv] 25)) := (Below.refl _ _).alloc (Nat.le_refl _) _
  have B2 := Blk.new u1 #[.string key, .slice av cs.length cv] 25
  have r2 := hrow.below hA
  have hw2 := below_trans hb1 hA
  have HCB : Hid (CelsB cs) := hcb
  clear hown hrow b0 hD hb1 hA hcb
  go_wp2_with fail
  refine (docTextI_any key n av cv cs _ (by omega) HCB.out.small r2).mono ?_
  rintro e u3 ⟨rfl, hb3⟩
  have r3 := r2.below hb3
  have B3 := B2.below hb3 (by simp)
  have hw3 := below_trans hw2 hb3
  have b30 := B3.cell 0
  have b31 := B3.cell 1
  simp at b30 b31
  clear r2 B2 hw2 hb3
  go_wp2_with fail
  refine (docTextS_any key n av cv cs _ (by omega) r3).mono ?_
  rintro e u4 ⟨rfl, hb4⟩
  have r4 := r3.below hb4
  have B4 := B3.below hb4 B3.lt
  have hw4 := below_trans hw3 hb4
  have b40 := B4.cell 0
  have b41 := B4.cell 1
  simp at b40 b41
  have hl4 := B4.lt
  clear r3 B3 hw3 hb4 b30 b31
  generalize docT cs n = s at *
  generalize hdh : docH cs n = hh at *
  have HDH : Hid (docH cs n = hh) := hdh
  have HB4 : Hid (Blk u4 u1.heap.size #[.string key, .slice av cs.length cv] 25) := B4
  have HR4 : Hid (CelRow u4 av cs) := r4
  have HX0 : Hid (Blk (u4.alloc (.cells #[.string key, .slice none 0 0] 25)) u4.heap.size #[.string key, .slice none 0 0] 25) := Blk.new _ _ _
  clear hdh B4 r4
  go_wp2
  go_loopw [10, 11] (fun nn ii wr => ∃ (k c : Nat) (ax : Option Addr) (cx : Nat) (us : List Cel), k ≤ cs.length ∧ c ≤ k ∧ us.length ≤ k ∧ ii = .int .i64 k ∧ nn = .int .i64 c ∧ decide (0 < (c : Int)) = (cs.take k).any (isC n) ∧ CelsB us ∧ (∀ x ∈ us, isC n x = false) ∧ Blk wr u4.heap.size #[.string key, .slice ax us.length cx] 25 ∧ wr.ownsRow u4.heap.size 31 2 (.slice ax us.length cx) us.length (celCells us) ∧ Below u4.heap.size u4 wr) (fun _ ii _ => cs.length - (intOf ii).toNat)
  case atStart => exact ⟨0, 0, none, 0, [], Nat.zero_le _, Nat.le_refl _, Nat.le_refl _, rfl, rfl, rfl, (fun _ h => by simp at h), (fun _ h => by simp at h), HX0.out, World.ownsRow_nil _ _ _ _, (Below.refl _ _).alloc (Nat.le_refl _) _⟩
  case round =>
    clear HX0 b40 b41
    obtain ⟨k, c, ax, cx, us, hk, hck, husk, rfl, rfl, hcnt, hub, hus, hX, hown, hbel⟩ := hrel
    have BP := HB4.out.below hbel hl4
    have rP := HR4.out.below hbel
    have p0 := BP.cell 0
    have p1 := BP.cell 1
    have x0 := hX.cell 0
    have x1 := hX.cell 1
    have y1 := hX.frozen 1
    have hsz := hbel.size
    have hlX := hX.lt
    simp at p0 p1 x0 x1
    have HCNT : Hid (decide (0 < (c : Int)) = (cs.take k).any (isC n)) := hcnt
    have HUB : Hid (CelsB us) := hub
    have HUS : Hid (∀ x ∈ us, isC n x = false) := hus
    have HX : Hid (Blk wr u4.heap.size #[.string key, .slice ax us.length cx] 25) := hX
    have HOW : Hid (wr.ownsRow u4.heap.size 31 2 (.slice ax us.length cx) us.length (celCells us)) := hown
    clear hcnt hub hus hX hown BP
    by_cases hlt : k < cs.length
    · have hlt' : (k : Int) < (cs.length : Int) := by omega
      obtain ⟨g, off, rfl, hg, hc⟩ := rP (by omega)
      obtain ⟨c0, c1⟩ := hc k hlt
      have HT := take_any cs n k hlt
      have hsm := HCB.out.small k hlt
      have hcb := HCB.out (cs[k]) (List.getElem_mem hlt)
      rw [← cat_get cs k hlt] at hcb
      cases he : isC n (cat cs k) with
      | true =>
        have HN : Hid (decide (0 < ((c + 1 : Nat) : Int)) = (cs.take (k + 1)).any (isC n)) := by unfold Hid; rw [HT, he, Bool.or_true]; exact decide_eq_true (by omega)
        clear HT hcb hsm
        generalize cat cs k = cl at *
        obtain ⟨nm, tx⟩ := cl
        simp only at c0 c1
        have he' : (nm.toList == n.toList) = true := he
        clear hc he rP
        go_wp2
        go_roundw
        case rel => exact ⟨k + 1, c + 1, ax, cx, us, by omega, by omega, by omega, by go_num, by go_num, HN.out, HUB.out, HUS.out, HX.out, HOW.out, hbel⟩
        case measure => simp [intOf]; omega
      | false =>
        have HN : Hid (decide (0 < (c : Int)) = (cs.take (k + 1)).any (isC n)) := by unfold Hid; rw [HT, he, Bool.or_false]; exact HCNT.out
        have HU2 : Hid (CelsB (us ++ [cat cs k])) := HUB.out.snoc hcb.1 hcb.2
        have HU3 : Hid (∀ x ∈ us ++ [cat cs k], isC n x = false) := by
          intro x hx
          rcases List.mem_append.1 hx with hx | hx
          · exact HUS.out x hx
          · have : x = cat cs k := by simpa using hx
            rw [this]; exact he
        clear HT hcb hsm
        generalize cat cs k = cl at *
        obtain ⟨nm, tx⟩ := cl
        simp only at c0 c1
        have he' : (nm.toList == n.toList) = false := he
        clear hc he rP HUB HUS HCNT
        go_wp2_with fail
        go_region_law (refine step_append_lies _ (by rfl) _ _ 23 (by rfl) u4.heap.size 31 i0 (.agg #[.string ⟨#[]⟩, .string ⟨#[]⟩]) 2 32 Try.underlying23 hi hz0 hz1 hz2 rfl (by decide) (.slice ax us.length cx) us.length (celCells us) (by rfl) (HOW.out.alloc _) ⟨wr.heap.size, 0, none⟩ 1 1 [.string nm, .string tx] (by rfl) rfl (cells_new _ _ _) (two_one _ _) (by omega) (by unfold maxLen; omega) (by omega) (by simp; omega) (wr.heap.size + 1) (by simp) ?_; intro g6 c6 w6 hown' hgrow hat hlt6; have hgr : (wr.alloc (.cells #[.string nm, .string tx] 31)).grownBy w6 (Value.slice ax us.length cx).ownBlock := ⟨hgrow.os, hgrow.tape, hgrow.output, hgrow.size, hgrow.block⟩; have hX6 : Blk w6 u4.heap.size #[.string key, .slice ax us.length cx] 25 := (HX.out.alloc _).grown hgr (fun e => own_type HOW.out HX.out (by decide) e.symm); have x6 := hX6.cell 1; have y6 := hX6.frozen 1; simp at x6; clear hgrow)
        all_goals
          have HB6 : Hid (Below u4.heap.size u4 (w6.setCell ⟨u4.heap.size, 1, none⟩ (.slice (some ⟨g6, 0, none⟩) (us.length + 1) c6))) := ((hbel.alloc hsz _).grown hgr (by simp; omega) (fun j hj => (HOW.out.lt j hj).1)).setCell (Nat.le_refl _) _
          have HX6 : Hid (Blk (w6.setCell ⟨u4.heap.size, 1, none⟩ (.slice (some ⟨g6, 0, none⟩) (us.length + 1) c6)) u4.heap.size #[.string key, .slice (some ⟨g6, 0, none⟩) (us.length + 1) c6] 25) := hX6.set 1 _
          have HO6 : Hid ((w6.setCell ⟨u4.heap.size, 1, none⟩ (.slice (some ⟨g6, 0, none⟩) (us.length + 1) c6)).ownsRow u4.heap.size 31 2 (.slice (some ⟨g6, 0, none⟩) (us.length + 1) c6) (us.length + 1) (celCells (us ++ [⟨nm, tx⟩]))) := by
            unfold Hid
            rw [celCells_snoc]
            exact World.ownsRow.kept hown' (grown_set _ _ _ _) (.inr (own_type hown' hX6 (by decide)))
          clear hown' hgr hX6 HX HOW
          go_wp2
          go_roundw
          case rel => exact ⟨k + 1, c, some ⟨g6, 0, none⟩, c6, us ++ [⟨nm, tx⟩], by omega, by omega, by simp; omega, by go_num, rfl, HN.out, HU2.out, HU3.out, by rw [List.length_append]; exact HX6.out, by rw [List.length_append]; exact HO6.out, HB6.out⟩
          case measure => simp [intOf]; omega
    · have hkl : k = cs.length := by omega
      subst hkl
      have HH : Hid (decide (0 < (c : Int)) = hh) := by unfold Hid; rw [HCNT.out, List.take_length, ← docH_any, HDH.out]
      have HU : Hid (docH us n = false) := docH_none HUS.out
      obtain ⟨ax', cx', ev, -, -, -, hrx⟩ := owns_celRow HOW.out (celTo_cells us)
      obtain ⟨rfl, rfl⟩ : ax = ax' ∧ cx = cx' := by injection ev with h1 h2 h3; exact ⟨h1, h3⟩
      clear rP HUS HCNT ev
      go_wp2_with fail
      refine (docTextI_any key n ax cx us _ (by omega) HUB.out.small hrx).mono ?_
      rintro e u6 ⟨rfl, hb6⟩
      rw [HU.out]
      have hdn : decide (0 < c) = hh := by rw [← HH.out]; exact decide_eq_decide.2 (by omega)
      clear HH
      have hw6 := below_trans hw4 (hbel.trans (hb6.mono hsz))
      clear hrx
      cases hh
      all_goals
        go_wp2
        go_ret
        refine ⟨ret_bool ?_, hw6⟩
        first
        | (rw [hdn]; rfl)
        | rw [hdn]
        | rfl
end Go.Proofs.Ytmhdmoabomlhjaa
