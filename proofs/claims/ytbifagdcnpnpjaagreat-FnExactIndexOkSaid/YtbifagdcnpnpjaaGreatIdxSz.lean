/- How great an index is. -/
import Derived.Test.YtbifagdcnpnpjaaGreatIdx
import Derived.Test.YtbifagdcnpnpjaaGreatSzMore
namespace Go.Proofs.YtbifagdcnpnpjaaGreat
open Go.RowKit
set_option linter.unusedVariables false

def PstSm (p : Pst) : Prop := p.ats.length ≤ 1048576
def EntSm (e : Ent) : Prop := e.field.size ≤ 1048576 ∧ e.term.size ≤ 1048576 ∧ PstsSm e.posts
def RwSm (r : Rw) : Prop := r.key.size ≤ 1048576 ∧ r.cells.length ≤ 1048576 ∧ CelsSmall r.cells
def PstBig (p : Pst) : Prop := p.ats.length ≤ maxLen
def EntBig (e : Ent) : Prop := e.field.size ≤ maxLen ∧ e.term.size ≤ maxLen ∧ e.posts.length ≤ maxLen ∧ ∀ p ∈ e.posts, PstBig p
def RwBig (r : Rw) : Prop := r.key.size ≤ maxLen ∧ r.cells.length ≤ maxLen ∧ ∀ i, i < r.cells.length → (cat r.cells i).name.size ≤ maxLen ∧ (cat r.cells i).text.size ≤ maxLen

theorem szIntS_any (a : Option Addr) (n cap : Nat) (left : Int) (w : World) (h0 : 0 ≤ left) (h1 : left ≤ 1048576) (hz : n ≤ maxLen) :
    Calls Tryz.prog 142 #[.slice a n cap, .int .i64 left] w fun e w' => ∃ r : Int, e = .returned (.int .i64 r) ∧ r ≤ left ∧ (0 ≤ r → n ≤ 1048576) ∧ Below w.heap.size w w' := by
  unfold maxLen at hz
  by_cases hbig : left - (n : Int) < 0
  · go_enter Tryz.func142, Tryz.ntmps142
    go_wp2
    go_ret
    exact ⟨-1, rfl, by omega, fun h => by omega, Below.refl _ _⟩
  have hbd : decide (left - (n : Int) < 0) = false := by simpa using hbig
  go_enter Tryz.func142, Tryz.ntmps142
  go_wp2
  go_ret
  exact ⟨left - n, rfl, by omega, fun h => by omega, Below.refl _ _⟩
theorem szPost_any (q : Option Addr) (c : Nat) (p : Pst) (left : Int) (w : World) (hb : PstBig p) (h0 : 0 ≤ left) (h1 : left ≤ 1048576) (hr : IntRow w q p.ats) :
    Calls Tryz.prog 127 #[.agg #[.int .i64 p.doc, .slice q p.ats.length c], .int .i64 left] w fun e w' => ∃ r : Int, e = .returned (.int .i64 r) ∧ r ≤ left ∧ (0 ≤ r → PstSm p) ∧ Below w.heap.size w w' := by
  have hz : p.ats.length ≤ maxLen := hb
  unfold PstSm
  obtain ⟨d, zs⟩ := p
  simp only at hz hr ⊢
  clear hr hb
  go_enter Tryz.func127, Tryz.ntmps127
  go_wp2_with fail
  refine (szIntS_any q zs.length c left _ h0 h1 hz).mono ?_
  rintro e w2 ⟨r, rfl, hr1, hr2, hb2⟩
  have hb3 : Below w.heap.size w w2 := ((Below.refl _ w).alloc (Nat.le_refl _) _).trans (hb2.mono (by simp))
  clear hb2
  by_cases hneg : r < 0
  · go_wp2
    go_ret
    exact ⟨-1, rfl, by omega, fun h => by omega, hb3⟩
  · have hnd : decide (r < 0) = false := by simpa using hneg
    go_wp2
    go_ret
    exact ⟨r, rfl, hr1, hr2, hb3⟩

set_option maxHeartbeats 1000000 in
theorem szPostS_any (a : Option Addr) (cap : Nat) (ls : List Pst) (left0 : Int) (w : World) (h0 : 0 ≤ left0) (h1 : left0 ≤ 1048576) (hz : ls.length ≤ maxLen) (hsm : ∀ x ∈ ls, PstBig x) (hr : PstRow w a ls) :
    Calls Tryz.prog 109 #[.slice a ls.length cap, .int .i64 left0] w fun e w' => ∃ r : Int, e = .returned (.int .i64 r) ∧ r ≤ left0 ∧ (0 ≤ r → PstsSm ls) ∧ Below w.heap.size w w' := by
  unfold maxLen at hz
  by_cases hbig : left0 - (ls.length : Int) < 0
  · clear hr hsm
    go_enter Tryz.func109, Tryz.ntmps109
    go_wp2
    go_ret
    exact ⟨-1, rfl, by omega, fun h => by omega, Below.refl _ _⟩
  have hbd : decide (left0 - (ls.length : Int) < 0) = false := by simpa using hbig
  go_enter Tryz.func109, Tryz.ntmps109
  go_wp2
  go_loopw [1, 5] (fun l i wr => ∃ (k : Nat) (left : Int), k ≤ ls.length ∧ i = .int .i64 k ∧ l = .int .i64 left ∧ 0 ≤ left ∧ left ≤ left0 ∧ (∀ j x, j < k → ls[j]? = some x → PstSm x) ∧ Below w.heap.size w wr) (fun _ i _ => ls.length - (intOf i).toNat)
  case atStart => exact ⟨0, left0 - ls.length, Nat.zero_le _, rfl, rfl, by omega, by omega, fun j x hj => by omega, Below.refl _ _⟩
  case round =>
    obtain ⟨k, left, hk, rfl, rfl, hl0, hl1, hj, hbel⟩ := hrel
    have HJ : Hid (∀ j x, j < k → ls[j]? = some x → PstSm x) := hj
    clear hj
    by_cases hlt : k < ls.length
    · have hkl : (k : Int) < (ls.length : Int) := by omega
      obtain ⟨g, off, rfl, hg, hc⟩ := (hr.below hbel) (by omega)
      have hget : ls[k]? = some ls[k] := List.getElem?_eq_getElem hlt
      have HS : Hid (PstBig ls[k]) := hsm _ (List.getElem_mem hlt)
      have HJK : Hid (PstSm ls[k] → ∀ j x, j < k + 1 → ls[j]? = some x → PstSm x) := fun h j x hj hx => by
        by_cases e : j = k
        · subst e; rw [hget] at hx; cases hx; exact h
        · exact HJ.out j x (by omega) hx
      obtain ⟨q, c, c0, c1, hcl, hrow⟩ := hc k ls[k] hget
      have HR : Hid (IntRow wr q ls[k].ats) := hrow
      clear hr hc hsm hget hrow
      generalize ls[k] = el at *
      go_wp2_with fail
      refine (szPost_any q c el left _ HS.out hl0 (by omega) HR.out).mono ?_
      rintro e w2 ⟨r, rfl, hr1, hr2, hb2⟩
      have hb3 := hbel.trans (hb2.mono hbel.size)
      clear c0 c1
      by_cases hneg : r < 0
      · go_wp2
        go_ret
        exact ⟨-1, rfl, by omega, fun h => by omega, hb3⟩
      · have hnd : decide (r < 0) = false := by simpa using hneg
        go_wp2
        go_roundw
        case rel => exact ⟨k + 1, r, by omega, by go_num, rfl, by omega, by omega, HJK.out (hr2 (by omega)), hb3⟩
        case measure => simp [intOf]; omega
    · have hkl : k = ls.length := by omega
      subst hkl
      clear hr hsm
      go_wp2
      go_ret
      exact ⟨left, rfl, by omega, fun _ => ⟨by omega, fun x hx => by obtain ⟨i, hi, e⟩ := List.getElem_of_mem hx; exact HJ.out i x hi (by rw [List.getElem?_eq_getElem hi, e])⟩, hbel⟩

theorem szEntry_any (q : Option Addr) (c : Nat) (x : Ent) (left : Int) (w : World) (hb : EntBig x) (h0 : 0 ≤ left) (h1 : left ≤ 1048576) (hr : PstRow w q x.posts) :
    Calls Tryz.prog 80 #[.agg #[.string x.field, .string x.term, .slice q x.posts.length c], .int .i64 left] w fun e w' => ∃ r : Int, e = .returned (.int .i64 r) ∧ r ≤ left ∧ (0 ≤ r → EntSm x) ∧ Below w.heap.size w w' := by
  unfold EntSm
  obtain ⟨f, t, ps⟩ := x
  obtain ⟨hf, ht, hz, hp⟩ := hb
  simp only at hf ht hz hp hr ⊢
  have hb0 : Below w.heap.size w (w.alloc (.cells #[.string f, .string t, .slice q ps.length c] 118)) := (Below.refl _ w).alloc (Nat.le_refl _) _
  have r0 := hr.below hb0
  clear hr
  have HP : Hid (∀ p ∈ ps, PstBig p) := hp
  clear hp
  have hf' := hf
  have ht' := ht
  unfold maxLen at hf' ht'
  by_cases hlt : left - (f.size : Int) < 0
  · clear r0
    go_enter Tryz.func80, Tryz.ntmps80
    go_wp2
    go_ret
    exact ⟨-1, rfl, by omega, fun h => by omega, hb0⟩
  have hd : decide (left - (f.size : Int) < 0) = false := by simpa using hlt
  by_cases hlt2 : left - (f.size : Int) - (t.size : Int) < 0
  · clear r0
    go_enter Tryz.func80, Tryz.ntmps80
    go_wp2
    go_ret
    exact ⟨-1, rfl, by omega, fun h => by omega, hb0⟩
  have hd2 : decide (left - (f.size : Int) - (t.size : Int) < 0) = false := by simpa using hlt2
  have HB0 : Hid (Below w.heap.size w (w.alloc (.cells #[.string f, .string t, .slice q ps.length c] 118))) := hb0
  clear hb0
  go_enter Tryz.func80, Tryz.ntmps80
  go_wp2_with fail
  refine (szPostS_any q c ps (left - f.size - t.size) _ (by omega) (by omega) hz HP.out r0).mono ?_
  rintro e w2 ⟨r, rfl, hr1, hr2, hb2⟩
  have hb3 : Below w.heap.size w w2 := HB0.out.trans (hb2.mono (by simp))
  clear hb2 HB0 r0
  by_cases hneg : r < 0
  · go_wp2
    go_ret
    exact ⟨-1, rfl, by omega, fun h => by omega, hb3⟩
  · have hnd : decide (r < 0) = false := by simpa using hneg
    go_wp2
    go_ret
    exact ⟨r, rfl, by omega, fun h => ⟨by omega, by omega, hr2 h⟩, hb3⟩

set_option maxHeartbeats 1000000 in
theorem szEntryS_any (a : Option Addr) (cap : Nat) (ls : List Ent) (left0 : Int) (w : World) (h0 : 0 ≤ left0) (h1 : left0 ≤ 1048576) (hz : ls.length ≤ maxLen) (hsm : ∀ x ∈ ls, EntBig x) (hr : EntRow w a ls) :
    Calls Tryz.prog 39 #[.slice a ls.length cap, .int .i64 left0] w fun e w' => ∃ r : Int, e = .returned (.int .i64 r) ∧ r ≤ left0 ∧ (0 ≤ r → EntsSm ls) ∧ Below w.heap.size w w' := by
  unfold maxLen at hz
  by_cases hbig : left0 - (ls.length : Int) < 0
  · clear hr hsm
    go_enter Tryz.func39, Tryz.ntmps39
    go_wp2
    go_ret
    exact ⟨-1, rfl, by omega, fun h => by omega, Below.refl _ _⟩
  have hbd : decide (left0 - (ls.length : Int) < 0) = false := by simpa using hbig
  go_enter Tryz.func39, Tryz.ntmps39
  go_wp2
  go_loopw [1, 5] (fun l i wr => ∃ (k : Nat) (left : Int), k ≤ ls.length ∧ i = .int .i64 k ∧ l = .int .i64 left ∧ 0 ≤ left ∧ left ≤ left0 ∧ (∀ j x, j < k → ls[j]? = some x → EntSm x) ∧ Below w.heap.size w wr) (fun _ i _ => ls.length - (intOf i).toNat)
  case atStart => exact ⟨0, left0 - ls.length, Nat.zero_le _, rfl, rfl, by omega, by omega, fun j x hj => by omega, Below.refl _ _⟩
  case round =>
    obtain ⟨k, left, hk, rfl, rfl, hl0, hl1, hj, hbel⟩ := hrel
    have HJ : Hid (∀ j x, j < k → ls[j]? = some x → EntSm x) := hj
    clear hj
    by_cases hlt : k < ls.length
    · have hkl : (k : Int) < (ls.length : Int) := by omega
      obtain ⟨g, off, rfl, hg, hc⟩ := (hr.below hbel) (by omega)
      have hget : ls[k]? = some ls[k] := List.getElem?_eq_getElem hlt
      have HS : Hid (EntBig ls[k]) := hsm _ (List.getElem_mem hlt)
      have HJK : Hid (EntSm ls[k] → ∀ j x, j < k + 1 → ls[j]? = some x → EntSm x) := fun h j x hj hx => by
        by_cases e : j = k
        · subst e; rw [hget] at hx; cases hx; exact h
        · exact HJ.out j x (by omega) hx
      obtain ⟨q, c, c0, c1, c2, hcl, hrow⟩ := hc k ls[k] hget
      have HR : Hid (PstRow wr q ls[k].posts) := hrow
      clear hr hc hsm hget hrow
      generalize ls[k] = el at *
      go_wp2_with fail
      refine (szEntry_any q c el left _ HS.out hl0 (by omega) HR.out).mono ?_
      rintro e w2 ⟨r, rfl, hr1, hr2, hb2⟩
      have hb3 := hbel.trans (hb2.mono hbel.size)
      clear c0 c1 c2
      by_cases hneg : r < 0
      · go_wp2
        go_ret
        exact ⟨-1, rfl, by omega, fun h => by omega, hb3⟩
      · have hnd : decide (r < 0) = false := by simpa using hneg
        go_wp2
        go_roundw
        case rel => exact ⟨k + 1, r, by omega, by go_num, rfl, by omega, by omega, HJK.out (hr2 (by omega)), hb3⟩
        case measure => simp [intOf]; omega
    · have hkl : k = ls.length := by omega
      subst hkl
      clear hr hsm
      go_wp2
      go_ret
      exact ⟨left, rfl, by omega, fun _ => ⟨by omega, fun x hx => by obtain ⟨i, hi, e⟩ := List.getElem_of_mem hx; exact HJ.out i x hi (by rw [List.getElem?_eq_getElem hi, e])⟩, hbel⟩

theorem szDocR_any (key : ByteArray) (a : Option Addr) (cap : Nat) (cs : List Cel) (left0 : Int) (w : World) (h0 : 0 ≤ left0) (h1 : left0 ≤ 1048576) (hk : key.size ≤ maxLen) (hz : cs.length ≤ maxLen) (hsm : ∀ i, i < cs.length → (cat cs i).name.size ≤ maxLen ∧ (cat cs i).text.size ≤ maxLen) (hr : CelRow w a cs) :
    Calls Tryz.prog 23 #[.agg #[.string key, .slice a cs.length cap], .int .i64 left0] w fun e w' => ∃ r : Int, e = .returned (.int .i64 r) ∧ r ≤ left0 ∧ (0 ≤ r → key.size ≤ 1048576 ∧ cs.length ≤ 1048576 ∧ CelsSmall cs) ∧ Below w.heap.size w w' := by
  unfold maxLen at hk
  by_cases hlt : left0 - (key.size : Int) < 0
  · clear hr hsm
    go_enter Tryz.func23, Tryz.ntmps23
    go_wp2
    go_ret
    exact ⟨-1, rfl, by omega, fun h => by omega, (Below.refl _ w).alloc (Nat.le_refl _) _⟩
  · have hd : decide (left0 - (key.size : Int) < 0) = false := by simpa using hlt
    have hb0 : Below w.heap.size w (w.alloc (.cells #[.string key, .slice a cs.length cap] 50)) := (Below.refl _ w).alloc (Nat.le_refl _) _
    have r0 := hr.below hb0
    clear hr
    go_enter Tryz.func23, Tryz.ntmps23
    go_wp2_with fail
    refine (szCellS_any a cap cs (left0 - key.size) _ (by omega) (by omega) hz hsm r0).mono ?_
    rintro e w2 ⟨r, rfl, hr1, hr2, hb2⟩
    have hb3 : Below w.heap.size w w2 := hb0.trans (hb2.mono (by simp))
    clear r0 hsm
    by_cases hneg : r < 0
    · go_wp2
      go_ret
      exact ⟨-1, rfl, by omega, fun h => by omega, hb3⟩
    · have hnd : decide (r < 0) = false := by simpa using hneg
      go_wp2
      go_ret
      exact ⟨r, rfl, by omega, fun h => ⟨by omega, hr2 h⟩, hb3⟩
theorem szRow_any (q : Option Addr) (c : Nat) (x : Rw) (left : Int) (w : World) (hb : RwBig x) (h0 : 0 ≤ left) (h1 : left ≤ 1048576) (hr : CelRow w q x.cells) :
    Calls Tryz.prog 79 #[.agg #[.int .i64 x.id, .string x.key, .slice q x.cells.length c], .int .i64 left] w fun e w' => ∃ r : Int, e = .returned (.int .i64 r) ∧ r ≤ left ∧ (0 ≤ r → RwSm x) ∧ Below w.heap.size w w' := by
  unfold RwSm
  obtain ⟨d, key, cs⟩ := x
  obtain ⟨hk, hz, hs⟩ := hb
  simp only at hk hz hs hr ⊢
  have hb0 : Below w.heap.size w (w.alloc (.cells #[.int .i64 d, .string key, .slice q cs.length c] 114)) := (Below.refl _ w).alloc (Nat.le_refl _) _
  have r0 := hr.below hb0
  have HS : Hid (∀ i, i < cs.length → (cat cs i).name.size ≤ maxLen ∧ (cat cs i).text.size ≤ maxLen) := hs
  have HB0 : Hid (Below w.heap.size w (w.alloc (.cells #[.int .i64 d, .string key, .slice q cs.length c] 114))) := hb0
  clear hr hs hb0
  go_enter Tryz.func79, Tryz.ntmps79
  go_wp2_with fail
  refine (szDocR_any key q c cs left _ h0 h1 hk hz HS.out r0).mono ?_
  rintro e w2 ⟨r, rfl, hr1, hr2, hb2⟩
  have hb3 : Below w.heap.size w w2 := HB0.out.trans (hb2.mono (by simp))
  clear hb2 HB0 r0
  by_cases hneg : r < 0
  · go_wp2
    go_ret
    exact ⟨-1, rfl, by omega, fun h => by omega, hb3⟩
  · have hnd : decide (r < 0) = false := by simpa using hneg
    go_wp2
    go_ret
    exact ⟨r, rfl, by omega, hr2, hb3⟩

set_option maxHeartbeats 1000000 in
theorem szRowS_any (a : Option Addr) (cap : Nat) (ls : List Rw) (left0 : Int) (w : World) (h0 : 0 ≤ left0) (h1 : left0 ≤ 1048576) (hz : ls.length ≤ maxLen) (hsm : ∀ x ∈ ls, RwBig x) (hr : RwRow w a ls) :
    Calls Tryz.prog 38 #[.slice a ls.length cap, .int .i64 left0] w fun e w' => ∃ r : Int, e = .returned (.int .i64 r) ∧ r ≤ left0 ∧ (0 ≤ r → RwsSm ls) ∧ Below w.heap.size w w' := by
  unfold maxLen at hz
  by_cases hbig : left0 - (ls.length : Int) < 0
  · clear hr hsm
    go_enter Tryz.func38, Tryz.ntmps38
    go_wp2
    go_ret
    exact ⟨-1, rfl, by omega, fun h => by omega, Below.refl _ _⟩
  have hbd : decide (left0 - (ls.length : Int) < 0) = false := by simpa using hbig
  go_enter Tryz.func38, Tryz.ntmps38
  go_wp2
  go_loopw [1, 5] (fun l i wr => ∃ (k : Nat) (left : Int), k ≤ ls.length ∧ i = .int .i64 k ∧ l = .int .i64 left ∧ 0 ≤ left ∧ left ≤ left0 ∧ (∀ j x, j < k → ls[j]? = some x → RwSm x) ∧ Below w.heap.size w wr) (fun _ i _ => ls.length - (intOf i).toNat)
  case atStart => exact ⟨0, left0 - ls.length, Nat.zero_le _, rfl, rfl, by omega, by omega, fun j x hj => by omega, Below.refl _ _⟩
  case round =>
    obtain ⟨k, left, hk, rfl, rfl, hl0, hl1, hj, hbel⟩ := hrel
    have HJ : Hid (∀ j x, j < k → ls[j]? = some x → RwSm x) := hj
    clear hj
    by_cases hlt : k < ls.length
    · have hkl : (k : Int) < (ls.length : Int) := by omega
      obtain ⟨g, off, rfl, hg, hc⟩ := (hr.below hbel) (by omega)
      have hget : ls[k]? = some ls[k] := List.getElem?_eq_getElem hlt
      have HS : Hid (RwBig ls[k]) := hsm _ (List.getElem_mem hlt)
      have HJK : Hid (RwSm ls[k] → ∀ j x, j < k + 1 → ls[j]? = some x → RwSm x) := fun h j x hj hx => by
        by_cases e : j = k
        · subst e; rw [hget] at hx; cases hx; exact h
        · exact HJ.out j x (by omega) hx
      obtain ⟨q, c, c0, c1, c2, hcl, hrow⟩ := hc k ls[k] hget
      have HR : Hid (CelRow wr q ls[k].cells) := hrow
      clear hr hc hsm hget hrow
      generalize ls[k] = el at *
      go_wp2_with fail
      refine (szRow_any q c el left _ HS.out hl0 (by omega) HR.out).mono ?_
      rintro e w2 ⟨r, rfl, hr1, hr2, hb2⟩
      have hb3 := hbel.trans (hb2.mono hbel.size)
      clear c0 c1 c2
      by_cases hneg : r < 0
      · go_wp2
        go_ret
        exact ⟨-1, rfl, by omega, fun h => by omega, hb3⟩
      · have hnd : decide (r < 0) = false := by simpa using hneg
        go_wp2
        go_roundw
        case rel => exact ⟨k + 1, r, by omega, by go_num, rfl, by omega, by omega, HJK.out (hr2 (by omega)), hb3⟩
        case measure => simp [intOf]; omega
    · have hkl : k = ls.length := by omega
      subst hkl
      clear hr hsm
      go_wp2
      go_ret
      exact ⟨left, rfl, by omega, fun _ => ⟨by omega, fun x hx => by obtain ⟨i, hi, e⟩ := List.getElem_of_mem hx; exact HJ.out i x hi (by rw [List.getElem?_eq_getElem hi, e])⟩, hbel⟩

/-- Not greater than any machine holds. -/
structure IdxBig (x : Idx) : Prop where
  fl : x.fields.length ≤ maxLen
  fs : ∀ i, i < x.fields.length → (fat x.fields i).name.size ≤ maxLen
  rl : x.rows.length ≤ maxLen
  rs : ∀ r ∈ x.rows, RwBig r
  el : x.ents.length ≤ maxLen
  es : ∀ e ∈ x.ents, EntBig e
theorem szIndex_any (pf : Option Addr) (cf : Nat) (pr : Option Addr) (cr : Nat) (pe : Option Addr) (ce : Nat) (x : Idx) (w : World) (hb : IdxBig x) (hx : IdxAt w pf cf pr cr pe ce x) :
    Calls Tryz.prog 9 #[.agg (idxC pf cf pr cr pe ce x), .int .i64 1048576] w fun e w' => ∃ r : Int, e = .returned (.int .i64 r) ∧ r ≤ 1048576 ∧ (0 ≤ r → IdxSm x) ∧ Below w.heap.size w w' := by
  unfold idxC
  have hb0 : Below w.heap.size w (w.alloc (.cells #[.slice pf x.fields.length cf, .slice pr x.rows.length cr, .slice pe x.ents.length ce, .int .i64 x.next] 26)) := (Below.refl _ w).alloc (Nat.le_refl _) _
  have B0 := Blk.new w #[.slice pf x.fields.length cf, .slice pr x.rows.length cr, .slice pe x.ents.length ce, .int .i64 x.next] 26
  have HX : Hid (∀ wx, Below w.heap.size w wx → IdxAt wx pf cf pr cr pe ce x) := fun wx h => hx.below h
  have HBG : Hid (IdxBig x) := hb
  have HSM : Hid (x.fields.length ≤ 1048576 ∧ FldsSmall x.fields → RwsSm x.rows → EntsSm x.ents → IdxSm x) := fun h1 h2 h3 => ⟨h1.1, h1.2, h2, h3⟩
  clear hb hx
  go_enter Tryz.func9, Tryz.ntmps9
  go_wp2_with fail
  refine (szFieldSL_any pf cf x.fields _ HBG.out.fl HBG.out.fs (HX.out _ hb0).f).mono ?_
  rintro e w1 ⟨r1, rfl, hr1, hs1, hb1⟩
  have B1 := B0.below hb1 B0.lt
  have hw1 := below_trans hb0 hb1
  clear B0 hb0 hb1
  have b1 := B1.cell 1
  have b2 := B1.cell 2
  simp at b1 b2
  by_cases hneg : r1 < 0
  · go_wp2
    go_ret
    exact ⟨-1, rfl, by omega, fun h => by omega, hw1⟩
  have hnd : decide (r1 < 0) = false := by simpa using hneg
  go_wp2_with fail
  refine (szRowS_any pr cr x.rows r1 _ (by omega) hr1 HBG.out.rl HBG.out.rs (HX.out _ hw1).r).mono ?_
  rintro e w2 ⟨r2, rfl, hr2, hs2, hb2⟩
  have B2 := B1.below hb2 B1.lt
  have hw2 := below_trans hw1 hb2
  clear B1 hb2 b1 b2 hw1
  have b2 := B2.cell 2
  simp at b2
  by_cases hneg2 : r2 < 0
  · go_wp2
    go_ret
    exact ⟨-1, rfl, by omega, fun h => by omega, hw2⟩
  have hnd2 : decide (r2 < 0) = false := by simpa using hneg2
  go_wp2_with fail
  refine (szEntryS_any pe ce x.ents r2 _ (by omega) (by omega) HBG.out.el HBG.out.es (HX.out _ hw2).e).mono ?_
  rintro e w3 ⟨r3, rfl, hr3, hs3, hb3⟩
  have hw3 := below_trans hw2 hb3
  clear B2 hb3 b2 hw2
  by_cases hneg3 : r3 < 0
  · go_wp2
    go_ret
    exact ⟨-1, rfl, by omega, fun h => by omega, hw3⟩
  · have hnd3 : decide (r3 < 0) = false := by simpa using hneg3
    go_wp2
    go_ret
    exact ⟨r3, rfl, by omega, fun h => HSM.out (hs1 (by omega)) (hs2 (by omega)) (hs3 h), hw3⟩
end Go.Proofs.YtbifagdcnpnpjaaGreat
