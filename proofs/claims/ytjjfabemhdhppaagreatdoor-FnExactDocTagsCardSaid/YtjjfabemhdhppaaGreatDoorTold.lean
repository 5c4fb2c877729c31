/- What a cell says of a kind. -/
import Derived.Test.YtjjfabemhdhppaaGreatDoorNames
import Derived.Test.YtjjfabemhdhppaaGreatDoorAssertC
namespace Go.Proofs.YtjjfabemhdhppaaGreatDoor
open Go.RowKit
set_option linter.unusedVariables false

def cnum (k : Int) (s : ByteArray) : Int := if k = 2 then numW s else 0
def cisn (k : Int) (s : ByteArray) : Bool := if k = 2 then numT s else false
theorem cnum_two (s : ByteArray) : cnum 2 s = numW s := rfl
theorem cisn_two (s : ByteArray) : cisn 2 s = numT s := rfl
theorem cnum_not {k : Int} (h : k ≠ 2) (s : ByteArray) : cnum k s = 0 := if_neg h
theorem cisn_not {k : Int} (h : k ≠ 2) (s : ByteArray) : cisn k s = false := if_neg h
/-- The tags that a cell says: a row of the call's own, or none. -/
def TagsV (b0 : Nat) (w : World) (k : Int) (s : ByteArray) (v : Value) : Prop :=
  (k = 3 ∧ ∃ g c, v = .slice (some ⟨g, 0, none⟩) (namesL s).length c ∧ (namesL s).length ≤ c ∧ b0 ≤ g ∧ OwnRow w g c (namesL s)) ∨ (k ≠ 3 ∧ v = .slice none 0 0)
theorem TagsV.below {b0 : Nat} {w w' : World} {k : Int} {s : ByteArray} {v : Value} (h : TagsV b0 w k s v) (hb : Below w.heap.size w w') : TagsV b0 w' k s v := by
  rcases h with ⟨h1, g, c, e, h2, h3, h4⟩ | h
  · exact .inl ⟨h1, g, c, e, h2, h3, h4.below hb⟩
  · exact .inr h

attribute [local go_sem] asNumNum asNumTag asNumText asTagTag asTagText
set_option maxHeartbeats 1000000 in
set_option maxRecDepth 100000 in
theorem contentTold_any (k : Int) (s : ByteArray) (w : World) (hs : s.size ≤ 1048576) (hm : MaxL w) :
    Calls Tryz.prog 42 #[.iface (ctype k) (.string s)] w fun e w' => ∃ v, e = .returned (.agg #[.int .i64 (cnum k s), .bool (cisn k s), v]) ∧ TagsV w.heap.size w' k s v ∧ Below w.heap.size w w' := by
  by_cases h2 : k = 2
  · subst h2
    rw [cnum_two, cisn_two, show ctype 2 = 88 from rfl]
    have HT : Hid (∀ w', TagsV w.heap.size w' 2 s (.slice none 0 0)) := fun w' => .inr ⟨by decide, rfl⟩
    have HN : Hid (∀ wx, Calls Tryz.prog 51 #[.string s] wx fun e w' => e = .returned (.tuple #[.int .i64 (numW s), .bool (numT s)]) ∧ w' = wx) := fun wx => numGet_any s wx hs
    clear hm
    generalize numW s = n at *
    generalize numT s = b at *
    go_enter Tryz.func42, Tryz.ntmps42
    go_wp2_with fail
    refine (HN.out _).mono ?_
    rintro e w1 ⟨rfl, rfl⟩
    go_wp2
    exact bodyPost_ret (v := .agg #[.int .i64 n, .bool b, .slice none 0 0]) (by simp [results, Tryz.results42, go_sem]) rfl ⟨_, rfl, HT.out _, (Below.refl _ _).alloc (Nat.le_refl _) _⟩
  · rw [cnum_not h2, cisn_not h2]
    by_cases h3 : k = 3
    · subst h3
      rw [show ctype 3 = 89 from rfl]
      have HN : Hid (∀ wx, MaxL wx → Calls Tryz.prog 52 #[.string s] wx fun e w' => ∃ c, e = .returned (.slice (some ⟨wx.heap.size, 0, none⟩) (namesL s).length c) ∧ OwnRow w' wx.heap.size c (namesL s) ∧ Below wx.heap.size wx w') := fun wx h => names_any s wx hs h
      have HT : Hid (∀ w' g c, (namesL s).length ≤ c → w.heap.size ≤ g → OwnRow w' g c (namesL s) → TagsV w.heap.size w' 3 s (.slice (some ⟨g, 0, none⟩) (namesL s).length c)) := fun w' g c h1 h2 h3 => .inl ⟨rfl, g, c, rfl, h1, h2, h3⟩
      obtain ⟨L, hL⟩ : ∃ L, L = namesL s := ⟨_, rfl⟩
      rw [← hL] at HN HT
      clear hL
      have B0 := Blk.new w #[.int .i64 0, .bool false, .slice none 0 0] 57
      have hb0 : Below w.heap.size w (w.alloc (.cells #[.int .i64 0, .bool false, .slice none 0 0] 57)) := (Below.refl _ w).alloc (Nat.le_refl _) _
      go_enter Tryz.func42, Tryz.ntmps42
      go_wp2_with fail
      refine (HN.out _ (hm.below hb0)).mono ?_
      rintro e w1 ⟨c, rfl, hr, hb⟩
      have hc := hr.le
      have HC : Hid (L.length ≤ c) := hc
      have B1 := B0.below hb B0.lt
      have k0 := B1.cell 0
      have k1 := B1.cell 1
      have k2 := B1.cell 2
      have y0 := B1.frozen 0
      have y1 := B1.frozen 1
      have y2 := B1.frozen 2
      have hz1 := B1.lt
      simp at k0 k1 k2
      have hbw := below_trans hb0 hb
      have HR : Hid (OwnRow w1 (w.heap.size + 1) c L) := by
        rw [show (w.alloc (.cells #[.int .i64 0, .bool false, .slice none 0 0] 57)).heap.size = w.heap.size + 1 from by simp] at hr
        exact hr
      clear HN hc hr hb B0 B1 hb0 hm
      go_wp2
      refine bodyPost_ret (v := .agg #[.int .i64 0, .bool false, .slice (some ⟨w.heap.size + 1, 0, none⟩) L.length c]) (by simp [results, Tryz.results42, go_sem, k0, k1, k2]) rfl ⟨_, rfl, HT.out _ _ _ HC.out (Nat.le_succ _) ?_, ?_⟩
      · exact ((HR.out.set (by show w.heap.size + 1 ≠ w.heap.size; omega) _).set (by show w.heap.size + 1 ≠ w.heap.size; omega) _).set (by show w.heap.size + 1 ≠ w.heap.size; omega) _
      · exact ((hbw.setCell (Nat.le_refl _) _).setCell (Nat.le_refl _) _).setCell (Nat.le_refl _) _
    · have HT : Hid (∀ w', TagsV w.heap.size w' k s (.slice none 0 0)) := fun w' => .inr ⟨h3, rfl⟩
      rw [show ctype k = 91 from by unfold ctype; rw [if_neg h2, if_neg h3]]
      clear h2 h3
      go_enter Tryz.func42, Tryz.ntmps42
      go_wp2
      exact bodyPost_ret (v := .agg #[.int .i64 0, .bool false, .slice none 0 0]) (by simp [results, Tryz.results42, go_sem]) rfl ⟨_, rfl, HT.out _, (Below.refl _ _).alloc (Nat.le_refl _) _⟩
end Go.Proofs.YtjjfabemhdhppaaGreatDoor
