/- spec.l2Get: a part, as the field that it is. -/
import Derived.Test.YtelkaieknliflaaDoorFldGet
import Derived.Test.YtelkaieknliflaaDoorL1Cut
namespace Go.Proofs.YtelkaieknliflaaDoor
open Go.RowKit
set_option linter.unusedVariables false

theorem fin3 {w w2 : World} (B2 : Blk w2 w.heap.size #[.string ⟨#[]⟩, .int .i64 0, .int .i64 0] 33) (hw2 : Below w.heap.size w w2) (t : ByteArray) (k z : Int) (x : Obj) :
    (((((w2.setCell ⟨w.heap.size, 0, none⟩ (.string t)).setCell ⟨w.heap.size, 1, none⟩ (.int .i64 k)).setCell ⟨w.heap.size, 2, none⟩ (.int .i64 z)).alloc x).cell? ⟨w.heap.size, 0, none⟩ = some (.string t) ∧ ((((w2.setCell ⟨w.heap.size, 0, none⟩ (.string t)).setCell ⟨w.heap.size, 1, none⟩ (.int .i64 k)).setCell ⟨w.heap.size, 2, none⟩ (.int .i64 z)).alloc x).cell? ⟨w.heap.size, 1, none⟩ = some (.int .i64 k) ∧ ((((w2.setCell ⟨w.heap.size, 0, none⟩ (.string t)).setCell ⟨w.heap.size, 1, none⟩ (.int .i64 k)).setCell ⟨w.heap.size, 2, none⟩ (.int .i64 z)).alloc x).cell? ⟨w.heap.size, 2, none⟩ = some (.int .i64 z)) ∧
    Below w.heap.size w ((((w2.setCell ⟨w.heap.size, 0, none⟩ (.string t)).setCell ⟨w.heap.size, 1, none⟩ (.int .i64 k)).setCell ⟨w.heap.size, 2, none⟩ (.int .i64 z)).alloc x) :=
  ⟨blk3_cells ((blk3 B2 _ _ _).alloc x), (((hw2.setCell (Nat.le_refl _) _).setCell (Nat.le_refl _) _).setCell (Nat.le_refl _) _).alloc (by have := B2.lt; simp; omega) _⟩
theorem text_list : sText.toList = [116, 101, 120, 116] := by rw [ByteArray.toList_eq]
theorem gfld_zero {p : ByteArray} (h : gkind p = 0) : gfld p = ⟨nameOf p, 0, 0⟩ := by unfold gfld; rw [h]; rfl
theorem kind_one {p : ByteArray} (h : two 58 p = false) : gfld p = ⟨p, 0, 0⟩ := by
  have e : gkind p = 0 := by unfold gkind; rw [(rest_no h).1]; decide +kernel
  rw [gfld_zero e, (rest_no h).2]
theorem isTx_two {r : ByteArray} (h : two 58 r = false) : isTx r = false := by unfold isTx; rw [h]; rfl
theorem two_word {r s : ByteArray} (h : two 58 r = true) (hs : two 58 s = false) : (r.toList == s.toList) = false := by
  cases hq : (r.toList == s.toList) with
  | false => rfl
  | true => rw [toList_inj hq, hs] at h; cases h
/-- The row of pieces, as it is read. -/
theorem row1 {W : World} {b : Nat} {v : Value} {x : ByteArray} (h : W.ownsRow b 9 1 v 1 [.string x]) : ∃ g c, v = .slice (some ⟨g, 0, none⟩) 1 c ∧ W.cell? ⟨g, 0, none⟩ = some (.string x) ∧ g < W.heap.size := by
  rcases h.2 with ⟨_, h2⟩ | ⟨g, c, cur, h2, _, hg, _⟩
  · omega
  · subst h2
    exact ⟨g, c, rfl, h.cellAt 0 (by omega), lt_of_block hg⟩
theorem row2 {W : World} {b : Nat} {v : Value} {x y : ByteArray} (h : W.ownsRow b 9 1 v 2 [.string x, .string y]) : ∃ g c, v = .slice (some ⟨g, 0, none⟩) 2 c ∧ W.cell? ⟨g, 0, none⟩ = some (.string x) ∧ W.cell? ⟨g, 1, none⟩ = some (.string y) ∧ g < W.heap.size := by
  rcases h.2 with ⟨_, h2⟩ | ⟨g, c, cur, h2, _, hg, _⟩
  · omega
  · subst h2
    exact ⟨g, c, rfl, h.cellAt 0 (by omega), h.cellAt 1 (by omega), lt_of_block hg⟩
theorem row3 {W : World} {b : Nat} {v : Value} {x y z : ByteArray} (h : W.ownsRow b 9 1 v 3 [.string x, .string y, .string z]) : ∃ g c, v = .slice (some ⟨g, 0, none⟩) 3 c ∧ W.cell? ⟨g, 0, none⟩ = some (.string x) ∧ W.cell? ⟨g, 1, none⟩ = some (.string y) ∧ W.cell? ⟨g, 2, none⟩ = some (.string z) ∧ g < W.heap.size := by
  rcases h.2 with ⟨_, h2⟩ | ⟨g, c, cur, h2, _, hg, _⟩
  · omega
  · subst h2
    exact ⟨g, c, rfl, h.cellAt 0 (by omega), h.cellAt 1 (by omega), h.cellAt 2 (by omega), lt_of_block hg⟩

set_option maxRecDepth 100000 in
set_option maxHeartbeats 2000000 in
theorem l2Get_any (p : ByteArray) (w : World) (hs : p.size ≤ 1048576) :
    Calls Tryd.prog 31 #[.string p] w fun e w' => e = .returned (.agg #[.string (gfld p).name, .int .i64 (gfld p).kind, .int .i64 (gfld p).weight]) ∧ Below w.heap.size w w' := by
  have hb0 : Below w.heap.size w (w.alloc (.cells #[.string ⟨#[]⟩, .int .i64 0, .int .i64 0] 33)) := (Below.refl _ w).alloc (Nat.le_refl _) _
  have B0 := Blk.new w #[.string ⟨#[]⟩, .int .i64 0, .int .i64 0] 33
  have s0 : (w.alloc (.cells #[.string ⟨#[]⟩, .int .i64 0, .int .i64 0] 33)).heap.size = w.heap.size + 1 := by simp
  have HC := l1Cut_any p 58 58 rfl 2 (w.alloc (.cells #[.string ⟨#[]⟩, .int .i64 0, .int .i64 0] 33)) hs (by omega)
  rw [s0] at HC
  have HN : Hid (∀ w1, Below (w.heap.size + 1) (w.alloc (.cells #[.string ⟨#[]⟩, .int .i64 0, .int .i64 0] 33)) w1 → Blk w1 w.heap.size #[.string ⟨#[]⟩, .int .i64 0, .int .i64 0] 33 ∧ Below w.heap.size w w1) := fun w1 hb1 => ⟨B0.below hb1 (by omega), hb0.trans (hb1.mono (by omega))⟩
  have hcut := cuts_two p
  have hrz := restOf_size p
  obtain ⟨hrz1, hrz2⟩ := hrz
  clear hb0 B0 s0
  cases h1 : two 58 p with
  | false =>
    rw [h1] at hcut
    rw [hcut] at HC
    rw [kind_one h1]
    have HCH : Hid (Calls Tryd.prog 30 #[.string p, .int .u8 58, .int .i64 ((2 : Nat) : Int)] (w.alloc (.cells #[.string ⟨#[]⟩, .int .i64 0, .int .i64 0] 33)) fun e w' => ∃ v, e = .returned v ∧ w'.ownsRow (w.heap.size + 1) 9 1 v 1 [.string p] ∧ Below (w.heap.size + 1) (w.alloc (.cells #[.string ⟨#[]⟩, .int .i64 0, .int .i64 0] 33)) w') := HC
    clear HC hcut h1
    go_enter Tryd.func31, Tryd.ntmps31
    go_wp2_with fail
    refine HCH.out.mono ?_
    rintro e w1 ⟨vv, rfl, hvo, hb1⟩
    obtain ⟨xg, xc, rfl, x0, hxg⟩ := row1 hvo
    obtain ⟨B1, hw1⟩ := HN.out w1 hb1
    have hlt := B1.lt
    obtain ⟨F1, F2⟩ := fin3 B1 hw1 p 0 0 (.cells #[.string p, .int .i64 0, .int .i64 0] 33)
    have HF1 : Hid (_ ∧ _ ∧ _) := F1
    have HF2 : Hid (Below _ _ _) := F2
    obtain ⟨b0, b1, b2⟩ := blk3_cells B1
    have g0 := B1.frozen 0
    have g1 := B1.frozen 1
    have g2 := B1.frozen 2
    clear F1 F2 B1 hw1 hvo hb1 HN HCH
    go_wp2
    exact bodyPost_ret (v := .agg #[.string p, .int .i64 0, .int .i64 0]) (by simp [results, Tryd.results31, go_sem, HF1.out.1, HF1.out.2.1, HF1.out.2.2]) rfl (And.intro rfl HF2.out)
  | true =>
    rw [h1] at hcut
    simp only [if_true] at hcut
    have HGF : Hid (∀ k z, gkind p = k → (if k = 1 then figR (figOf (restOf p)) else 0) = z → gfld p = ⟨nameOf p, k, z⟩) := fun k z h2 h3 => by
      subst h2
      unfold gfld
      rw [h3]
    have HK : Hid (gkind p = if (restOf p).toList == sNum.toList then 2 else if (restOf p).toList == sTag.toList then 3 else if isTx (restOf p) then 1 else 0) := rfl
    generalize restOf p = r at *
    generalize nameOf p = nm at *
    cases h2 : two 58 r with
    | false =>
      rw [(two_no h2).1] at hcut
      rw [hcut] at HC
      have HCH : Hid (Calls Tryd.prog 30 #[.string p, .int .u8 58, .int .i64 ((2 : Nat) : Int)] (w.alloc (.cells #[.string ⟨#[]⟩, .int .i64 0, .int .i64 0] 33)) fun e w' => ∃ v, e = .returned v ∧ w'.ownsRow (w.heap.size + 1) 9 1 v 2 [.string nm, .string r] ∧ Below (w.heap.size + 1) (w.alloc (.cells #[.string ⟨#[]⟩, .int .i64 0, .int .i64 0] 33)) w') := HC
      have HX : Hid (isTx r = false) := isTx_two h2
      clear HC hcut h1 h2
      have key : ∃ k : Int, gfld p = ⟨nm, k, 0⟩ ∧ (((r.toList == [110, 117, 109]) = true ∧ k = 2) ∨ ((r.toList == [110, 117, 109]) = false ∧ (r.toList == [116, 97, 103]) = true ∧ k = 3) ∨ ((r.toList == [110, 117, 109]) = false ∧ (r.toList == [116, 97, 103]) = false ∧ k = 0)) := by
        have hk := HK.out
        rw [num_list, tag_list, HX.out] at hk
        by_cases c1 : (r.toList == [110, 117, 109]) = true
        · rw [if_pos c1] at hk
          exact ⟨2, HGF.out 2 0 hk rfl, .inl ⟨c1, rfl⟩⟩
        · rw [if_neg c1] at hk
          by_cases c2 : (r.toList == [116, 97, 103]) = true
          · rw [if_pos c2] at hk
            exact ⟨3, HGF.out 3 0 hk rfl, .inr (.inl ⟨by simpa using c1, c2, rfl⟩)⟩
          · rw [if_neg c2] at hk
            exact ⟨0, HGF.out 0 0 hk rfl, .inr (.inr ⟨by simpa using c1, by simpa using c2, rfl⟩)⟩
      obtain ⟨k, hG, key⟩ := key
      rw [hG]
      clear hG HGF HK HX
      go_enter Tryd.func31, Tryd.ntmps31
      go_wp2_with fail
      refine HCH.out.mono ?_
      rintro e w1 ⟨vv, rfl, hvo, hb1⟩
      obtain ⟨xg, xc, rfl, x0, x1, hxg⟩ := row2 hvo
      obtain ⟨B1, hw1⟩ := HN.out w1 hb1
      have hlt := B1.lt
      obtain ⟨F1, F2⟩ := fin3 B1 hw1 nm k 0 (.cells #[.string nm, .int .i64 k, .int .i64 0] 33)
      have HF1 : Hid (_ ∧ _ ∧ _) := F1
      have HF2 : Hid (Below _ _ _) := F2
      obtain ⟨b0, b1, b2⟩ := blk3_cells B1
      have g0 := B1.frozen 0
      have g1 := B1.frozen 1
      have g2 := B1.frozen 2
      clear F1 F2 B1 hw1 hvo hb1 HN HCH
      rcases key with ⟨c1, rfl⟩ | ⟨c1, c2, rfl⟩ | ⟨c1, c2, rfl⟩
      all_goals
        go_wp2
        exact bodyPost_ret (v := .agg #[.string nm, .int .i64 _, .int .i64 0]) (by simp [results, Tryd.results31, go_sem, HF1.out.1, HF1.out.2.1, HF1.out.2.2]) rfl (And.intro rfl HF2.out)
    | true =>
      have n1 := two_word h2 two_num
      have n2 := two_word h2 two_tag
      have e2 := (two_yes h2).1
      have HF : Hid (figOf r = pat (cuts 58 1 r) 1) := rfl
      have HX : Hid (isTx r = (two 58 r && ((pat (cuts 58 1 r) 0).toList == sText.toList))) := rfl
      have hfz := pat_size 58 1 r 1 (by rw [two_len h2]; omega)
      rw [e2] at hcut
      generalize pat (cuts 58 1 r) 0 = x at *
      generalize pat (cuts 58 1 r) 1 = y at *
      rw [hcut] at HC
      have HCH : Hid (Calls Tryd.prog 30 #[.string p, .int .u8 58, .int .i64 ((2 : Nat) : Int)] (w.alloc (.cells #[.string ⟨#[]⟩, .int .i64 0, .int .i64 0] 33)) fun e w' => ∃ v, e = .returned v ∧ w'.ownsRow (w.heap.size + 1) 9 1 v 3 [.string nm, .string x, .string y] ∧ Below (w.heap.size + 1) (w.alloc (.cells #[.string ⟨#[]⟩, .int .i64 0, .int .i64 0] 33)) w') := HC
      have hk : gkind p = if x.toList == [116, 101, 120, 116] then 1 else 0 := by
        rw [HK.out, n1, n2, HX.out, h2, text_list]
        rfl
      clear HC hcut h1 n1 n2 e2 HX HK h2
      by_cases c1 : (x.toList == [116, 101, 120, 116]) = true
      · rw [if_pos c1] at hk
        have hG := HGF.out 1 (figR y) hk (by rw [if_pos rfl, HF.out])
        rw [hG]
        clear hG HGF hk HF
        go_enter Tryd.func31, Tryd.ntmps31
        go_wp2_with fail
        refine HCH.out.mono ?_
        rintro e w1 ⟨vv, rfl, hvo, hb1⟩
        obtain ⟨xg, xc, rfl, x0, x1, x2, hxg⟩ := row3 hvo
        obtain ⟨B1, hw1⟩ := HN.out w1 hb1
        have hlt := B1.lt
        obtain ⟨F1, F2⟩ := fin3 B1 hw1 nm 1 (figR y) (.cells #[.string nm, .int .i64 1, .int .i64 (figR y)] 33)
        have HF1 : Hid (_ ∧ _ ∧ _) := F1
        have HF2 : Hid (Below _ _ _) := F2
        obtain ⟨b0, b1, b2⟩ := blk3_cells B1
        have g0 := B1.frozen 0
        have g1 := B1.frozen 1
        have g2 := B1.frozen 2
        clear F1 F2 B1 hw1 hvo hb1 HN HCH
        go_wp2_with fail
        refine (l1Figures_any y _ (by omega)).mono ?_
        rintro e w4 ⟨rfl, rfl⟩
        go_wp2
        exact bodyPost_ret (v := .agg #[.string nm, .int .i64 1, .int .i64 (figR y)]) (by simp [results, Tryd.results31, go_sem, HF1.out.1, HF1.out.2.1, HF1.out.2.2]) rfl (And.intro rfl HF2.out)
      · rw [if_neg c1] at hk
        have c1n : (x.toList == [116, 101, 120, 116]) = false := by simpa using c1
        have hG := HGF.out 0 0 hk rfl
        rw [hG]
        clear hG HGF hk HF c1
        go_enter Tryd.func31, Tryd.ntmps31
        go_wp2_with fail
        refine HCH.out.mono ?_
        rintro e w1 ⟨vv, rfl, hvo, hb1⟩
        obtain ⟨xg, xc, rfl, x0, x1, x2, hxg⟩ := row3 hvo
        obtain ⟨B1, hw1⟩ := HN.out w1 hb1
        have hlt := B1.lt
        obtain ⟨F1, F2⟩ := fin3 B1 hw1 nm 0 0 (.cells #[.string nm, .int .i64 0, .int .i64 0] 33)
        have HF1 : Hid (_ ∧ _ ∧ _) := F1
        have HF2 : Hid (Below _ _ _) := F2
        obtain ⟨b0, b1, b2⟩ := blk3_cells B1
        have g0 := B1.frozen 0
        have g1 := B1.frozen 1
        have g2 := B1.frozen 2
        clear F1 F2 B1 hw1 hvo hb1 HN HCH
        go_wp2
        exact bodyPost_ret (v := .agg #[.string nm, .int .i64 0, .int .i64 0]) (by simp [results, Tryd.results31, go_sem, HF1.out.1, HF1.out.2.1, HF1.out.2.2]) rfl (And.intro rfl HF2.out)
end Go.Proofs.YtelkaieknliflaaDoor
