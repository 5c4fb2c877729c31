/- slices.Insert over hints, in the middle, with no room: a new row. -/
import Derived.Test.YtgmfaganaeibkaaDoorInsertR
import Derived.Lib.AppendZerosOnto
import Derived.Laws.NewBlocks
namespace Go.Proofs.YtgmfaganaeibkaaDoor
open Go.RowKit Go.Lib
set_option linter.unusedVariables false

theorem setCells_drew : ∀ (cs : List Value) (b o : Nat) (w : World), w.drew.setCells b o cs = (w.setCells b o cs).drew
  | [], _, _, _ => rfl
  | c :: cs, b, o, w => setCells_drew cs b (o + 1) (w.setCell ⟨b, o, none⟩ c)
theorem grown_fresh {a b c : World} {k : Nat} (h : a.grownBy b none) (h2 : b.grownBy c (some k)) (hk : a.heap.size ≤ k) : a.grownBy c none :=
  ⟨h2.os.trans h.os, h2.tape.trans h.tape, h2.output.trans h.output, Nat.le_trans h.size h2.size, fun j hj hne => (h2.block j (Nat.lt_of_lt_of_le hj h.size) (by simp; omega)).trans (h.block j hj hne)⟩
theorem grow_cells (hs : List Hn) (n i : Nat) (t : ByteArray) (x : Int) (C : List Value) (hn : hs.length = n) (hi : i < n) (hC : C.take (i * 2) = (hnCells hs).take (i * 2)) (hl : (n + 1) * 2 ≤ C.length) :
    (((C.take ((n + 1) * 2)).take (i * 2) ++ [Value.string t, .int .i64 x] ++ (C.take ((n + 1) * 2)).drop (i * 2 + [Value.string t, .int .i64 x].length)).take ((i + 1) * 2) ++ (hnCells hs).drop (i * 2) ++ ((C.take ((n + 1) * 2)).take (i * 2) ++ [Value.string t, .int .i64 x] ++ (C.take ((n + 1) * 2)).drop (i * 2 + [Value.string t, .int .i64 x].length)).drop ((i + 1) * 2 + ((hnCells hs).drop (i * 2)).length)) = hnCells (hs.take i ++ [⟨t, x⟩] ++ hs.drop i) := by
  have hlen : (hnCells hs).length = n * 2 := by rw [hnCells_len, hn]
  have hD : ((hnCells hs).drop (i * 2)).length = (n - i) * 2 := by rw [List.length_drop, hlen]; omega
  have h1 : (C.take ((n + 1) * 2)).take (i * 2) = (hnCells hs).take (i * 2) := by rw [List.take_take, show min (i * 2) ((n + 1) * 2) = i * 2 by omega, hC]
  have h2 : ((hnCells hs).take (i * 2) ++ [Value.string t, .int .i64 x]).length = (i + 1) * 2 := by rw [List.length_append, List.length_take, hlen]; simp; omega
  have h3 : ((C.take ((n + 1) * 2)).drop (i * 2 + [Value.string t, .int .i64 x].length)).length = (n - i) * 2 := by rw [List.length_drop, List.length_take]; simp; omega
  have h4 : ((hnCells hs).take (i * 2) ++ [Value.string t, .int .i64 x] ++ (C.take ((n + 1) * 2)).drop (i * 2 + [Value.string t, .int .i64 x].length)).drop ((i + 1) * 2 + ((hnCells hs).drop (i * 2)).length) = [] := List.drop_of_length_le (by rw [List.length_append, h2, h3, hD]; exact Nat.le_refl _)
  rw [h1, h4, List.take_append_of_le_length (by rw [h2]; exact Nat.le_refl _), List.take_of_length_le (by rw [h2]; exact Nat.le_refl _), List.append_nil,
    hnCells_app, hnCells_app, hnCells_take, hnCells_drop]
  rfl
set_option maxRecDepth 100000 in
set_option maxHeartbeats 4000000 in
theorem insertH_grow (base g c vb i : Nat) (hs : List Hn) (t : ByteArray) (x : Int) (w : World) (hz : hs.length ≤ 1048576) (hi : i < hs.length) (hb : base ≤ w.heap.size) (hroom : c < hs.length + 1) (hown : w.ownsRow base 31 2 (.slice (some ⟨g, 0, none⟩) hs.length c) hs.length (hnCells hs))
    (hV : Blk w vb #[.string t, .int .i64 x] 31) :
    Calls Tryd.prog 34 #[.slice (some ⟨g, 0, none⟩) hs.length c, .int .i64 i, .slice (some ⟨vb, 0, none⟩) 1 1] w fun e w' => ∃ G, e = .returned (.slice (some ⟨w.heap.size, 0, none⟩) (hs.length + 1) G) ∧ w'.ownsRow base 31 2 (.slice (some ⟨w.heap.size, 0, none⟩) (hs.length + 1) G) (hs.length + 1) (hnCells (hs.take i ++ [⟨t, x⟩] ++ hs.drop i)) ∧ w.grownBy w' none := by
  obtain ⟨i0, hi0, hz0, hzs, hzb⟩ := info_parts infoHn
  obtain ⟨n, hn⟩ : ∃ n, hs.length = n := ⟨_, rfl⟩
  rcases hown.2 with ⟨e, _⟩ | ⟨g', c', cur, e, hbg, hgg, hnc, hcm, hcs, hct⟩
  · cases e
  cases e
  rw [hn] at hi hroom hz hct hown hnc
  rw [hn]
  unfold maxLen at hcm
  have hl0 : (hnCells hs).length = n * 2 := by rw [hnCells_len, hn]
  have hdl : ((hnCells hs).drop (i * 2)).length = (n - i) * 2 := by rw [List.length_drop, hl0]; omega
  have hz2 : ¬ ((i : Int) = (n : Int)) := by omega
  have hz3 : (c : Int) < (n : Int) + 1 := by omega
  have hsz : (Tryd.prog.info? 31).map (·.size) = some 2 := by rw [hi0]; simp [hzs]
  have hgl : g < w.heap.size := (hown.lt g rfl).2
  have hvl := hV.lt
  have hkk : (n : Int) + 1 - (i : Int) = ((n + 1 - i : Nat) : Int) := by omega
  have hik : i + (n + 1 - i) = n + 1 := by omega
  have hold : (Builtin.firstCells i0.size i (.slice (some ⟨g, 0, none⟩) i c)).run Tryd.prog w.drew = .ok ((hnCells hs).take (i * 2)).toArray w.drew := by
    rw [hzs]
    exact run_firstCells_some w.drew 2 i ⟨g, 0, none⟩ i c ((hnCells hs).take (i * 2)) (by rw [List.length_take]; omega) (fun j v hj => by
      rw [Addr.add_lit, Nat.zero_add]
      rw [List.getElem?_take] at hj
      split at hj
      · show w.cell? ⟨g, j, none⟩ = some v
        rw [hown.cellAt j (by omega)]
        exact hj
      · cases hj)
  have hrz : ∀ ty, (Builtin.append_ #[23, 3] ty #[.slice (some ⟨g, 0, none⟩) i c, .int .i64 ((n : Int) + 1 - (i : Int))]).run Tryd.prog w =
      .ok (.slice (some ⟨w.heap.size, 0, none⟩) (n + 1) (grownCap w (n + 1) c 31)) (w.drew.alloc (.cells (((hnCells hs).take (i * 2)).toArray ++ Builtin.zeroCells (Value.agg #[.string ⟨#[]⟩, .int .i64 0]).cells (n + 1 - i) ++ Builtin.zeroCells (Value.agg #[.string ⟨#[]⟩, .int .i64 0]).cells (grownCap w (n + 1) c 31 - (n + 1))) 31)) := fun ty => by
    have h := Lib.run_append_grow_zeros w 23 3 ty 31 i0 _ .i64 .i64 Tryd.underlying23 Tryd.underlying3 hi0 hz0 (some ⟨g, 0, none⟩) i c ((hnCells hs).take (i * 2)) hold (n + 1 - i) (by omega) (by omega) (by omega) (by omega) (by rw [hzb]; omega) (by rw [hzb, hik]; exact growslice_fits hroom (by omega))
    rw [hik] at h
    rw [hkk]
    exact h
  obtain ⟨G, hG⟩ : ∃ G, G = grownCap w (n + 1) c 31 := ⟨_, rfl⟩
  obtain ⟨ROW, hROW⟩ : ∃ ROW : Array Value, ROW = ((hnCells hs).take (i * 2)).toArray ++ Builtin.zeroCells (Value.agg #[.string ⟨#[]⟩, .int .i64 0]).cells (n + 1 - i) ++ Builtin.zeroCells (Value.agg #[.string ⟨#[]⟩, .int .i64 0]).cells (G - (n + 1)) := ⟨_, rfl⟩
  rw [← hG] at hrz
  rw [← hROW] at hrz
  have hGn : n + 1 ≤ G := by rw [hG]; exact grownCap_ge w _ _ _
  have hG63 : G ≤ maxLen := by rw [hG]; exact grownCap_le_maxLen w (n + 1) c 31 (by unfold maxLen; omega)
  have hzc : ∀ k, (Builtin.zeroCells (Value.agg #[.string ⟨#[]⟩, .int .i64 0]).cells k).size = k * 2 := fun k => by
    simp [Builtin.zeroCells, Value.cells]
  have hRl : ROW.size = G * 2 := by
    rw [hROW, Array.size_append, Array.size_append, hzc, hzc]
    simp [hl0]
    omega
  have hRt : ROW.toList.take (i * 2) = (hnCells hs).take (i * 2) := by
    rw [hROW, Array.toList_append, Array.toList_append, List.append_assoc, List.take_append_of_le_length (by simp; omega), List.take_of_length_le (by simp; omega)]
  obtain ⟨W1, hW1⟩ : ∃ W1, W1 = w.drew.alloc (.cells ROW 31) := ⟨_, rfl⟩
  rw [← hW1] at hrz
  have hgW : w.grownBy W1 none := by
    rw [hW1]
    exact grown_none ((below_drewN (Below.refl _ w) 1).alloc (Nat.le_refl _) _)
  have ho1 : W1.ownsRow base 31 2 (.slice (some ⟨w.heap.size, 0, none⟩) (n + 1) G) (n + 1) (ROW.toList.take ((n + 1) * 2)) := by
    refine ⟨by simp; omega, .inr ⟨w.heap.size, G, ROW, rfl, hb, ?_, hGn, hG63, hRl, rfl⟩⟩
    rw [hW1]
    exact Blk.new w.drew ROW 31
  obtain ⟨hoA, hgA⟩ := own_setCells [.string t, .int .i64 x] (i * 2) W1 _ ho1 (by simp; omega)
  have hN : ∀ j, j < (n + 1) * 2 → (W1.cell? ⟨w.heap.size, j, none⟩).isSome = true := fun j hj => by
    rw [ho1.cellAt j (by omega)]
    simp
    omega
  have hNf : ∀ j, W1.frozen? ⟨w.heap.size, j, none⟩ = false := fun j => ho1.frozenAt _
  have hVa : Blk W1 vb #[.string t, .int .i64 x] 31 := (hgW.block vb hvl (by simp)).trans hV
  have hcpA : ∀ (W : World), (∀ x, W.cell? x = W1.cell? x) → (∀ x, W.frozen? x = W1.frozen? x) → ∀ ty dc, (Builtin.copy_ #[23, 23] ty #[.slice (some ⟨w.heap.size, i * 2, none⟩) (n + 1 - i) dc, .slice (some ⟨vb, 0, none⟩) 1 1]).run Tryd.prog W = .ok (goInt (Nat.min 1 (n + 1 - i))) (W.setCells w.heap.size (i * 2) [.string t, .int .i64 x]) := fun W hWc hWf ty dc =>
    copy_two W _ _ ty 31 w.heap.size (i * 2) (n + 1 - i) dc ⟨vb, 0, none⟩ 1 1 _ Tryd.underlying23 hsz (by simp only [Nat.min_def]; split <;> simp <;> omega)
      (fun j v hj => by rw [hWc, addr_add, Nat.zero_add, hVa.cell j]; simpa using hj)
      (fun j hj => by rw [hWc]; exact hN _ (by simp at hj; omega)) (fun j _ => by rw [hWf]; exact hNf _) (hn_one _ _)
  obtain ⟨W2, hW2⟩ : ∃ W2, W2 = W1.setCells w.heap.size (i * 2) [.string t, .int .i64 x] := ⟨_, rfl⟩
  rw [← hW2] at hoA hgA
  have hg2 : w.grownBy W2 none := grown_fresh hgW hgA (Nat.le_refl _)
  have hcpB : ∀ (W : World), (∀ x, W.cell? x = W2.cell? x) → (∀ x, W.frozen? x = W2.frozen? x) → ∀ ty dc sc, (Builtin.copy_ #[23, 23] ty #[.slice (some ⟨w.heap.size, (i + 1) * 2, none⟩) (n - i) dc, .slice (some ⟨g, i * 2, none⟩) (n - i) sc]).run Tryd.prog W = .ok (goInt (Nat.min (n - i) (n - i))) (W.setCells w.heap.size ((i + 1) * 2) ((hnCells hs).drop (i * 2))) := fun W hWc hWf ty dc sc =>
    copy_two W _ _ ty 31 w.heap.size ((i + 1) * 2) (n - i) dc ⟨g, i * 2, none⟩ (n - i) sc _ Tryd.underlying23 hsz (by rw [hdl]; simp only [Nat.min_def]; split <;> omega)
      (fun j v hj => by
        rw [hWc, addr_add]
        rw [List.getElem?_drop] at hj
        have hlt : i * 2 + j < n * 2 := by rw [← hl0]; exact (List.getElem?_eq_some_iff.1 hj).1
        have h := hown.cellAt (i * 2 + j) (by omega)
        rw [hj] at h
        exact hg2.cell h (by simp))
      (fun j hj => by rw [hWc, hoA.cellAt ((i + 1) * 2 + j) (by omega)]; have := hoA.1; rw [List.getElem?_eq_getElem (by omega)]; rfl) (fun j _ => by rw [hWf]; exact hoA.frozenAt _) (fun v hv => hns_one hs v (List.mem_of_mem_drop hv))
  obtain ⟨hoB, hgB⟩ := own_setCells ((hnCells hs).drop (i * 2)) ((i + 1) * 2) W2 _ hoA (by have := hoA.1; rw [hdl]; omega)
  rw [grow_cells hs n i t x ROW.toList hn hi hRt (by simp; omega)] at hoB
  have HOB : Hid ((W2.setCells w.heap.size ((i + 1) * 2) ((hnCells hs).drop (i * 2))).ownsRow base 31 2 (.slice (some ⟨w.heap.size, 0, none⟩) (n + 1) G) (n + 1) (hnCells (hs.take i ++ [⟨t, x⟩] ++ hs.drop i))) := hoB
  have HGB : Hid (w.grownBy (W2.setCells w.heap.size ((i + 1) * 2) ((hnCells hs).drop (i * 2))) none) := grown_fresh hg2 hgB (Nat.le_refl _)
  unfold maxLen at hG63
  have hGi : ¬ (G = i) := by omega
  have hGim : ¬ (G = i + 1) := by omega
  have hci : ¬ (c = i) := by omega
  have hq1 : IntKind.i64.wrap ((i : Int) + 1) = (i : Int) + 1 := by rw [IntKind.wrap_i64]; omega
  have hq2 : (0 : Int) ≤ (i : Int) + 1 := by omega
  have hq3 : (i : Int) + 1 ≤ (n : Int) + 1 := by omega
  have hq4 : ((i : Int) + 1).toNat = i + 1 := by omega
  have hq6 : (i : Int) ≤ (n : Int) := by omega
  subst hW2
  subst hW1
  have hE1 : ∀ y, ((w.alloc (.cells ROW 31)).drew).cell? y = (w.drew.alloc (.cells ROW 31)).cell? y := fun _ => rfl
  have hE2 : ∀ y, ((w.alloc (.cells ROW 31)).drew).frozen? y = (w.drew.alloc (.cells ROW 31)).frozen? y := fun _ => rfl
  have hF1 : ∀ y, (((w.alloc (.cells ROW 31)).drew.setCells w.heap.size (i * 2) [.string t, .int .i64 x]).drew).cell? y = ((w.drew.alloc (.cells ROW 31)).setCells w.heap.size (i * 2) [.string t, .int .i64 x]).cell? y := fun _ => rfl
  have hF2 : ∀ y, (((w.alloc (.cells ROW 31)).drew.setCells w.heap.size (i * 2) [.string t, .int .i64 x]).drew).frozen? y = ((w.drew.alloc (.cells ROW 31)).setCells w.heap.size (i * 2) [.string t, .int .i64 x]).frozen? y := fun _ => rfl
  clear hoA hgA hoB hgB hVa ho1 hown hV hg2 hgW hN hNf hkk hik hold hROW hG hRl hRt hzc hgg hcs hct hcm
  go_enter Tryd.func34, Tryd.ntmps34
  go_wp2_with (first
    | (at_builtin; refine Lib.wpList_append_run _ rfl _ _ _ _ rfl _ _ rfl rfl _ _ (hrz _) ?_)
    | (at_builtin; refine wpList_copy_run2 _ rfl _ _ 23 23 rfl _ _ rfl rfl (hcpA _ hE1 hE2 _ _) ?_))
  go_region_law (refine step_copy_run2 (by rfl) _ _ 23 23 (by rfl) (.slice (some ⟨w.heap.size, (i + 1) * 2, none⟩) (n - i) (G - (i + 1))) (.slice (some ⟨g, i * 2, none⟩) (n - i) (c - i)) (by simp [Act.eval, Act.put]) (by simp [Act.eval, Act.put]) (hcpB _ hF1 hF2 3 (G - (i + 1)) (c - i)) ?_)
  go_wp2
  go_ret
  rw [setCells_drew]
  exact ⟨G, rfl, And.intro HOB.out.1 HOB.out.2, ⟨HGB.out.os, HGB.out.tape, HGB.out.output, HGB.out.size, HGB.out.block⟩⟩
end Go.Proofs.YtgmfaganaeibkaaDoor
