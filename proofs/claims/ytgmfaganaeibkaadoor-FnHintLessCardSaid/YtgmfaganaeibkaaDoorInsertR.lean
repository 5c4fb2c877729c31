/- slices.Insert over hints, in place. -/
import Derived.Test.YtgmfaganaeibkaaDoorInsertH
import Derived.Lib.Overlaps
import Derived.Laws.Externs
namespace Go.Proofs.YtgmfaganaeibkaaDoor
open Go.RowKit
set_option linter.unusedVariables false

theorem hnCells_take : ∀ (hs : List Hn) (i : Nat), hnCells (hs.take i) = (hnCells hs).take (i * 2)
  | [], i => by simp [hnCells]
  | h :: hs, 0 => by simp [hnCells]
  | h :: hs, i + 1 => by
    rw [List.take_succ_cons, hnCells_cons, hnCells_cons, hnCells_take hs i, show (i + 1) * 2 = i * 2 + 1 + 1 by omega]
    rfl
theorem hnCells_drop : ∀ (hs : List Hn) (i : Nat), hnCells (hs.drop i) = (hnCells hs).drop (i * 2)
  | [], i => by simp [hnCells]
  | h :: hs, 0 => by simp
  | h :: hs, i + 1 => by
    rw [List.drop_succ_cons, hnCells_cons, hnCells_drop hs i, show (i + 1) * 2 = i * 2 + 1 + 1 by omega]
    rfl
theorem ins_cells (hs : List Hn) (n i : Nat) (t : ByteArray) (x : Int) (C : List Value) (hn : hs.length = n) (hi : i < n) (hC : C.take (n * 2) = hnCells hs) (hl : (n + 1) * 2 ≤ C.length) :
    (((C.take ((n + 1) * 2)).take ((i + 1) * 2) ++ (hnCells hs).drop (i * 2) ++ (C.take ((n + 1) * 2)).drop ((i + 1) * 2 + ((hnCells hs).drop (i * 2)).length)).take (i * 2) ++ [Value.string t, .int .i64 x] ++ ((C.take ((n + 1) * 2)).take ((i + 1) * 2) ++ (hnCells hs).drop (i * 2) ++ (C.take ((n + 1) * 2)).drop ((i + 1) * 2 + ((hnCells hs).drop (i * 2)).length)).drop (i * 2 + [Value.string t, .int .i64 x].length)) = hnCells (hs.take i ++ [⟨t, x⟩] ++ hs.drop i) := by
  have hlen : (hnCells hs).length = n * 2 := by rw [hnCells_len, hn]
  have hD : ((hnCells hs).drop (i * 2)).length = (n - i) * 2 := by rw [List.length_drop, hlen]; omega
  have hT : (C.take ((n + 1) * 2)).take ((i + 1) * 2) = C.take ((i + 1) * 2) := by rw [List.take_take]; congr 1; omega
  have hTl : (C.take ((i + 1) * 2)).length = (i + 1) * 2 := by rw [List.length_take]; omega
  have hE : (C.take ((n + 1) * 2)).drop ((i + 1) * 2 + ((hnCells hs).drop (i * 2)).length) = [] := by
    apply List.drop_of_length_le
    rw [List.length_take, hD]
    omega
  rw [hT, hE, List.append_nil, List.take_append_of_le_length (by rw [hTl]; omega), List.take_take, show min (i * 2) ((i + 1) * 2) = i * 2 by omega, show i * 2 + [Value.string t, .int .i64 x].length = (i + 1) * 2 by simp; omega, List.drop_append_of_le_length (by rw [hTl]; omega), List.drop_of_length_le (by rw [hTl]; omega), List.nil_append,
    hnCells_app, hnCells_app, hnCells_take, hnCells_drop, ← hC, List.take_take, show min (i * 2) (n * 2) = i * 2 by omega]
  rfl
theorem wp_copy_run2 {P : Program} (w : World) {o : Oper} {a : Act} {K : Act → World → Prop} {Q : Exit → Act → World → Prop} (d s : Operand) (dT sT : TypeId)
    (ho : o.op = .call { callee := .builtin .copy, args := #[d, s], argTypes := #[dT, sT] }) (v u : Value) (hd : a.eval d = v) (hs : a.eval s = u) {v' : Value} {w' : World}
    (hr : (Builtin.copy_ #[dT, sT] o.type #[v, u]).run P w = .ok v' w') (h : K (a.put o.dst v') w') : o.wp P a w K Q := by
  unfold Oper.wp execOp
  simp only [ho, resolve, invoke, builtin, Sem.run_bind, Sem.run_pure, Result.andThen_ok, List.map_toArray, List.map_cons, List.map_nil, hd, hs, hr]
  exact h
theorem step_copy_run2 {P : Program} {ops : Array Oper} {w : World} {o : Oper} {a : Act} {K : Act → World → Prop} {Q : Exit → Act → World → Prop} {E : Prop} (hgd : o.guard = none) (d s : Operand) (dT sT : TypeId)
    (ho : o.op = .call { callee := .builtin .copy, args := #[d, s], argTypes := #[dT, sT] }) (v u : Value) (hd : a.eval d = v) (hs : a.eval s = u) {v' : Value} {w' : World}
    (hr : (Builtin.copy_ #[dT, sT] o.type #[v, u]).run P w = .ok v' w') (h : K (a.put o.dst v') w') : if Region.wanted o (yielded ops a.tmps) = true then Oper.wp P o a w K Q else E := by
  have hw : Region.wanted o (yielded ops a.tmps) = true := by simp [Region.wanted, hgd]
  rw [if_pos hw]
  exact wp_copy_run2 w d s dT sT ho v u hd hs hr h
theorem wpList_copy_run2 {P : Program} (w : World) {ops : Array Oper} {rest : List Oper} {o : Oper} {a : Act} {Q : Exit → Act → World → Prop} (hgd : o.guard = none) (d s : Operand) (dT sT : TypeId)
    (ho : o.op = .call { callee := .builtin .copy, args := #[d, s], argTypes := #[dT, sT] }) (v u : Value) (hd : a.eval d = v) (hs : a.eval s = u) {v' : Value} {w' : World}
    (hr : (Builtin.copy_ #[dT, sT] o.type #[v, u]).run P w = .ok v' w') (h : wpList P ops Q rest (a.put o.dst v') w') : wpList P ops Q (o :: rest) a w :=
  wpList_plain hgd fun _ hK => wp_copy_run2 w d s dT sT ho v u hd hs hr (hK _ _ h)
set_option maxRecDepth 100000 in
set_option maxHeartbeats 2000000 in
theorem insertH_room (base g c vb i : Nat) (hs : List Hn) (t : ByteArray) (x : Int) (w : World) (hz : hs.length ≤ 1048576) (hi : i < hs.length) (hroom : hs.length + 1 ≤ c) (hown : w.ownsRow base 31 2 (.slice (some ⟨g, 0, none⟩) hs.length c) hs.length (hnCells hs))
    (hV : Blk w vb #[.string t, .int .i64 x] 31) (hvg : vb ≠ g) :
    Calls Tryd.prog 34 #[.slice (some ⟨g, 0, none⟩) hs.length c, .int .i64 i, .slice (some ⟨vb, 0, none⟩) 1 1] w fun e w' => e = .returned (.slice (some ⟨g, 0, none⟩) (hs.length + 1) c) ∧ w'.ownsRow base 31 2 (.slice (some ⟨g, 0, none⟩) (hs.length + 1) c) (hs.length + 1) (hnCells (hs.take i ++ [⟨t, x⟩] ++ hs.drop i)) ∧ w.grownBy w' (some g) := by
  obtain ⟨n, hn⟩ : ∃ n, hs.length = n := ⟨_, rfl⟩
  rcases hown.2 with ⟨e, _⟩ | ⟨g', c', cur, e, hbg, hgg, _, hcm, hcs, hct⟩
  · cases e
  cases e
  rw [hn] at hi hroom hz hct hown
  rw [hn]
  unfold maxLen at hcm
  have h1 : ¬ ((i : Int) = (n : Int)) := by omega
  have h2 : (i : Int) ≤ (n : Int) := by omega
  have h3 : (i : Int) ≤ (c : Int) := by omega
  have h4 : ¬ (c = i) := by omega
  have h5 : ((n : Int) + 1) ≤ (c : Int) := by omega
  have h6 : decide ((c : Int) < (n : Int) + 1) = false := decide_eq_false (by omega)
  have hsA : w.shape? vb = some (31, 2) := by unfold World.shape?; rw [hV]; rfl
  have hsB : w.shape? g = some (31, cur.size) := by unfold World.shape?; rw [hgg]
  have hov : (callFunc 54 #[.slice (some ⟨vb, 0, none⟩) 1 1, .slice (some ⟨g, (i + 1) * 2, none⟩) (n - i) (c - (i + 1))]).run Tryd.prog w = .ok (.value (.bool false)) w := by
    rw [run_callFunc_extern Tryd.func54 (by kernel_rfl) (by kernel_rfl) (by kernel_rfl) (e := Extern.SlicesOverlaps.overlaps #[23, 23] #[4]) (by kernel_rfl),
      Lib.run_overlaps_apart w 23 4 31 Tryd.underlying23 2 Tryd.sizeOf31 ⟨vb, 0, none⟩ ⟨g, (i + 1) * 2, none⟩ 1 1 (n - i) (c - (i + 1)) hvg 31 31 2 cur.size hsA hsB (by omega) (hV.frozen 0) (hV.frozen 2)]
    rfl
  have hl0 : (hnCells hs).length = n * 2 := by rw [hnCells_len, hn]
  have hxl : (cur.toList.take ((n + 1) * 2)).length = (n + 1) * 2 := by simp; omega
  have ho1 : w.drew.ownsRow base 31 2 (.slice (some ⟨g, 0, none⟩) (n + 1) c) (n + 1) (cur.toList.take ((n + 1) * 2)) :=
    ⟨hxl, .inr ⟨g, c, cur, rfl, hbg, hgg, hroom, hcm, hcs, rfl⟩⟩
  have hdl : ((hnCells hs).drop (i * 2)).length = (n - i) * 2 := by rw [List.length_drop, hl0]; omega
  have hcell : ∀ j, j < c * 2 → (w.drew.cell? ⟨g, j, none⟩).isSome = true := fun j hj => by
    show (w.cell? ⟨g, j, none⟩).isSome = true
    simp [World.cell?, hgg]
    omega
  have hfr : ∀ j, w.drew.frozen? ⟨g, j, none⟩ = false := fun j => by
    show w.frozen? ⟨g, j, none⟩ = false
    simp [World.frozen?, hgg]
  have hsz : (Tryd.prog.info? 31).map (·.size) = some 2 := by
    obtain ⟨i0, hi0, _, h1', _⟩ := info_parts infoHn
    rw [hi0]
    simp [h1']
  have hcp1 : ∀ ty dc sc, (Builtin.copy_ #[23, 23] ty #[.slice (some ⟨g, (i + 1) * 2, none⟩) (n - i) dc, .slice (some ⟨g, i * 2, none⟩) (n + 1 - i) sc]).run Tryd.prog w.drew = .ok (goInt (Nat.min (n + 1 - i) (n - i))) (w.drew.setCells g ((i + 1) * 2) ((hnCells hs).drop (i * 2))) := fun ty dc sc =>
    copy_two w.drew _ _ ty 31 g ((i + 1) * 2) (n - i) dc ⟨g, i * 2, none⟩ (n + 1 - i) sc _ Tryd.underlying23 hsz (by rw [hdl]; simp only [Nat.min_def]; split <;> omega)
      (fun j v hj => by
        rw [addr_add]
        show w.cell? ⟨g, i * 2 + j, none⟩ = some v
        rw [List.getElem?_drop] at hj
        have hlt : i * 2 + j < n * 2 := by rw [← hl0]; exact (List.getElem?_eq_some_iff.1 hj).1
        rw [hown.cellAt (i * 2 + j) (by omega)]
        exact hj)
      (fun j hj => hcell _ (by omega)) (fun j _ => hfr _) (fun v hv => hns_one hs v (List.mem_of_mem_drop hv))
  obtain ⟨W1, hW1⟩ : ∃ W1, w.drew.setCells g ((i + 1) * 2) ((hnCells hs).drop (i * 2)) = W1 := ⟨_, rfl⟩
  obtain ⟨hoA, hgA⟩ := own_setCells ((hnCells hs).drop (i * 2)) ((i + 1) * 2) w.drew _ ho1 (by rw [hdl, hxl]; omega)
  rw [hW1] at hcp1 hoA hgA
  have hVa : Blk W1 vb #[.string t, .int .i64 x] 31 := (hgA.block vb hV.lt (by simpa using hvg)).trans hV
  have hcp2 : ∀ ty dc, (Builtin.copy_ #[23, 23] ty #[.slice (some ⟨g, i * 2, none⟩) (n + 1 - i) dc, .slice (some ⟨vb, 0, none⟩) 1 1]).run Tryd.prog W1 = .ok (goInt (Nat.min 1 (n + 1 - i))) (W1.setCells g (i * 2) [.string t, .int .i64 x]) := fun ty dc =>
    copy_two W1 _ _ ty 31 g (i * 2) (n + 1 - i) dc ⟨vb, 0, none⟩ 1 1 _ Tryd.underlying23 hsz (by simp only [Nat.min_def]; split <;> simp <;> omega)
      (fun j v hj => by rw [addr_add, Nat.zero_add, hVa.cell j]; simpa using hj)
      (fun j hj => by rw [hoA.cellAt (i * 2 + j) (by simp at hj; omega)]; simp at hj; simp; omega) (fun j _ => hoA.frozenAt _) (hn_one _ _)
  obtain ⟨hoB, hgB⟩ := own_setCells [.string t, .int .i64 x] (i * 2) W1 _ hoA (by simp; omega)
  have HOB : Hid ((W1.setCells g (i * 2) [.string t, .int .i64 x]).ownsRow base 31 2 (.slice (some ⟨g, 0, none⟩) (n + 1) c) (n + 1) (hnCells (hs.take i ++ [⟨t, x⟩] ++ hs.drop i))) := by
    unfold Hid
    rw [ins_cells hs n i t x cur.toList hn (by omega) hct (by simp; omega)] at hoB
    exact hoB
  have HGB : Hid (w.grownBy (W1.setCells g (i * 2) [.string t, .int .i64 x]) (some g)) := grown_then (⟨hgA.os, hgA.tape, hgA.output, hgA.size, hgA.block⟩ : w.grownBy W1 (some g)) hgB
  have hq1 : IntKind.i64.wrap ((i : Int) + 1) = (i : Int) + 1 := by rw [IntKind.wrap_i64]; omega
  have hq2 : (0 : Int) ≤ (i : Int) + 1 := by omega
  have hq3 : (i : Int) + 1 ≤ (n : Int) + 1 := by omega
  have hq4 : ((i : Int) + 1).toNat = i + 1 := by omega
  have hq5 : ¬ (c = i + 1) := by omega
  have hq6 : (i : Int) ≤ (n : Int) + 1 := by omega
  clear hoA hgA hoB hgB hVa ho1 hcell hfr hown hV hW1 hsA hsB
  go_enter Tryd.func34, Tryd.ntmps34
  go_wp2_with (simp only [hov])
  go_region_law (refine step_copy_run2 (by rfl) _ _ 23 23 (by rfl) _ _ (by simp [Act.eval, Act.put]) (by simp [Act.eval, Act.put]) (hcp1 _ _ _) ?_)
  go_wp2_with (at_builtin; refine wpList_copy_run2 _ rfl _ _ 23 23 rfl _ _ rfl rfl (hcp2 _ _) ?_)
  go_ret
  exact ⟨rfl, HOB.out, HGB.out⟩
end Go.Proofs.YtgmfaganaeibkaaDoor
