/- Copy2, InsertH, InsertR, InsertG, InsertA: in one text. -/
import Derived.Test.YtgmfaganaeibkaaDoorHintCopy
import Derived.Laws.IdiomCopy
import Derived.Lib.Overlaps
import Derived.Laws.Externs
import Derived.Lib.AppendZerosOnto
import Derived.Laws.NewBlocks
import Derived.Test.YtgmfaganaeibkaaDoorSearchH
/- copy between slices whose elements have two cells. -/
namespace Go.Proofs.YtgmfaganaeibkaaDoor
open Go.RowKit
set_option linter.unusedVariables false

/-- What is copied is read ahead of all that is written. -/
theorem copy_two {P : Program} (w : World) (dT sT ty elem : TypeId) (b o dLen dCap : Nat) (a : Addr) (sLen sCap : Nat) (cs : List Value)
    (hu : P.underlying dT = some (.slice elem)) (hs : (P.info? elem).map (·.size) = some 2) (hn : cs.length = Nat.min sLen dLen * 2)
    (hsrc : ∀ j v, cs[j]? = some v → w.cell? (a.add j) = some v) (hc : ∀ j, j < cs.length → (w.cell? ⟨b, o + j, none⟩).isSome = true) (hf : ∀ j, j < cs.length → w.frozen? ⟨b, o + j, none⟩ = false) (h1 : ∀ v ∈ cs, v.oneCell' = true) :
    (Builtin.copy_ #[dT, sT] ty #[.slice (some ⟨b, o, none⟩) dLen dCap, .slice (some a) sLen sCap]).run P w = .ok (goInt (Nat.min sLen dLen)) (w.setCells b o cs) := by
  have hl := run_loadCells_list (P := P) w a cs hsrc
  have hst := run_storeCells_cells (P := P) b o cs 0 w (by simpa using hc) (by simpa using hf) h1
  cases hq : P.info? elem with
  | none => simp [hq] at hs
  | some i =>
    have hi : i.size = 2 := by simpa [hq] using hs
    simp [Builtin.copy_, run_underlying hu, Builtin.lenOf, Builtin.firstCells, sizeOf, typeInfo, hq, hi, ← hn, hl, hst]
/-- Cells written one behind the other into a row of one's own. -/
theorem own_setCells {base g : Nat} {e : TypeId} {size n c : Nat} : ∀ (ys : List Value) (o : Nat) (w : World) (xs : List Value), w.ownsRow base e size (.slice (some ⟨g, 0, none⟩) n c) n xs → o + ys.length ≤ xs.length →
    (w.setCells g o ys).ownsRow base e size (.slice (some ⟨g, 0, none⟩) n c) n (xs.take o ++ ys ++ xs.drop (o + ys.length)) ∧ w.grownBy (w.setCells g o ys) (some g)
  | [], o, w, xs, h, hl => by
    simp only [World.setCells, List.append_nil, List.length_nil, Nat.add_zero, List.take_append_drop]
    exact ⟨h, World.grownBy.refl _ _⟩
  | y :: ys, o, w, xs, h, hl => by
    rw [List.length_cons] at hl
    obtain ⟨h1, _⟩ := h.stored o y
    obtain ⟨h2, h3⟩ := own_setCells ys (o + 1) (w.setCell ⟨g, o, none⟩ y) (xs.set o y) h1 (by rw [List.length_set]; omega)
    refine ⟨?_, grown_then (grown_cell _ _ _ _) h3⟩
    have e1 : (xs.set o y).take (o + 1) = xs.take o ++ [y] := by
      rw [List.take_add_one, List.take_set_of_le (Nat.le_refl _), List.getElem?_set_self (by omega)]
      rfl
    have e2 : (xs.set o y).drop (o + 1 + ys.length) = xs.drop (o + 1 + ys.length) := by rw [List.drop_set_of_lt (by omega)]
    rw [e1, e2] at h2
    rw [World.setCells, List.length_cons, show o + (ys.length + 1) = o + 1 + ys.length by omega]
    simpa using h2
end Go.Proofs.YtgmfaganaeibkaaDoor

/- slices.Insert over hints. -/
namespace Go.Proofs.YtgmfaganaeibkaaDoor
open Go.RowKit
set_option linter.unusedVariables false

set_option maxRecDepth 100000 in
set_option maxHeartbeats 2000000 in
theorem insertH_end (base vb : Nat) (v : Value) (hs : List Hn) (t : ByteArray) (x : Int) (w : World) (hz : hs.length ≤ 1048576) (hb : base ≤ w.heap.size) (hown : w.ownsRow base 31 2 v hs.length (hnCells hs))
    (hv : ∀ j u, [Value.string t, .int .i64 x][j]? = some u → w.cell? ((⟨vb, 0, none⟩ : Addr).add j) = some u) :
    Calls Tryd.prog 34 #[v, .int .i64 hs.length, .slice (some ⟨vb, 0, none⟩) 1 1] w fun e w' => ∃ v', e = .returned v' ∧ w'.ownsRow base 31 2 v' (hs.length + 1) (hnCells (hs ++ [⟨t, x⟩])) ∧ w.grownBy w' v.ownBlock := by
  obtain ⟨i0, hi, hz0, hz1, hz2⟩ := info_parts infoHn
  have HO : Hid (w.ownsRow base 31 2 v hs.length (hnCells hs)) := hown
  have HV : Hid (∀ j u, [Value.string t, .int .i64 x][j]? = some u → w.cell? ((⟨vb, 0, none⟩ : Addr).add j) = some u) := hv
  have HS : Hid (hnCells (hs ++ [⟨t, x⟩]) = hnCells hs ++ [.string t, .int .i64 x]) := hnCells_snoc hs ⟨t, x⟩
  rcases hown.2 with ⟨rfl, h0⟩ | ⟨g, c, cur, rfl, _, _, hnc, hcm, _⟩
  · obtain rfl : hs = [] := List.eq_nil_of_length_eq_zero h0
    clear hown hv
    go_enter Tryd.func34, Tryd.ntmps34
    go_wp2_with (at_builtin; refine wpList_append_own _ rfl _ _ 23 rfl base 31 i0 (.agg #[.string ⟨#[]⟩, .int .i64 0]) 2 24 Tryd.underlying23 hi hz0 hz1 hz2 rfl (by decide) (.slice none 0 0) 0 (hnCells []) rfl HO.out ⟨vb, 0, none⟩ 1 1 [.string t, .int .i64 x] rfl rfl HV.out (hn_one _ _) (by unfold maxLen; omega) (by omega) hb ?_)
    intro v' w7 hown' hgrow _
    have HO7 : Hid (w7.ownsRow base 31 2 v' (0 + 1) (hnCells ([] ++ [⟨t, x⟩]))) := by unfold Hid; rw [HS.out]; exact hown'
    have HG : Hid (w.grownBy w7 (Value.slice none 0 0).ownBlock) := hgrow
    clear hown' hgrow HO HV HS
    go_wp2
    go_ret
    exact ⟨v', rfl, HO7.out, HG.out⟩
  · clear hown hv
    unfold maxLen at hcm
    obtain ⟨n, hn⟩ : ∃ n, hs.length = n := ⟨_, rfl⟩
    rw [hn] at HO hz hnc
    rw [hn]
    have hnci : (n : Int) ≤ (c : Int) := by omega
    by_cases hcn : c = n
    · have hcn2 : n = c := hcn.symm
      clear hcn
      subst hcn2
      go_enter Tryd.func34, Tryd.ntmps34
      go_wp2_with (at_builtin; refine wpList_append_own _ rfl _ _ 23 rfl base 31 i0 (.agg #[.string ⟨#[]⟩, .int .i64 0]) 2 24 Tryd.underlying23 hi hz0 hz1 hz2 rfl (by decide) _ n (hnCells hs) rfl HO.out ⟨vb, 0, none⟩ 1 1 [.string t, .int .i64 x] rfl rfl HV.out (hn_one _ _) (by unfold maxLen; omega) (by omega) hb ?_)
      intro v' w7 hown' hgrow _
      have HO7 : Hid (w7.ownsRow base 31 2 v' (n + 1) (hnCells (hs ++ [⟨t, x⟩]))) := by unfold Hid; rw [HS.out]; exact hown'
      have HG : Hid (w.grownBy w7 (Value.slice (some ⟨g, 0, none⟩) n n).ownBlock) := hgrow
      clear hown' hgrow HO HV HS
      go_wp2
      go_ret
      exact ⟨v', rfl, HO7.out, HG.out⟩
    · go_enter Tryd.func34, Tryd.ntmps34
      go_wp2_with (at_builtin; refine wpList_append_own _ rfl _ _ 23 rfl base 31 i0 (.agg #[.string ⟨#[]⟩, .int .i64 0]) 2 24 Tryd.underlying23 hi hz0 hz1 hz2 rfl (by decide) _ n (hnCells hs) rfl HO.out ⟨vb, 0, none⟩ 1 1 [.string t, .int .i64 x] rfl rfl HV.out (hn_one _ _) (by unfold maxLen; omega) (by omega) hb ?_)
      intro v' w7 hown' hgrow _
      have HO7 : Hid (w7.ownsRow base 31 2 v' (n + 1) (hnCells (hs ++ [⟨t, x⟩]))) := by unfold Hid; rw [HS.out]; exact hown'
      have HG : Hid (w.grownBy w7 (Value.slice (some ⟨g, 0, none⟩) n c).ownBlock) := hgrow
      clear hown' hgrow HO HV HS
      go_wp2
      go_ret
      exact ⟨v', rfl, HO7.out, HG.out⟩
end Go.Proofs.YtgmfaganaeibkaaDoor

/- slices.Insert over hints, in place. -/
namespace Go.Proofs.YtgmfaganaeibkaaDoor
open Go.RowKit
set_option linter.unusedVariables false

theorem hnCells_take : ∀ (hs : List Hn) (i : Nat), hnCells (hs.take i) = (hnCells hs).take (i * 2)
  | [], i => by simp [hnCells]
  | h :: hs, 0 => by simp [hnCells]
  | h :: hs, i + 1 => by
    rw [List.take_succ_cons, hnCells_cons, hnCells_cons, hnCells_take hs i, show (i + 1) * 2 = i * 2 + 1 + 1 by omega]
    rfl
theorem hnCells_drop : ∀ (hs : List Hn) (i : Nat), hnCells (hs.drop i) = (hnCells hs).drop (i * 2)
  | [], i => by simp [hnCells]
  | h :: hs, 0 => by simp
  | h :: hs, i + 1 => by
    rw [List.drop_succ_cons, hnCells_cons, hnCells_drop hs i, show (i + 1) * 2 = i * 2 + 1 + 1 by omega]
    rfl
theorem ins_cells (hs : List Hn) (n i : Nat) (t : ByteArray) (x : Int) (C : List Value) (hn : hs.length = n) (hi : i < n) (hC : C.take (n * 2) = hnCells hs) (hl : (n + 1) * 2 ≤ C.length) :
    (((C.take ((n + 1) * 2)).take ((i + 1) * 2) ++ (hnCells hs).drop (i * 2) ++ (C.take ((n + 1) * 2)).drop ((i + 1) * 2 + ((hnCells hs).drop (i * 2)).length)).take (i * 2) ++ [Value.string t, .int .i64 x] ++ ((C.take ((n + 1) * 2)).take ((i + 1) * 2) ++ (hnCells hs).drop (i * 2) ++ (C.take ((n + 1) * 2)).drop ((i + 1) * 2 + ((hnCells hs).drop (i * 2)).length)).drop (i * 2 + [Value.string t, .int .i64 x].length)) = hnCells (hs.take i ++ [⟨t, x⟩] ++ hs.drop i) := by
  have hlen : (hnCells hs).length = n * 2 := by rw [hnCells_len, hn]
  have hD : ((hnCells hs).drop (i * 2)).length = (n - i) * 2 := by rw [List.length_drop, hlen]; omega
  have hT : (C.take ((n + 1) * 2)).take ((i + 1) * 2) = C.take ((i + 1) * 2) := by rw [List.take_take]; congr 1; omega
  have hTl : (C.take ((i + 1) * 2)).length = (i + 1) * 2 := by rw [List.length_take]; omega
  have hE : (C.take ((n + 1) * 2)).drop ((i + 1) * 2 + ((hnCells hs).drop (i * 2)).length) = [] := by
    apply List.drop_of_length_le
    rw [List.length_take, hD]
    omega
  rw [hT, hE, List.append_nil, List.take_append_of_le_length (by rw [hTl]; omega), List.take_take, show min (i * 2) ((i + 1) * 2) = i * 2 by omega, show i * 2 + [Value.string t, .int .i64 x].length = (i + 1) * 2 by simp; omega, List.drop_append_of_le_length (by rw [hTl]; omega), List.drop_of_length_le (by rw [hTl]; omega), List.nil_append,
    hnCells_app, hnCells_app, hnCells_take, hnCells_drop, ← hC, List.take_take, show min (i * 2) (n * 2) = i * 2 by omega]
  rfl
theorem wp_copy_run2 {P : Program} (w : World) {o : Oper} {a : Act} {K : Act → World → Prop} {Q : Exit → Act → World → Prop} (d s : Operand) (dT sT : TypeId)
    (ho : o.op = .call { callee := .builtin .copy, args := #[d, s], argTypes := #[dT, sT] }) (v u : Value) (hd : a.eval d = v) (hs : a.eval s = u) {v' : Value} {w' : World}
    (hr : (Builtin.copy_ #[dT, sT] o.type #[v, u]).run P w = .ok v' w') (h : K (a.put o.dst v') w') : o.wp P a w K Q := by
  unfold Oper.wp execOp
  simp only [ho, resolve, invoke, builtin, Sem.run_bind, Sem.run_pure, Result.andThen_ok, List.map_toArray, List.map_cons, List.map_nil, hd, hs, hr]
  exact h
theorem step_copy_run2 {P : Program} {ops : Array Oper} {w : World} {o : Oper} {a : Act} {K : Act → World → Prop} {Q : Exit → Act → World → Prop} {E : Prop} (hgd : o.guard = none) (d s : Operand) (dT sT : TypeId)
    (ho : o.op = .call { callee := .builtin .copy, args := #[d, s], argTypes := #[dT, sT] }) (v u : Value) (hd : a.eval d = v) (hs : a.eval s = u) {v' : Value} {w' : World}
    (hr : (Builtin.copy_ #[dT, sT] o.type #[v, u]).run P w = .ok v' w') (h : K (a.put o.dst v') w') : if Region.wanted o (yielded ops a.tmps) = true then Oper.wp P o a w K Q else E := by
  have hw : Region.wanted o (yielded ops a.tmps) = true := by simp [Region.wanted, hgd]
  rw [if_pos hw]
  exact wp_copy_run2 w d s dT sT ho v u hd hs hr h
theorem wpList_copy_run2 {P : Program} (w : World) {ops : Array Oper} {rest : List Oper} {o : Oper} {a : Act} {Q : Exit → Act → World → Prop} (hgd : o.guard = none) (d s : Operand) (dT sT : TypeId)
    (ho : o.op = .call { callee := .builtin .copy, args := #[d, s], argTypes := #[dT, sT] }) (v u : Value) (hd : a.eval d = v) (hs : a.eval s = u) {v' : Value} {w' : World}
    (hr : (Builtin.copy_ #[dT, sT] o.type #[v, u]).run P w = .ok v' w') (h : wpList P ops Q rest (a.put o.dst v') w') : wpList P ops Q (o :: rest) a w :=
  wpList_plain hgd fun _ hK => wp_copy_run2 w d s dT sT ho v u hd hs hr (hK _ _ h)
set_option maxRecDepth 100000 in
set_option maxHeartbeats 2000000 in
theorem insertH_room (base g c vb i : Nat) (hs : List Hn) (t : ByteArray) (x : Int) (w : World) (hz : hs.length ≤ 1048576) (hi : i < hs.length) (hroom : hs.length + 1 ≤ c) (hown : w.ownsRow base 31 2 (.slice (some ⟨g, 0, none⟩) hs.length c) hs.length (hnCells hs))
    (hV : Blk w vb #[.string t, .int .i64 x] 31) (hvg : vb ≠ g) :
    Calls Tryd.prog 34 #[.slice (some ⟨g, 0, none⟩) hs.length c, .int .i64 i, .slice (some ⟨vb, 0, none⟩) 1 1] w fun e w' => e = .returned (.slice (some ⟨g, 0, none⟩) (hs.length + 1) c) ∧ w'.ownsRow base 31 2 (.slice (some ⟨g, 0, none⟩) (hs.length + 1) c) (hs.length + 1) (hnCells (hs.take i ++ [⟨t, x⟩] ++ hs.drop i)) ∧ w.grownBy w' (some g) := by
  obtain ⟨n, hn⟩ : ∃ n, hs.length = n := ⟨_, rfl⟩
  rcases hown.2 with ⟨e, _⟩ | ⟨g', c', cur, e, hbg, hgg, _, hcm, hcs, hct⟩
  · cases e
  cases e
  rw [hn] at hi hroom hz hct hown
  rw [hn]
  unfold maxLen at hcm
  have h1 : ¬ ((i : Int) = (n : Int)) := by omega
  have h2 : (i : Int) ≤ (n : Int) := by omega
  have h3 : (i : Int) ≤ (c : Int) := by omega
  have h4 : ¬ (c = i) := by omega
  have h5 : ((n : Int) + 1) ≤ (c : Int) := by omega
  have h6 : decide ((c : Int) < (n : Int) + 1) = false := decide_eq_false (by omega)
  have hsA : w.shape? vb = some (31, 2) := by unfold World.shape?; rw [hV]; rfl
  have hsB : w.shape? g = some (31, cur.size) := by unfold World.shape?; rw [hgg]
  have hov : (callFunc 54 #[.slice (some ⟨vb, 0, none⟩) 1 1, .slice (some ⟨g, (i + 1) * 2, none⟩) (n - i) (c - (i + 1))]).run Tryd.prog w = .ok (.value (.bool false)) w := by
    rw [run_callFunc_extern Tryd.func54 (by kernel_rfl) (by kernel_rfl) (by kernel_rfl) (e := Extern.SlicesOverlaps.overlaps #[23, 23] #[4]) (by kernel_rfl),
      Lib.run_overlaps_apart w 23 4 31 Tryd.underlying23 2 Tryd.sizeOf31 ⟨vb, 0, none⟩ ⟨g, (i + 1) * 2, none⟩ 1 1 (n - i) (c - (i + 1)) hvg 31 31 2 cur.size hsA hsB (by omega) (hV.frozen 0) (hV.frozen 2)]
    rfl
  have hl0 : (hnCells hs).length = n * 2 := by rw [hnCells_len, hn]
  have hxl : (cur.toList.take ((n + 1) * 2)).length = (n + 1) * 2 := by simp; omega
  have ho1 : w.drew.ownsRow base 31 2 (.slice (some ⟨g, 0, none⟩) (n + 1) c) (n + 1) (cur.toList.take ((n + 1) * 2)) :=
    ⟨hxl, .inr ⟨g, c, cur, rfl, hbg, hgg, hroom, hcm, hcs, rfl⟩⟩
  have hdl : ((hnCells hs).drop (i * 2)).length = (n - i) * 2 := by rw [List.length_drop, hl0]; omega
  have hcell : ∀ j, j < c * 2 → (w.drew.cell? ⟨g, j, none⟩).isSome = true := fun j hj => by
    show (w.cell? ⟨g, j, none⟩).isSome = true
    simp [World.cell?, hgg]
    omega
  have hfr : ∀ j, w.drew.frozen? ⟨g, j, none⟩ = false := fun j => by
    show w.frozen? ⟨g, j, none⟩ = false
    simp [World.frozen?, hgg]
  have hsz : (Tryd.prog.info? 31).map (·.size) = some 2 := by
    obtain ⟨i0, hi0, _, h1', _⟩ := info_parts infoHn
    rw [hi0]
    simp [h1']
  have hcp1 : ∀ ty dc sc, (Builtin.copy_ #[23, 23] ty #[.slice (some ⟨g, (i + 1) * 2, none⟩) (n - i) dc, .slice (some ⟨g, i * 2, none⟩) (n + 1 - i) sc]).run Tryd.prog w.drew = .ok (goInt (Nat.min (n + 1 - i) (n - i))) (w.drew.setCells g ((i + 1) * 2) ((hnCells hs).drop (i * 2))) := fun ty dc sc =>
    copy_two w.drew _ _ ty 31 g ((i + 1) * 2) (n - i) dc ⟨g, i * 2, none⟩ (n + 1 - i) sc _ Tryd.underlying23 hsz (by rw [hdl]; simp only [Nat.min_def]; split <;> omega)
      (fun j v hj => by
        rw [addr_add]
        show w.cell? ⟨g, i * 2 + j, none⟩ = some v
        rw [List.getElem?_drop] at hj
        have hlt : i * 2 + j < n * 2 := by rw [← hl0]; exact (List.getElem?_eq_some_iff.1 hj).1
        rw [hown.cellAt (i * 2 + j) (by omega)]
        exact hj)
      (fun j hj => hcell _ (by omega)) (fun j _ => hfr _) (fun v hv => hns_one hs v (List.mem_of_mem_drop hv))
  obtain ⟨W1, hW1⟩ : ∃ W1, w.drew.setCells g ((i + 1) * 2) ((hnCells hs).drop (i * 2)) = W1 := ⟨_, rfl⟩
  obtain ⟨hoA, hgA⟩ := own_setCells ((hnCells hs).drop (i * 2)) ((i + 1) * 2) w.drew _ ho1 (by rw [hdl, hxl]; omega)
  rw [hW1] at hcp1 hoA hgA
  have hVa : Blk W1 vb #[.string t, .int .i64 x] 31 := (hgA.block vb hV.lt (by simpa using hvg)).trans hV
  have hcp2 : ∀ ty dc, (Builtin.copy_ #[23, 23] ty #[.slice (some ⟨g, i * 2, none⟩) (n + 1 - i) dc, .slice (some ⟨vb, 0, none⟩) 1 1]).run Tryd.prog W1 = .ok (goInt (Nat.min 1 (n + 1 - i))) (W1.setCells g (i * 2) [.string t, .int .i64 x]) := fun ty dc =>
    copy_two W1 _ _ ty 31 g (i * 2) (n + 1 - i) dc ⟨vb, 0, none⟩ 1 1 _ Tryd.underlying23 hsz (by simp only [Nat.min_def]; split <;> simp <;> omega)
      (fun j v hj => by rw [addr_add, Nat.zero_add, hVa.cell j]; simpa using hj)
      (fun j hj => by rw [hoA.cellAt (i * 2 + j) (by simp at hj; omega)]; simp at hj; simp; omega) (fun j _ => hoA.frozenAt _) (hn_one _ _)
  obtain ⟨hoB, hgB⟩ := own_setCells [.string t, .int .i64 x] (i * 2) W1 _ hoA (by simp; omega)
  have HOB : Hid ((W1.setCells g (i * 2) [.string t, .int .i64 x]).ownsRow base 31 2 (.slice (some ⟨g, 0, none⟩) (n + 1) c) (n + 1) (hnCells (hs.take i ++ [⟨t, x⟩] ++ hs.drop i))) := by
    unfold Hid
    rw [ins_cells hs n i t x cur.toList hn (by omega) hct (by simp; omega)] at hoB
    exact hoB
  have HGB : Hid (w.grownBy (W1.setCells g (i * 2) [.string t, .int .i64 x]) (some g)) := grown_then (⟨hgA.os, hgA.tape, hgA.output, hgA.size, hgA.block⟩ : w.grownBy W1 (some g)) hgB
  have hq1 : IntKind.i64.wrap ((i : Int) + 1) = (i : Int) + 1 := by rw [IntKind.wrap_i64]; omega
  have hq2 : (0 : Int) ≤ (i : Int) + 1 := by omega
  have hq3 : (i : Int) + 1 ≤ (n : Int) + 1 := by omega
  have hq4 : ((i : Int) + 1).toNat = i + 1 := by omega
  have hq5 : ¬ (c = i + 1) := by omega
  have hq6 : (i : Int) ≤ (n : Int) + 1 := by omega
  clear hoA hgA hoB hgB hVa ho1 hcell hfr hown hV hW1 hsA hsB
  go_enter Tryd.func34, Tryd.ntmps34
  go_wp2_with (simp only [hov])
  go_region_law (refine step_copy_run2 (by rfl) _ _ 23 23 (by rfl) _ _ (by simp [Act.eval, Act.put]) (by simp [Act.eval, Act.put]) (hcp1 _ _ _) ?_)
  go_wp2_with (at_builtin; refine wpList_copy_run2 _ rfl _ _ 23 23 rfl _ _ rfl rfl (hcp2 _ _) ?_)
  go_ret
  exact ⟨rfl, HOB.out, HGB.out⟩
end Go.Proofs.YtgmfaganaeibkaaDoor

/- slices.Insert over hints, in the middle, with no room: a new row. -/
namespace Go.Proofs.YtgmfaganaeibkaaDoor
open Go.RowKit Go.Lib
set_option linter.unusedVariables false

theorem setCells_drew : ∀ (cs : List Value) (b o : Nat) (w : World), w.drew.setCells b o cs = (w.setCells b o cs).drew
  | [], _, _, _ => rfl
  | c :: cs, b, o, w => setCells_drew cs b (o + 1) (w.setCell ⟨b, o, none⟩ c)
theorem grown_fresh {a b c : World} {k : Nat} (h : a.grownBy b none) (h2 : b.grownBy c (some k)) (hk : a.heap.size ≤ k) : a.grownBy c none :=
  ⟨h2.os.trans h.os, h2.tape.trans h.tape, h2.output.trans h.output, Nat.le_trans h.size h2.size, fun j hj hne => (h2.block j (Nat.lt_of_lt_of_le hj h.size) (by simp; omega)).trans (h.block j hj hne)⟩
theorem grow_cells (hs : List Hn) (n i : Nat) (t : ByteArray) (x : Int) (C : List Value) (hn : hs.length = n) (hi : i < n) (hC : C.take (i * 2) = (hnCells hs).take (i * 2)) (hl : (n + 1) * 2 ≤ C.length) :
    (((C.take ((n + 1) * 2)).take (i * 2) ++ [Value.string t, .int .i64 x] ++ (C.take ((n + 1) * 2)).drop (i * 2 + [Value.string t, .int .i64 x].length)).take ((i + 1) * 2) ++ (hnCells hs).drop (i * 2) ++ ((C.take ((n + 1) * 2)).take (i * 2) ++ [Value.string t, .int .i64 x] ++ (C.take ((n + 1) * 2)).drop (i * 2 + [Value.string t, .int .i64 x].length)).drop ((i + 1) * 2 + ((hnCells hs).drop (i * 2)).length)) = hnCells (hs.take i ++ [⟨t, x⟩] ++ hs.drop i) := by
  have hlen : (hnCells hs).length = n * 2 := by rw [hnCells_len, hn]
  have hD : ((hnCells hs).drop (i * 2)).length = (n - i) * 2 := by rw [List.length_drop, hlen]; omega
  have h1 : (C.take ((n + 1) * 2)).take (i * 2) = (hnCells hs).take (i * 2) := by rw [List.take_take, show min (i * 2) ((n + 1) * 2) = i * 2 by omega, hC]
  have h2 : ((hnCells hs).take (i * 2) ++ [Value.string t, .int .i64 x]).length = (i + 1) * 2 := by rw [List.length_append, List.length_take, hlen]; simp; omega
  have h3 : ((C.take ((n + 1) * 2)).drop (i * 2 + [Value.string t, .int .i64 x].length)).length = (n - i) * 2 := by rw [List.length_drop, List.length_take]; simp; omega
  have h4 : ((hnCells hs).take (i * 2) ++ [Value.string t, .int .i64 x] ++ (C.take ((n + 1) * 2)).drop (i * 2 + [Value.string t, .int .i64 x].length)).drop ((i + 1) * 2 + ((hnCells hs).drop (i * 2)).length) = [] := List.drop_of_length_le (by rw [List.length_append, h2, h3, hD]; exact Nat.le_refl _)
  rw [h1, h4, List.take_append_of_le_length (by rw [h2]; exact Nat.le_refl _), List.take_of_length_le (by rw [h2]; exact Nat.le_refl _), List.append_nil,
    hnCells_app, hnCells_app, hnCells_take, hnCells_drop]
  rfl
set_option maxRecDepth 100000 in
set_option maxHeartbeats 4000000 in
theorem insertH_grow (base g c vb i : Nat) (hs : List Hn) (t : ByteArray) (x : Int) (w : World) (hz : hs.length ≤ 1048576) (hi : i < hs.length) (hb : base ≤ w.heap.size) (hroom : c < hs.length + 1) (hown : w.ownsRow base 31 2 (.slice (some ⟨g, 0, none⟩) hs.length c) hs.length (hnCells hs))
    (hV : Blk w vb #[.string t, .int .i64 x] 31) :
    Calls Tryd.prog 34 #[.slice (some ⟨g, 0, none⟩) hs.length c, .int .i64 i, .slice (some ⟨vb, 0, none⟩) 1 1] w fun e w' => ∃ G, e = .returned (.slice (some ⟨w.heap.size, 0, none⟩) (hs.length + 1) G) ∧ w'.ownsRow base 31 2 (.slice (some ⟨w.heap.size, 0, none⟩) (hs.length + 1) G) (hs.length + 1) (hnCells (hs.take i ++ [⟨t, x⟩] ++ hs.drop i)) ∧ w.grownBy w' none := by
  obtain ⟨i0, hi0, hz0, hzs, hzb⟩ := info_parts infoHn
  obtain ⟨n, hn⟩ : ∃ n, hs.length = n := ⟨_, rfl⟩
  rcases hown.2 with ⟨e, _⟩ | ⟨g', c', cur, e, hbg, hgg, hnc, hcm, hcs, hct⟩
  · cases e
  cases e
  rw [hn] at hi hroom hz hct hown hnc
  rw [hn]
  unfold maxLen at hcm
  have hl0 : (hnCells hs).length = n * 2 := by rw [hnCells_len, hn]
  have hdl : ((hnCells hs).drop (i * 2)).length = (n - i) * 2 := by rw [List.length_drop, hl0]; omega
  have hz2 : ¬ ((i : Int) = (n : Int)) := by omega
  have hz3 : (c : Int) < (n : Int) + 1 := by omega
  have hsz : (Tryd.prog.info? 31).map (·.size) = some 2 := by rw [hi0]; simp [hzs]
  have hgl : g < w.heap.size := (hown.lt g rfl).2
  have hvl := hV.lt
  have hkk : (n : Int) + 1 - (i : Int) = ((n + 1 - i : Nat) : Int) := by omega
  have hik : i + (n + 1 - i) = n + 1 := by omega
  have hold : (Builtin.firstCells i0.size i (.slice (some ⟨g, 0, none⟩) i c)).run Tryd.prog w.drew = .ok ((hnCells hs).take (i * 2)).toArray w.drew := by
    rw [hzs]
    exact run_firstCells_some w.drew 2 i ⟨g, 0, none⟩ i c ((hnCells hs).take (i * 2)) (by rw [List.length_take]; omega) (fun j v hj => by
      rw [Addr.add_lit, Nat.zero_add]
      rw [List.getElem?_take] at hj
      split at hj
      · show w.cell? ⟨g, j, none⟩ = some v
        rw [hown.cellAt j (by omega)]
        exact hj
      · cases hj)
  have hrz : ∀ ty, (Builtin.append_ #[23, 3] ty #[.slice (some ⟨g, 0, none⟩) i c, .int .i64 ((n : Int) + 1 - (i : Int))]).run Tryd.prog w =
      .ok (.slice (some ⟨w.heap.size, 0, none⟩) (n + 1) (grownCap w (n + 1) c 31)) (w.drew.alloc (.cells (((hnCells hs).take (i * 2)).toArray ++ Builtin.zeroCells (Value.agg #[.string ⟨#[]⟩, .int .i64 0]).cells (n + 1 - i) ++ Builtin.zeroCells (Value.agg #[.string ⟨#[]⟩, .int .i64 0]).cells (grownCap w (n + 1) c 31 - (n + 1))) 31)) := fun ty => by
    have h := Lib.run_append_grow_zeros w 23 3 ty 31 i0 _ .i64 .i64 Tryd.underlying23 Tryd.underlying3 hi0 hz0 (some ⟨g, 0, none⟩) i c ((hnCells hs).take (i * 2)) hold (n + 1 - i) (by omega) (by omega) (by omega) (by omega) (by rw [hzb]; omega) (by rw [hzb, hik]; exact growslice_fits hroom (by omega))
    rw [hik] at h
    rw [hkk]
    exact h
  obtain ⟨G, hG⟩ : ∃ G, G = grownCap w (n + 1) c 31 := ⟨_, rfl⟩
  obtain ⟨ROW, hROW⟩ : ∃ ROW : Array Value, ROW = ((hnCells hs).take (i * 2)).toArray ++ Builtin.zeroCells (Value.agg #[.string ⟨#[]⟩, .int .i64 0]).cells (n + 1 - i) ++ Builtin.zeroCells (Value.agg #[.string ⟨#[]⟩, .int .i64 0]).cells (G - (n + 1)) := ⟨_, rfl⟩
  rw [← hG] at hrz
  rw [← hROW] at hrz
  have hGn : n + 1 ≤ G := by rw [hG]; exact grownCap_ge w _ _ _
  have hG63 : G ≤ maxLen := by rw [hG]; exact grownCap_le_maxLen w (n + 1) c 31 (by unfold maxLen; omega)
  have hzc : ∀ k, (Builtin.zeroCells (Value.agg #[.string ⟨#[]⟩, .int .i64 0]).cells k).size = k * 2 := fun k => by
    simp [Builtin.zeroCells, Value.cells]
  have hRl : ROW.size = G * 2 := by
    rw [hROW, Array.size_append, Array.size_append, hzc, hzc]
    simp [hl0]
    omega
  have hRt : ROW.toList.take (i * 2) = (hnCells hs).take (i * 2) := by
    rw [hROW, Array.toList_append, Array.toList_append, List.append_assoc, List.take_append_of_le_length (by simp; omega), List.take_of_length_le (by simp; omega)]
  obtain ⟨W1, hW1⟩ : ∃ W1, W1 = w.drew.alloc (.cells ROW 31) := ⟨_, rfl⟩
  rw [← hW1] at hrz
  have hgW : w.grownBy W1 none := by
    rw [hW1]
    exact grown_none ((below_drewN (Below.refl _ w) 1).alloc (Nat.le_refl _) _)
  have ho1 : W1.ownsRow base 31 2 (.slice (some ⟨w.heap.size, 0, none⟩) (n + 1) G) (n + 1) (ROW.toList.take ((n + 1) * 2)) := by
    refine ⟨by simp; omega, .inr ⟨w.heap.size, G, ROW, rfl, hb, ?_, hGn, hG63, hRl, rfl⟩⟩
    rw [hW1]
    exact Blk.new w.drew ROW 31
  obtain ⟨hoA, hgA⟩ := own_setCells [.string t, .int .i64 x] (i * 2) W1 _ ho1 (by simp; omega)
  have hN : ∀ j, j < (n + 1) * 2 → (W1.cell? ⟨w.heap.size, j, none⟩).isSome = true := fun j hj => by
    rw [ho1.cellAt j (by omega)]
    simp
    omega
  have hNf : ∀ j, W1.frozen? ⟨w.heap.size, j, none⟩ = false := fun j => ho1.frozenAt _
  have hVa : Blk W1 vb #[.string t, .int .i64 x] 31 := (hgW.block vb hvl (by simp)).trans hV
  have hcpA : ∀ (W : World), (∀ x, W.cell? x = W1.cell? x) → (∀ x, W.frozen? x = W1.frozen? x) → ∀ ty dc, (Builtin.copy_ #[23, 23] ty #[.slice (some ⟨w.heap.size, i * 2, none⟩) (n + 1 - i) dc, .slice (some ⟨vb, 0, none⟩) 1 1]).run Tryd.prog W = .ok (goInt (Nat.min 1 (n + 1 - i))) (W.setCells w.heap.size (i * 2) [.string t, .int .i64 x]) := fun W hWc hWf ty dc =>
    copy_two W _ _ ty 31 w.heap.size (i * 2) (n + 1 - i) dc ⟨vb, 0, none⟩ 1 1 _ Tryd.underlying23 hsz (by simp only [Nat.min_def]; split <;> simp <;> omega)
      (fun j v hj => by rw [hWc, addr_add, Nat.zero_add, hVa.cell j]; simpa using hj)
      (fun j hj => by rw [hWc]; exact hN _ (by simp at hj; omega)) (fun j _ => by rw [hWf]; exact hNf _) (hn_one _ _)
  obtain ⟨W2, hW2⟩ : ∃ W2, W2 = W1.setCells w.heap.size (i * 2) [.string t, .int .i64 x] := ⟨_, rfl⟩
  rw [← hW2] at hoA hgA
  have hg2 : w.grownBy W2 none := grown_fresh hgW hgA (Nat.le_refl _)
  have hcpB : ∀ (W : World), (∀ x, W.cell? x = W2.cell? x) → (∀ x, W.frozen? x = W2.frozen? x) → ∀ ty dc sc, (Builtin.copy_ #[23, 23] ty #[.slice (some ⟨w.heap.size, (i + 1) * 2, none⟩) (n - i) dc, .slice (some ⟨g, i * 2, none⟩) (n - i) sc]).run Tryd.prog W = .ok (goInt (Nat.min (n - i) (n - i))) (W.setCells w.heap.size ((i + 1) * 2) ((hnCells hs).drop (i * 2))) := fun W hWc hWf ty dc sc =>
    copy_two W _ _ ty 31 w.heap.size ((i + 1) * 2) (n - i) dc ⟨g, i * 2, none⟩ (n - i) sc _ Tryd.underlying23 hsz (by rw [hdl]; simp only [Nat.min_def]; split <;> omega)
      (fun j v hj => by
        rw [hWc, addr_add]
        rw [List.getElem?_drop] at hj
        have hlt : i * 2 + j < n * 2 := by rw [← hl0]; exact (List.getElem?_eq_some_iff.1 hj).1
        have h := hown.cellAt (i * 2 + j) (by omega)
        rw [hj] at h
        exact hg2.cell h (by simp))
      (fun j hj => by rw [hWc, hoA.cellAt ((i + 1) * 2 + j) (by omega)]; have := hoA.1; rw [List.getElem?_eq_getElem (by omega)]; rfl) (fun j _ => by rw [hWf]; exact hoA.frozenAt _) (fun v hv => hns_one hs v (List.mem_of_mem_drop hv))
  obtain ⟨hoB, hgB⟩ := own_setCells ((hnCells hs).drop (i * 2)) ((i + 1) * 2) W2 _ hoA (by have := hoA.1; rw [hdl]; omega)
  rw [grow_cells hs n i t x ROW.toList hn hi hRt (by simp; omega)] at hoB
  have HOB : Hid ((W2.setCells w.heap.size ((i + 1) * 2) ((hnCells hs).drop (i * 2))).ownsRow base 31 2 (.slice (some ⟨w.heap.size, 0, none⟩) (n + 1) G) (n + 1) (hnCells (hs.take i ++ [⟨t, x⟩] ++ hs.drop i))) := hoB
  have HGB : Hid (w.grownBy (W2.setCells w.heap.size ((i + 1) * 2) ((hnCells hs).drop (i * 2))) none) := grown_fresh hg2 hgB (Nat.le_refl _)
  unfold maxLen at hG63
  have hGi : ¬ (G = i) := by omega
  have hGim : ¬ (G = i + 1) := by omega
  have hci : ¬ (c = i) := by omega
  have hq1 : IntKind.i64.wrap ((i : Int) + 1) = (i : Int) + 1 := by rw [IntKind.wrap_i64]; omega
  have hq2 : (0 : Int) ≤ (i : Int) + 1 := by omega
  have hq3 : (i : Int) + 1 ≤ (n : Int) + 1 := by omega
  have hq4 : ((i : Int) + 1).toNat = i + 1 := by omega
  have hq6 : (i : Int) ≤ (n : Int) := by omega
  subst hW2
  subst hW1
  have hE1 : ∀ y, ((w.alloc (.cells ROW 31)).drew).cell? y = (w.drew.alloc (.cells ROW 31)).cell? y := fun _ => rfl
  have hE2 : ∀ y, ((w.alloc (.cells ROW 31)).drew).frozen? y = (w.drew.alloc (.cells ROW 31)).frozen? y := fun _ => rfl
  have hF1 : ∀ y, (((w.alloc (.cells ROW 31)).drew.setCells w.heap.size (i * 2) [.string t, .int .i64 x]).drew).cell? y = ((w.drew.alloc (.cells ROW 31)).setCells w.heap.size (i * 2) [.string t, .int .i64 x]).cell? y := fun _ => rfl
  have hF2 : ∀ y, (((w.alloc (.cells ROW 31)).drew.setCells w.heap.size (i * 2) [.string t, .int .i64 x]).drew).frozen? y = ((w.drew.alloc (.cells ROW 31)).setCells w.heap.size (i * 2) [.string t, .int .i64 x]).frozen? y := fun _ => rfl
  clear hoA hgA hoB hgB hVa ho1 hown hV hg2 hgW hN hNf hkk hik hold hROW hG hRl hRt hzc hgg hcs hct hcm
  go_enter Tryd.func34, Tryd.ntmps34
  go_wp2_with (first
    | (at_builtin; refine Lib.wpList_append_run _ rfl _ _ _ _ rfl _ _ rfl rfl _ _ (hrz _) ?_)
    | (at_builtin; refine wpList_copy_run2 _ rfl _ _ 23 23 rfl _ _ rfl rfl (hcpA _ hE1 hE2 _ _) ?_))
  go_region_law (refine step_copy_run2 (by rfl) _ _ 23 23 (by rfl) (.slice (some ⟨w.heap.size, (i + 1) * 2, none⟩) (n - i) (G - (i + 1))) (.slice (some ⟨g, i * 2, none⟩) (n - i) (c - i)) (by simp [Act.eval, Act.put]) (by simp [Act.eval, Act.put]) (hcpB _ hF1 hF2 3 (G - (i + 1)) (c - i)) ?_)
  go_wp2
  go_ret
  rw [setCells_drew]
  exact ⟨G, rfl, And.intro HOB.out.1 HOB.out.2, ⟨HGB.out.os, HGB.out.tape, HGB.out.output, HGB.out.size, HGB.out.block⟩⟩
end Go.Proofs.YtgmfaganaeibkaaDoor

/- slices.Insert over hints, all roads. -/
namespace Go.Proofs.YtgmfaganaeibkaaDoor
open Go.RowKit
set_option linter.unusedVariables false

theorem insertH_any (base vb i : Nat) (a : Option Addr) (c : Nat) (hs : List Hn) (t : ByteArray) (x : Int) (w : World) (hz : hs.length ≤ 1048576) (hi : i ≤ hs.length) (hb : base ≤ w.heap.size) (hown : w.ownsRow base 31 2 (.slice a hs.length c) hs.length (hnCells hs))
    (hV : Blk w vb #[.string t, .int .i64 x] 31) (hvg : ∀ y, a = some y → y.block ≠ vb) :
    Calls Tryd.prog 34 #[.slice a hs.length c, .int .i64 i, .slice (some ⟨vb, 0, none⟩) 1 1] w fun e w' => ∃ v', e = .returned v' ∧ w'.ownsRow base 31 2 v' (hs.length + 1) (hnCells (hs.take i ++ [⟨t, x⟩] ++ hs.drop i)) ∧ w.grownBy w' (Value.slice a hs.length c).ownBlock := by
  by_cases he : i = hs.length
  · subst he
    rw [List.take_of_length_le (Nat.le_refl _), List.drop_of_length_le (Nat.le_refl _), List.append_nil]
    exact insertH_end base vb _ hs t x w hz hb hown (fun j u hj => by rw [addr_add, Nat.zero_add, hV.cell j]; simpa using hj)
  · rcases hown.2 with ⟨e, h0⟩ | ⟨g, c', cur, e, hbg, hgg, hnc, hcm, hcs, hct⟩
    · omega
    · cases e
      by_cases hr : hs.length + 1 ≤ c
      · refine (insertH_room base g c vb i hs t x w hz (by omega) hr hown hV (fun e => hvg _ rfl e.symm)).mono ?_
        rintro e w' ⟨rfl, ho, hg⟩
        exact ⟨_, rfl, ho, hg⟩
      · refine (insertH_grow base g c vb i hs t x w hz (by omega) hb (by omega) hown hV).mono ?_
        rintro e w' ⟨G, rfl, ho, hg⟩
        exact ⟨_, rfl, ho, ⟨hg.os, hg.tape, hg.output, hg.size, fun j hj _ => hg.block j hj (by simp)⟩⟩
/-- What comes of hints when one is added, its place being k. -/
def addAt (hs : List Hn) (t : ByteArray) (x : Int) (k : Nat) : List Hn × Bool :=
  if hereH hs t k = true then (if (hnat hs k).weight + x ≤ 999999999 then (hs.set k ⟨(hnat hs k).text, (hnat hs k).weight + x⟩, true) else (hs, false))
  else if hs.length < 10 then (hs.take k ++ [⟨t, x⟩] ++ hs.drop k, true) else (hs, false)
/-- What HintAdd answers. -/
def AddH (hs : List Hn) (t : ByteArray) (x : Int) (r : List Hn × Bool) : Prop :=
  (hintsB hs = false ∧ r = ([], false)) ∨ (hintsB hs = true ∧ (hintTI t && hnW x) = false ∧ r = (hs, false)) ∨ (hintsB hs = true ∧ (hintTI t && hnW x) = true ∧ ∃ k, PosH hs t k ∧ r = addAt hs t x k)
theorem PosH.same {hs : List Hn} {t : ByteArray} {k j : Nat} (h : PosH hs t k) (h' : PosH hs t j) : k = j := by
  have key : ∀ {k j : Nat}, PosH hs t k → PosH hs t j → ¬ k < j := fun {k j} h h' hlt => by
    have h1 := (allTo_iff _ _).1 h'.2.1 k hlt
    rw [h.2.2 (Nat.lt_of_lt_of_le hlt h'.1)] at h1
    cases h1
  have a := key h h'
  have b := key h' h
  omega
theorem AddH.same {hs : List Hn} {t : ByteArray} {x : Int} {r s : List Hn × Bool} (h : AddH hs t x r) (h' : AddH hs t x s) : r = s := by
  rcases h with ⟨a, rfl⟩ | ⟨a, b, rfl⟩ | ⟨a, b, k, hk, rfl⟩
  · rcases h' with ⟨a', rfl⟩ | ⟨a', b', rfl⟩ | ⟨a', b', k', hk', rfl⟩
    · rfl
    · rw [a] at a'; cases a'
    · rw [a] at a'; cases a'
  · rcases h' with ⟨a', rfl⟩ | ⟨a', b', rfl⟩ | ⟨a', b', k', hk', rfl⟩
    · rw [a] at a'; cases a'
    · rfl
    · rw [b] at b'; cases b'
  · rcases h' with ⟨a', rfl⟩ | ⟨a', b', rfl⟩ | ⟨a', b', k', hk', rfl⟩
    · rw [a] at a'; cases a'
    · rw [b] at b'; cases b'
    · rw [hk.same hk']
theorem hnCells_set : ∀ (hs : List Hn) (k : Nat) (y : Int), k < hs.length → hnCells (hs.set k ⟨(hnat hs k).text, y⟩) = (hnCells hs).set (k * 2 + 1) (.int .i64 y)
  | [], k, y, h => absurd h (by simp)
  | c :: cs, 0, y, _ => by
    rw [List.set_cons_zero, hnCells_cons, hnCells_cons]
    rfl
  | c :: cs, k + 1, y, h => by
    have ih := hnCells_set cs k y (by simpa using h)
    have e : hnat (c :: cs) (k + 1) = hnat cs k := rfl
    rw [e, List.set_cons_succ, hnCells_cons, ih, hnCells_cons, show (k + 1) * 2 + 1 = k * 2 + 1 + 1 + 1 by omega]
    rfl
theorem hnat_ascending {hs : List Hn} (h : hintsB hs = true) : AscH hs := by
  unfold hintsB at h
  simp only [Bool.and_eq_true, decide_eq_true_eq] at h
  have step : ∀ i, i + 1 < hs.length → Op.bytesLess (hnat hs i).text.toList (hnat hs (i + 1)).text.toList = true := fun i hi => by
    have h1 := (allTo_iff _ _).1 h.2 (i + 1) hi
    unfold hnOk at h1
    simp only [Bool.and_eq_true, Bool.or_eq_true] at h1
    rcases h1.2 with e | e
    · simp at e
    · exact e
  intro i j hij hj
  obtain ⟨d, rfl⟩ : ∃ d, j = i + 1 + d := ⟨j - i - 1, by omega⟩
  clear hij
  induction d with
  | zero => exact step i hj
  | succ d ih => exact less_trans _ _ _ (ih (by omega)) (step (i + 1 + d) (by omega))
theorem hints_facts {hs : List Hn} (h : hintsB hs = true) : hs.length ≤ 10 ∧ ∀ i, i < hs.length → (hnat hs i).text.size ≤ 60 ∧ 1 ≤ (hnat hs i).weight ∧ (hnat hs i).weight ≤ 999999999 := by
  unfold hintsB at h
  simp only [Bool.and_eq_true, decide_eq_true_eq] at h
  refine ⟨h.1, fun i hi => ?_⟩
  have h1 := (allTo_iff _ _).1 h.2 i hi
  unfold hnOk hintTI hnW at h1
  simp only [Bool.and_eq_true, decide_eq_true_eq] at h1
  omega
end Go.Proofs.YtgmfaganaeibkaaDoor
