/- slices.Insert of one word among words in fields. -/
import Derived.Test.YtbifagdcnpnpjaaGreatSpot
import Derived.Test.YtbifagdcnpnpjaaGreatInsCom
import Derived.Test.YtbifagdcnpnpjaaGreatAppStep
import Derived.Deep.AppendLies
import Derived.Deep.RegionLaw
namespace Go.Proofs.YtbifagdcnpnpjaaGreat
open Go.RowKit
set_option linter.unusedVariables false

end Go.Proofs.YtbifagdcnpnpjaaGreat

/- slices.Insert over hints. -/
namespace Go.Proofs.YtbifagdcnpnpjaaGreat
open Go.RowKit
set_option linter.unusedVariables false

set_option maxRecDepth 100000 in
set_option maxHeartbeats 2000000 in
theorem insertK_end (base vb : Nat) (v : Value) (hs : List Ky) (t : ByteArray) (x : ByteArray) (w : World) (hz : hs.length ≤ 1048576) (hb : base ≤ w.heap.size) (hown : w.ownsRow base 149 2 v hs.length (kyCells hs))
    (hv : ∀ j u, [Value.string t, .string x][j]? = some u → w.cell? ((⟨vb, 0, none⟩ : Addr).add j) = some u) :
    Calls Tryz.prog 154 #[v, .int .i64 hs.length, .slice (some ⟨vb, 0, none⟩) 1 1] w fun e w' => ∃ v', e = .returned v' ∧ w'.ownsRow base 149 2 v' (hs.length + 1) (kyCells (hs ++ [⟨t, x⟩])) ∧ w.grownBy w' v.ownBlock := by
  obtain ⟨i0, hi, hz0, hz1, hz2⟩ := info_parts infoKy
  have HO : Hid (w.ownsRow base 149 2 v hs.length (kyCells hs)) := hown
  have HV : Hid (∀ j u, [Value.string t, .string x][j]? = some u → w.cell? ((⟨vb, 0, none⟩ : Addr).add j) = some u) := hv
  have HS : Hid (kyCells (hs ++ [⟨t, x⟩]) = kyCells hs ++ [.string t, .string x]) := kyCells_snoc hs ⟨t, x⟩
  rcases hown.2 with ⟨rfl, h0⟩ | ⟨g, c, cur, rfl, _, _, hnc, hcm, _⟩
  · obtain rfl : hs = [] := List.eq_nil_of_length_eq_zero h0
    clear hown hv
    go_enter Tryz.func154, Tryz.ntmps154
    go_wp2_with (at_builtin; refine wpList_append_own _ rfl _ _ 80 rfl base 149 i0 (.agg #[.string ⟨#[]⟩, .string ⟨#[]⟩]) 2 32 Tryz.underlying80 hi hz0 hz1 hz2 rfl (by decide) (.slice none 0 0) 0 (kyCells []) rfl HO.out ⟨vb, 0, none⟩ 1 1 [.string t, .string x] rfl rfl HV.out (ky_one _ _) (by unfold maxLen; omega) (by omega) hb ?_)
    intro v' w7 hown' hgrow _
    have HO7 : Hid (w7.ownsRow base 149 2 v' (0 + 1) (kyCells ([] ++ [⟨t, x⟩]))) := by unfold Hid; rw [HS.out]; exact hown'
    have HG : Hid (w.grownBy w7 (Value.slice none 0 0).ownBlock) := hgrow
    clear hown' hgrow HO HV HS
    go_wp2
    go_ret
    exact ⟨v', rfl, HO7.out, HG.out⟩
  · clear hown hv
    unfold maxLen at hcm
    obtain ⟨n, hn⟩ : ∃ n, hs.length = n := ⟨_, rfl⟩
    rw [hn] at HO hz hnc
    rw [hn]
    have hnci : (n : Int) ≤ (c : Int) := by omega
    by_cases hcn : c = n
    · have hcn2 : n = c := hcn.symm
      clear hcn
      subst hcn2
      go_enter Tryz.func154, Tryz.ntmps154
      go_wp2_with (at_builtin; refine wpList_append_own _ rfl _ _ 80 rfl base 149 i0 (.agg #[.string ⟨#[]⟩, .string ⟨#[]⟩]) 2 32 Tryz.underlying80 hi hz0 hz1 hz2 rfl (by decide) _ n (kyCells hs) rfl HO.out ⟨vb, 0, none⟩ 1 1 [.string t, .string x] rfl rfl HV.out (ky_one _ _) (by unfold maxLen; omega) (by omega) hb ?_)
      intro v' w7 hown' hgrow _
      have HO7 : Hid (w7.ownsRow base 149 2 v' (n + 1) (kyCells (hs ++ [⟨t, x⟩]))) := by unfold Hid; rw [HS.out]; exact hown'
      have HG : Hid (w.grownBy w7 (Value.slice (some ⟨g, 0, none⟩) n n).ownBlock) := hgrow
      clear hown' hgrow HO HV HS
      go_wp2
      go_ret
      exact ⟨v', rfl, HO7.out, HG.out⟩
    · go_enter Tryz.func154, Tryz.ntmps154
      go_wp2_with (at_builtin; refine wpList_append_own _ rfl _ _ 80 rfl base 149 i0 (.agg #[.string ⟨#[]⟩, .string ⟨#[]⟩]) 2 32 Tryz.underlying80 hi hz0 hz1 hz2 rfl (by decide) _ n (kyCells hs) rfl HO.out ⟨vb, 0, none⟩ 1 1 [.string t, .string x] rfl rfl HV.out (ky_one _ _) (by unfold maxLen; omega) (by omega) hb ?_)
      intro v' w7 hown' hgrow _
      have HO7 : Hid (w7.ownsRow base 149 2 v' (n + 1) (kyCells (hs ++ [⟨t, x⟩]))) := by unfold Hid; rw [HS.out]; exact hown'
      have HG : Hid (w.grownBy w7 (Value.slice (some ⟨g, 0, none⟩) n c).ownBlock) := hgrow
      clear hown' hgrow HO HV HS
      go_wp2
      go_ret
      exact ⟨v', rfl, HO7.out, HG.out⟩
end Go.Proofs.YtbifagdcnpnpjaaGreat

/- slices.Insert over hints, in place. -/
namespace Go.Proofs.YtbifagdcnpnpjaaGreat
open Go.RowKit
set_option linter.unusedVariables false

theorem kyCells_take : ∀ (hs : List Ky) (i : Nat), kyCells (hs.take i) = (kyCells hs).take (i * 2)
  | [], i => by simp [kyCells]
  | h :: hs, 0 => by simp [kyCells]
  | h :: hs, i + 1 => by
    rw [List.take_succ_cons, kyCells_cons, kyCells_cons, kyCells_take hs i, show (i + 1) * 2 = i * 2 + 1 + 1 by omega]
    rfl
theorem kyCells_drop : ∀ (hs : List Ky) (i : Nat), kyCells (hs.drop i) = (kyCells hs).drop (i * 2)
  | [], i => by simp [kyCells]
  | h :: hs, 0 => by simp
  | h :: hs, i + 1 => by
    rw [List.drop_succ_cons, kyCells_cons, kyCells_drop hs i, show (i + 1) * 2 = i * 2 + 1 + 1 by omega]
    rfl
theorem insK_cells (hs : List Ky) (n i : Nat) (t : ByteArray) (x : ByteArray) (C : List Value) (hn : hs.length = n) (hi : i < n) (hC : C.take (n * 2) = kyCells hs) (hl : (n + 1) * 2 ≤ C.length) :
    (((C.take ((n + 1) * 2)).take ((i + 1) * 2) ++ (kyCells hs).drop (i * 2) ++ (C.take ((n + 1) * 2)).drop ((i + 1) * 2 + ((kyCells hs).drop (i * 2)).length)).take (i * 2) ++ [Value.string t, .string x] ++ ((C.take ((n + 1) * 2)).take ((i + 1) * 2) ++ (kyCells hs).drop (i * 2) ++ (C.take ((n + 1) * 2)).drop ((i + 1) * 2 + ((kyCells hs).drop (i * 2)).length)).drop (i * 2 + [Value.string t, .string x].length)) = kyCells (hs.take i ++ [⟨t, x⟩] ++ hs.drop i) := by
  have hlen : (kyCells hs).length = n * 2 := by rw [kyCells_len, hn]
  have hD : ((kyCells hs).drop (i * 2)).length = (n - i) * 2 := by rw [List.length_drop, hlen]; omega
  have hT : (C.take ((n + 1) * 2)).take ((i + 1) * 2) = C.take ((i + 1) * 2) := by rw [List.take_take]; congr 1; omega
  have hTl : (C.take ((i + 1) * 2)).length = (i + 1) * 2 := by rw [List.length_take]; omega
  have hE : (C.take ((n + 1) * 2)).drop ((i + 1) * 2 + ((kyCells hs).drop (i * 2)).length) = [] := by
    apply List.drop_of_length_le
    rw [List.length_take, hD]
    omega
  rw [hT, hE, List.append_nil, List.take_append_of_le_length (by rw [hTl]; omega), List.take_take, show min (i * 2) ((i + 1) * 2) = i * 2 by omega, show i * 2 + [Value.string t, .string x].length = (i + 1) * 2 by simp; omega, List.drop_append_of_le_length (by rw [hTl]; omega), List.drop_of_length_le (by rw [hTl]; omega), List.nil_append,
    kyCells_app, kyCells_app, kyCells_take, kyCells_drop, ← hC, List.take_take, show min (i * 2) (n * 2) = i * 2 by omega]
  rfl
set_option maxRecDepth 100000 in
set_option maxHeartbeats 2000000 in
theorem insertK_room (base g c vb i : Nat) (hs : List Ky) (t : ByteArray) (x : ByteArray) (w : World) (hz : hs.length ≤ 1048576) (hi : i < hs.length) (hroom : hs.length + 1 ≤ c) (hown : w.ownsRow base 149 2 (.slice (some ⟨g, 0, none⟩) hs.length c) hs.length (kyCells hs))
    (hV : Blk w vb #[.string t, .string x] 149) (hvg : vb ≠ g) :
    Calls Tryz.prog 154 #[.slice (some ⟨g, 0, none⟩) hs.length c, .int .i64 i, .slice (some ⟨vb, 0, none⟩) 1 1] w fun e w' => e = .returned (.slice (some ⟨g, 0, none⟩) (hs.length + 1) c) ∧ w'.ownsRow base 149 2 (.slice (some ⟨g, 0, none⟩) (hs.length + 1) c) (hs.length + 1) (kyCells (hs.take i ++ [⟨t, x⟩] ++ hs.drop i)) ∧ w.grownBy w' (some g) := by
  obtain ⟨n, hn⟩ : ∃ n, hs.length = n := ⟨_, rfl⟩
  rcases hown.2 with ⟨e, _⟩ | ⟨g', c', cur, e, hbg, hgg, _, hcm, hcs, hct⟩
  · cases e
  cases e
  rw [hn] at hi hroom hz hct hown
  rw [hn]
  unfold maxLen at hcm
  have h1 : ¬ ((i : Int) = (n : Int)) := by omega
  have h2 : (i : Int) ≤ (n : Int) := by omega
  have h3 : (i : Int) ≤ (c : Int) := by omega
  have h4 : ¬ (c = i) := by omega
  have h5 : ((n : Int) + 1) ≤ (c : Int) := by omega
  have h6 : decide ((c : Int) < (n : Int) + 1) = false := decide_eq_false (by omega)
  have hsA : w.shape? vb = some (149, 2) := by unfold World.shape?; rw [hV]; rfl
  have hsB : w.shape? g = some (149, cur.size) := by unfold World.shape?; rw [hgg]
  have hov : (callFunc 162 #[.slice (some ⟨vb, 0, none⟩) 1 1, .slice (some ⟨g, (i + 1) * 2, none⟩) (n - i) (c - (i + 1))]).run Tryz.prog w = .ok (.value (.bool false)) w := by
    rw [run_callFunc_extern Tryz.func162 (by kernel_rfl) (by kernel_rfl) (by kernel_rfl) (e := Extern.SlicesOverlaps.overlaps #[80, 80] #[4]) (by kernel_rfl),
      Lib.run_overlaps_apart w 80 4 149 Tryz.underlying80 2 Tryz.sizeOf149 ⟨vb, 0, none⟩ ⟨g, (i + 1) * 2, none⟩ 1 1 (n - i) (c - (i + 1)) hvg 149 149 2 cur.size hsA hsB (by omega) (hV.frozen 0) (hV.frozen 2)]
    rfl
  have hl0 : (kyCells hs).length = n * 2 := by rw [kyCells_len, hn]
  have hxl : (cur.toList.take ((n + 1) * 2)).length = (n + 1) * 2 := by simp; omega
  have ho1 : w.drew.ownsRow base 149 2 (.slice (some ⟨g, 0, none⟩) (n + 1) c) (n + 1) (cur.toList.take ((n + 1) * 2)) :=
    ⟨hxl, .inr ⟨g, c, cur, rfl, hbg, hgg, hroom, hcm, hcs, rfl⟩⟩
  have hdl : ((kyCells hs).drop (i * 2)).length = (n - i) * 2 := by rw [List.length_drop, hl0]; omega
  have hcell : ∀ j, j < c * 2 → (w.drew.cell? ⟨g, j, none⟩).isSome = true := fun j hj => by
    show (w.cell? ⟨g, j, none⟩).isSome = true
    simp [World.cell?, hgg]
    omega
  have hfr : ∀ j, w.drew.frozen? ⟨g, j, none⟩ = false := fun j => by
    show w.frozen? ⟨g, j, none⟩ = false
    simp [World.frozen?, hgg]
  have hsz : (Tryz.prog.info? 149).map (·.size) = some 2 := by
    obtain ⟨i0, hi0, _, h1', _⟩ := info_parts infoKy
    rw [hi0]
    simp [h1']
  have hcp1 : ∀ ty dc sc, (Builtin.copy_ #[80, 80] ty #[.slice (some ⟨g, (i + 1) * 2, none⟩) (n - i) dc, .slice (some ⟨g, i * 2, none⟩) (n + 1 - i) sc]).run Tryz.prog w.drew = .ok (goInt (Nat.min (n + 1 - i) (n - i))) (w.drew.setCells g ((i + 1) * 2) ((kyCells hs).drop (i * 2))) := fun ty dc sc =>
    copy_two w.drew _ _ ty 149 g ((i + 1) * 2) (n - i) dc ⟨g, i * 2, none⟩ (n + 1 - i) sc _ Tryz.underlying80 hsz (by rw [hdl]; simp only [Nat.min_def]; split <;> omega)
      (fun j v hj => by
        rw [addr_add]
        show w.cell? ⟨g, i * 2 + j, none⟩ = some v
        rw [List.getElem?_drop] at hj
        have hlt : i * 2 + j < n * 2 := by rw [← hl0]; exact (List.getElem?_eq_some_iff.1 hj).1
        rw [hown.cellAt (i * 2 + j) (by omega)]
        exact hj)
      (fun j hj => hcell _ (by omega)) (fun j _ => hfr _) (fun v hv => kys_one hs v (List.mem_of_mem_drop hv))
  obtain ⟨W1, hW1⟩ : ∃ W1, w.drew.setCells g ((i + 1) * 2) ((kyCells hs).drop (i * 2)) = W1 := ⟨_, rfl⟩
  obtain ⟨hoA, hgA⟩ := own_setCells ((kyCells hs).drop (i * 2)) ((i + 1) * 2) w.drew _ ho1 (by rw [hdl, hxl]; omega)
  rw [hW1] at hcp1 hoA hgA
  have hVa : Blk W1 vb #[.string t, .string x] 149 := (hgA.block vb hV.lt (by simpa using hvg)).trans hV
  have hcp2 : ∀ ty dc, (Builtin.copy_ #[80, 80] ty #[.slice (some ⟨g, i * 2, none⟩) (n + 1 - i) dc, .slice (some ⟨vb, 0, none⟩) 1 1]).run Tryz.prog W1 = .ok (goInt (Nat.min 1 (n + 1 - i))) (W1.setCells g (i * 2) [.string t, .string x]) := fun ty dc =>
    copy_two W1 _ _ ty 149 g (i * 2) (n + 1 - i) dc ⟨vb, 0, none⟩ 1 1 _ Tryz.underlying80 hsz (by simp only [Nat.min_def]; split <;> simp <;> omega)
      (fun j v hj => by rw [addr_add, Nat.zero_add, hVa.cell j]; simpa using hj)
      (fun j hj => by rw [hoA.cellAt (i * 2 + j) (by simp at hj; omega)]; simp at hj; simp; omega) (fun j _ => hoA.frozenAt _) (ky_one _ _)
  obtain ⟨hoB, hgB⟩ := own_setCells [.string t, .string x] (i * 2) W1 _ hoA (by simp; omega)
  have HOB : Hid ((W1.setCells g (i * 2) [.string t, .string x]).ownsRow base 149 2 (.slice (some ⟨g, 0, none⟩) (n + 1) c) (n + 1) (kyCells (hs.take i ++ [⟨t, x⟩] ++ hs.drop i))) := by
    unfold Hid
    rw [insK_cells hs n i t x cur.toList hn (by omega) hct (by simp; omega)] at hoB
    exact hoB
  have HGB : Hid (w.grownBy (W1.setCells g (i * 2) [.string t, .string x]) (some g)) := grown_then (⟨hgA.os, hgA.tape, hgA.output, hgA.size, hgA.block⟩ : w.grownBy W1 (some g)) hgB
  have hq1 : IntKind.i64.wrap ((i : Int) + 1) = (i : Int) + 1 := by rw [IntKind.wrap_i64]; omega
  have hq2 : (0 : Int) ≤ (i : Int) + 1 := by omega
  have hq3 : (i : Int) + 1 ≤ (n : Int) + 1 := by omega
  have hq4 : ((i : Int) + 1).toNat = i + 1 := by omega
  have hq5 : ¬ (c = i + 1) := by omega
  have hq6 : (i : Int) ≤ (n : Int) + 1 := by omega
  clear hoA hgA hoB hgB hVa ho1 hcell hfr hown hV hW1 hsA hsB
  go_enter Tryz.func154, Tryz.ntmps154
  go_wp2_with (simp only [hov])
  go_region_law (refine step_copy_run2 (by rfl) _ _ 80 80 (by rfl) _ _ (by simp [Act.eval, Act.put]) (by simp [Act.eval, Act.put]) (hcp1 _ _ _) ?_)
  go_wp2_with (at_builtin; refine wpList_copy_run2 _ rfl _ _ 80 80 rfl _ _ rfl rfl (hcp2 _ _) ?_)
  go_ret
  exact ⟨rfl, HOB.out, HGB.out⟩
end Go.Proofs.YtbifagdcnpnpjaaGreat

/- slices.Insert over hints, in the middle, with no room: a new row. -/
namespace Go.Proofs.YtbifagdcnpnpjaaGreat
open Go.RowKit Go.Lib
set_option linter.unusedVariables false

theorem growK_cells (hs : List Ky) (n i : Nat) (t : ByteArray) (x : ByteArray) (C : List Value) (hn : hs.length = n) (hi : i < n) (hC : C.take (i * 2) = (kyCells hs).take (i * 2)) (hl : (n + 1) * 2 ≤ C.length) :
    (((C.take ((n + 1) * 2)).take (i * 2) ++ [Value.string t, .string x] ++ (C.take ((n + 1) * 2)).drop (i * 2 + [Value.string t, .string x].length)).take ((i + 1) * 2) ++ (kyCells hs).drop (i * 2) ++ ((C.take ((n + 1) * 2)).take (i * 2) ++ [Value.string t, .string x] ++ (C.take ((n + 1) * 2)).drop (i * 2 + [Value.string t, .string x].length)).drop ((i + 1) * 2 + ((kyCells hs).drop (i * 2)).length)) = kyCells (hs.take i ++ [⟨t, x⟩] ++ hs.drop i) := by
  have hlen : (kyCells hs).length = n * 2 := by rw [kyCells_len, hn]
  have hD : ((kyCells hs).drop (i * 2)).length = (n - i) * 2 := by rw [List.length_drop, hlen]; omega
  have h1 : (C.take ((n + 1) * 2)).take (i * 2) = (kyCells hs).take (i * 2) := by rw [List.take_take, show min (i * 2) ((n + 1) * 2) = i * 2 by omega, hC]
  have h2 : ((kyCells hs).take (i * 2) ++ [Value.string t, .string x]).length = (i + 1) * 2 := by rw [List.length_append, List.length_take, hlen]; simp; omega
  have h3 : ((C.take ((n + 1) * 2)).drop (i * 2 + [Value.string t, .string x].length)).length = (n - i) * 2 := by rw [List.length_drop, List.length_take]; simp; omega
  have h4 : ((kyCells hs).take (i * 2) ++ [Value.string t, .string x] ++ (C.take ((n + 1) * 2)).drop (i * 2 + [Value.string t, .string x].length)).drop ((i + 1) * 2 + ((kyCells hs).drop (i * 2)).length) = [] := List.drop_of_length_le (by rw [List.length_append, h2, h3, hD]; exact Nat.le_refl _)
  rw [h1, h4, List.take_append_of_le_length (by rw [h2]; exact Nat.le_refl _), List.take_of_length_le (by rw [h2]; exact Nat.le_refl _), List.append_nil,
    kyCells_app, kyCells_app, kyCells_take, kyCells_drop]
  rfl
set_option maxRecDepth 100000 in
set_option maxHeartbeats 4000000 in
theorem insertK_grow (base g c vb i : Nat) (hs : List Ky) (t : ByteArray) (x : ByteArray) (w : World) (hz : hs.length ≤ 1048576) (hi : i < hs.length) (hb : base ≤ w.heap.size) (hroom : c < hs.length + 1) (hown : w.ownsRow base 149 2 (.slice (some ⟨g, 0, none⟩) hs.length c) hs.length (kyCells hs))
    (hV : Blk w vb #[.string t, .string x] 149) :
    Calls Tryz.prog 154 #[.slice (some ⟨g, 0, none⟩) hs.length c, .int .i64 i, .slice (some ⟨vb, 0, none⟩) 1 1] w fun e w' => ∃ G, e = .returned (.slice (some ⟨w.heap.size, 0, none⟩) (hs.length + 1) G) ∧ w'.ownsRow base 149 2 (.slice (some ⟨w.heap.size, 0, none⟩) (hs.length + 1) G) (hs.length + 1) (kyCells (hs.take i ++ [⟨t, x⟩] ++ hs.drop i)) ∧ w.grownBy w' none := by
  obtain ⟨i0, hi0, hz0, hzs, hzb⟩ := info_parts infoKy
  obtain ⟨n, hn⟩ : ∃ n, hs.length = n := ⟨_, rfl⟩
  rcases hown.2 with ⟨e, _⟩ | ⟨g', c', cur, e, hbg, hgg, hnc, hcm, hcs, hct⟩
  · cases e
  cases e
  rw [hn] at hi hroom hz hct hown hnc
  rw [hn]
  unfold maxLen at hcm
  have hl0 : (kyCells hs).length = n * 2 := by rw [kyCells_len, hn]
  have hdl : ((kyCells hs).drop (i * 2)).length = (n - i) * 2 := by rw [List.length_drop, hl0]; omega
  have hz2 : ¬ ((i : Int) = (n : Int)) := by omega
  have hz3 : (c : Int) < (n : Int) + 1 := by omega
  have hsz : (Tryz.prog.info? 149).map (·.size) = some 2 := by rw [hi0]; simp [hzs]
  have hgl : g < w.heap.size := (hown.lt g rfl).2
  have hvl := hV.lt
  have hkk : (n : Int) + 1 - (i : Int) = ((n + 1 - i : Nat) : Int) := by omega
  have hik : i + (n + 1 - i) = n + 1 := by omega
  have hold : (Builtin.firstCells i0.size i (.slice (some ⟨g, 0, none⟩) i c)).run Tryz.prog w.drew = .ok ((kyCells hs).take (i * 2)).toArray w.drew := by
    rw [hzs]
    exact run_firstCells_some w.drew 2 i ⟨g, 0, none⟩ i c ((kyCells hs).take (i * 2)) (by rw [List.length_take]; omega) (fun j v hj => by
      rw [Addr.add_lit, Nat.zero_add]
      rw [List.getElem?_take] at hj
      split at hj
      · show w.cell? ⟨g, j, none⟩ = some v
        rw [hown.cellAt j (by omega)]
        exact hj
      · cases hj)
  have hrz : ∀ ty, (Builtin.append_ #[80, 3] ty #[.slice (some ⟨g, 0, none⟩) i c, .int .i64 ((n : Int) + 1 - (i : Int))]).run Tryz.prog w =
      .ok (.slice (some ⟨w.heap.size, 0, none⟩) (n + 1) (grownCap w (n + 1) c 149)) (w.drew.alloc (.cells (((kyCells hs).take (i * 2)).toArray ++ Builtin.zeroCells (Value.agg #[.string ⟨#[]⟩, .string ⟨#[]⟩]).cells (n + 1 - i) ++ Builtin.zeroCells (Value.agg #[.string ⟨#[]⟩, .string ⟨#[]⟩]).cells (grownCap w (n + 1) c 149 - (n + 1))) 149)) := fun ty => by
    have h := Lib.run_append_grow_zeros w 80 3 ty 149 i0 _ .i64 .i64 Tryz.underlying80 Tryz.underlying3 hi0 hz0 (some ⟨g, 0, none⟩) i c ((kyCells hs).take (i * 2)) hold (n + 1 - i) (by omega) (by omega) (by omega) (by omega) (by rw [hzb]; omega) (by rw [hzb, hik]; exact growslice_fits hroom (by omega))
    rw [hik] at h
    rw [hkk]
    exact h
  obtain ⟨G, hG⟩ : ∃ G, G = grownCap w (n + 1) c 149 := ⟨_, rfl⟩
  obtain ⟨ROW, hROW⟩ : ∃ ROW : Array Value, ROW = ((kyCells hs).take (i * 2)).toArray ++ Builtin.zeroCells (Value.agg #[.string ⟨#[]⟩, .string ⟨#[]⟩]).cells (n + 1 - i) ++ Builtin.zeroCells (Value.agg #[.string ⟨#[]⟩, .string ⟨#[]⟩]).cells (G - (n + 1)) := ⟨_, rfl⟩
  rw [← hG] at hrz
  rw [← hROW] at hrz
  have hGn : n + 1 ≤ G := by rw [hG]; exact grownCap_ge w _ _ _
  have hG63 : G ≤ maxLen := by rw [hG]; exact grownCap_le_maxLen w (n + 1) c 149 (by unfold maxLen; omega)
  have hzc : ∀ k, (Builtin.zeroCells (Value.agg #[.string ⟨#[]⟩, .string ⟨#[]⟩]).cells k).size = k * 2 := fun k => by
    simp [Builtin.zeroCells, Value.cells]
  have hRl : ROW.size = G * 2 := by
    rw [hROW, Array.size_append, Array.size_append, hzc, hzc]
    simp [hl0]
    omega
  have hRt : ROW.toList.take (i * 2) = (kyCells hs).take (i * 2) := by
    rw [hROW, Array.toList_append, Array.toList_append, List.append_assoc, List.take_append_of_le_length (by simp; omega), List.take_of_length_le (by simp; omega)]
  obtain ⟨W1, hW1⟩ : ∃ W1, W1 = w.drew.alloc (.cells ROW 149) := ⟨_, rfl⟩
  rw [← hW1] at hrz
  have hgW : w.grownBy W1 none := by
    rw [hW1]
    exact grown_none ((below_drewN (Below.refl _ w) 1).alloc (Nat.le_refl _) _)
  have ho1 : W1.ownsRow base 149 2 (.slice (some ⟨w.heap.size, 0, none⟩) (n + 1) G) (n + 1) (ROW.toList.take ((n + 1) * 2)) := by
    refine ⟨by simp; omega, .inr ⟨w.heap.size, G, ROW, rfl, hb, ?_, hGn, hG63, hRl, rfl⟩⟩
    rw [hW1]
    exact Blk.new w.drew ROW 149
  obtain ⟨hoA, hgA⟩ := own_setCells [.string t, .string x] (i * 2) W1 _ ho1 (by simp; omega)
  have hN : ∀ j, j < (n + 1) * 2 → (W1.cell? ⟨w.heap.size, j, none⟩).isSome = true := fun j hj => by
    rw [ho1.cellAt j (by omega)]
    simp
    omega
  have hNf : ∀ j, W1.frozen? ⟨w.heap.size, j, none⟩ = false := fun j => ho1.frozenAt _
  have hVa : Blk W1 vb #[.string t, .string x] 149 := (hgW.block vb hvl (by simp)).trans hV
  have hcpA : ∀ (W : World), (∀ x, W.cell? x = W1.cell? x) → (∀ x, W.frozen? x = W1.frozen? x) → ∀ ty dc, (Builtin.copy_ #[80, 80] ty #[.slice (some ⟨w.heap.size, i * 2, none⟩) (n + 1 - i) dc, .slice (some ⟨vb, 0, none⟩) 1 1]).run Tryz.prog W = .ok (goInt (Nat.min 1 (n + 1 - i))) (W.setCells w.heap.size (i * 2) [.string t, .string x]) := fun W hWc hWf ty dc =>
    copy_two W _ _ ty 149 w.heap.size (i * 2) (n + 1 - i) dc ⟨vb, 0, none⟩ 1 1 _ Tryz.underlying80 hsz (by simp only [Nat.min_def]; split <;> simp <;> omega)
      (fun j v hj => by rw [hWc, addr_add, Nat.zero_add, hVa.cell j]; simpa using hj)
      (fun j hj => by rw [hWc]; exact hN _ (by simp at hj; omega)) (fun j _ => by rw [hWf]; exact hNf _) (ky_one _ _)
  obtain ⟨W2, hW2⟩ : ∃ W2, W2 = W1.setCells w.heap.size (i * 2) [.string t, .string x] := ⟨_, rfl⟩
  rw [← hW2] at hoA hgA
  have hg2 : w.grownBy W2 none := grown_fresh hgW hgA (Nat.le_refl _)
  have hcpB : ∀ (W : World), (∀ x, W.cell? x = W2.cell? x) → (∀ x, W.frozen? x = W2.frozen? x) → ∀ ty dc sc, (Builtin.copy_ #[80, 80] ty #[.slice (some ⟨w.heap.size, (i + 1) * 2, none⟩) (n - i) dc, .slice (some ⟨g, i * 2, none⟩) (n - i) sc]).run Tryz.prog W = .ok (goInt (Nat.min (n - i) (n - i))) (W.setCells w.heap.size ((i + 1) * 2) ((kyCells hs).drop (i * 2))) := fun W hWc hWf ty dc sc =>
    copy_two W _ _ ty 149 w.heap.size ((i + 1) * 2) (n - i) dc ⟨g, i * 2, none⟩ (n - i) sc _ Tryz.underlying80 hsz (by rw [hdl]; simp only [Nat.min_def]; split <;> omega)
      (fun j v hj => by
        rw [hWc, addr_add]
        rw [List.getElem?_drop] at hj
        have hlt : i * 2 + j < n * 2 := by rw [← hl0]; exact (List.getElem?_eq_some_iff.1 hj).1
        have h := hown.cellAt (i * 2 + j) (by omega)
        rw [hj] at h
        exact hg2.cell h (by simp))
      (fun j hj => by rw [hWc, hoA.cellAt ((i + 1) * 2 + j) (by omega)]; have := hoA.1; rw [List.getElem?_eq_getElem (by omega)]; rfl) (fun j _ => by rw [hWf]; exact hoA.frozenAt _) (fun v hv => kys_one hs v (List.mem_of_mem_drop hv))
  obtain ⟨hoB, hgB⟩ := own_setCells ((kyCells hs).drop (i * 2)) ((i + 1) * 2) W2 _ hoA (by have := hoA.1; rw [hdl]; omega)
  rw [growK_cells hs n i t x ROW.toList hn hi hRt (by simp; omega)] at hoB
  have HOB : Hid ((W2.setCells w.heap.size ((i + 1) * 2) ((kyCells hs).drop (i * 2))).ownsRow base 149 2 (.slice (some ⟨w.heap.size, 0, none⟩) (n + 1) G) (n + 1) (kyCells (hs.take i ++ [⟨t, x⟩] ++ hs.drop i))) := hoB
  have HGB : Hid (w.grownBy (W2.setCells w.heap.size ((i + 1) * 2) ((kyCells hs).drop (i * 2))) none) := grown_fresh hg2 hgB (Nat.le_refl _)
  unfold maxLen at hG63
  have hGi : ¬ (G = i) := by omega
  have hGim : ¬ (G = i + 1) := by omega
  have hci : ¬ (c = i) := by omega
  have hq1 : IntKind.i64.wrap ((i : Int) + 1) = (i : Int) + 1 := by rw [IntKind.wrap_i64]; omega
  have hq2 : (0 : Int) ≤ (i : Int) + 1 := by omega
  have hq3 : (i : Int) + 1 ≤ (n : Int) + 1 := by omega
  have hq4 : ((i : Int) + 1).toNat = i + 1 := by omega
  have hq6 : (i : Int) ≤ (n : Int) := by omega
  subst hW2
  subst hW1
  have hE1 : ∀ y, ((w.alloc (.cells ROW 149)).drew).cell? y = (w.drew.alloc (.cells ROW 149)).cell? y := fun _ => rfl
  have hE2 : ∀ y, ((w.alloc (.cells ROW 149)).drew).frozen? y = (w.drew.alloc (.cells ROW 149)).frozen? y := fun _ => rfl
  have hF1 : ∀ y, (((w.alloc (.cells ROW 149)).drew.setCells w.heap.size (i * 2) [.string t, .string x]).drew).cell? y = ((w.drew.alloc (.cells ROW 149)).setCells w.heap.size (i * 2) [.string t, .string x]).cell? y := fun _ => rfl
  have hF2 : ∀ y, (((w.alloc (.cells ROW 149)).drew.setCells w.heap.size (i * 2) [.string t, .string x]).drew).frozen? y = ((w.drew.alloc (.cells ROW 149)).setCells w.heap.size (i * 2) [.string t, .string x]).frozen? y := fun _ => rfl
  clear hoA hgA hoB hgB hVa ho1 hown hV hg2 hgW hN hNf hkk hik hold hROW hG hRl hRt hzc hgg hcs hct hcm
  go_enter Tryz.func154, Tryz.ntmps154
  go_wp2_with (first
    | (at_builtin; refine Lib.wpList_append_run _ rfl _ _ _ _ rfl _ _ rfl rfl _ _ (hrz _) ?_)
    | (at_builtin; refine wpList_copy_run2 _ rfl _ _ 80 80 rfl _ _ rfl rfl (hcpA _ hE1 hE2 _ _) ?_))
  go_region_law (refine step_copy_run2 (by rfl) _ _ 80 80 (by rfl) (.slice (some ⟨w.heap.size, (i + 1) * 2, none⟩) (n - i) (G - (i + 1))) (.slice (some ⟨g, i * 2, none⟩) (n - i) (c - i)) (by simp [Act.eval, Act.put]) (by simp [Act.eval, Act.put]) (hcpB _ hF1 hF2 3 (G - (i + 1)) (c - i)) ?_)
  go_wp2
  go_ret
  rw [setCells_drew]
  exact ⟨G, rfl, And.intro HOB.out.1 HOB.out.2, ⟨HGB.out.os, HGB.out.tape, HGB.out.output, HGB.out.size, HGB.out.block⟩⟩
end Go.Proofs.YtbifagdcnpnpjaaGreat

/- slices.Insert over hints, all roads. -/
namespace Go.Proofs.YtbifagdcnpnpjaaGreat
open Go.RowKit
set_option linter.unusedVariables false

theorem insertK_any (base vb i : Nat) (a : Option Addr) (c : Nat) (hs : List Ky) (t : ByteArray) (x : ByteArray) (w : World) (hz : hs.length ≤ 1048576) (hi : i ≤ hs.length) (hb : base ≤ w.heap.size) (hown : w.ownsRow base 149 2 (.slice a hs.length c) hs.length (kyCells hs))
    (hV : Blk w vb #[.string t, .string x] 149) (hvg : ∀ y, a = some y → y.block ≠ vb) :
    Calls Tryz.prog 154 #[.slice a hs.length c, .int .i64 i, .slice (some ⟨vb, 0, none⟩) 1 1] w fun e w' => ∃ v', e = .returned v' ∧ w'.ownsRow base 149 2 v' (hs.length + 1) (kyCells (hs.take i ++ [⟨t, x⟩] ++ hs.drop i)) ∧ w.grownBy w' (Value.slice a hs.length c).ownBlock := by
  by_cases he : i = hs.length
  · subst he
    rw [List.take_of_length_le (Nat.le_refl _), List.drop_of_length_le (Nat.le_refl _), List.append_nil]
    exact insertK_end base vb _ hs t x w hz hb hown (fun j u hj => by rw [addr_add, Nat.zero_add, hV.cell j]; simpa using hj)
  · rcases hown.2 with ⟨e, h0⟩ | ⟨g, c', cur, e, hbg, hgg, hnc, hcm, hcs, hct⟩
    · omega
    · cases e
      by_cases hr : hs.length + 1 ≤ c
      · refine (insertK_room base g c vb i hs t x w hz (by omega) hr hown hV (fun e => hvg _ rfl e.symm)).mono ?_
        rintro e w' ⟨rfl, ho, hg⟩
        exact ⟨_, rfl, ho, hg⟩
      · refine (insertK_grow base g c vb i hs t x w hz (by omega) hb (by omega) hown hV).mono ?_
        rintro e w' ⟨G, rfl, ho, hg⟩
        exact ⟨_, rfl, ho, ⟨hg.os, hg.tape, hg.output, hg.size, fun j hj _ => hg.block j hj (by simp)⟩⟩
end Go.Proofs.YtbifagdcnpnpjaaGreat
