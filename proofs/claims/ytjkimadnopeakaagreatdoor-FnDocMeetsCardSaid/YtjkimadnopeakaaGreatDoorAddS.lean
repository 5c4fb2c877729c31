/- l2Add of the model. -/
import Derived.Test.YtjkimadnopeakaaGreatDoorMg0FnExactMeets
import Derived.Deep.AppendLies
import Derived.Deep.RegionLaw
namespace Go.Proofs.YtjkimadnopeakaaGreatDoor
open Go.RowKit
set_option linter.unusedVariables false

theorem infoStrA : (Tryz.prog.info? 9).map (fun i => (i.zero, i.size, i.bytes)) = some (some (.string ⟨#[]⟩), 1, 16) := by kernel_rfl
theorem step_append_own {P : Program} {w : World} {ops : Array Oper} {o : Oper} {a : Act} {K : Act → World → Prop} {Q : Exit → Act → World → Prop} {E : Prop} (hgd : o.guard = none) (s x : Operand) (t : TypeId)
    (ho : o.op = .call { callee := .builtin .append, args := #[s, x], argTypes := #[t, t] })
    (base : Nat) (e : TypeId) (i : TypeInfo) (z : Value) (size bytes : Nat) (ht : P.underlying t = some (.slice e)) (hi : P.info? e = some i) (hz : i.zero = some z)
    (hsize : i.size = size) (hby : i.bytes = bytes) (hzs : z.cells.size = size) (hsz : 0 < size)
    (v : Value) (n : Nat) (xs : List Value) (hs : a.eval s = v) (hown : w.ownsRow base e size v n xs)
    (ad : Addr) (m c : Nat) (news : List Value) (hx : a.eval x = .slice (some ad) m c) (hl : news.length = m * size) (hnews : ∀ j u, news[j]? = some u → w.cell? (ad.add j) = some u) (h1 : ∀ u ∈ news, u.oneCell' = true)
    (h63 : n + m ≤ maxLen) (hbytes : (n + m) * bytes ≤ 140737488355328) (hbase : base ≤ w.heap.size)
    (h : ∀ v' w', w'.ownsRow base e size v' (n + m) (xs ++ news) → w.grownBy w' v.ownBlock → (v' = .slice none 0 0 ↔ v = .slice none 0 0 ∧ m = 0) → K (a.put o.dst v') w') :
    if Region.wanted o (yielded ops a.tmps) = true then Oper.wp P o a w K Q else E := by
  have hw : Region.wanted o (yielded ops a.tmps) = true := by simp [Region.wanted, hgd]
  rw [if_pos hw]
  exact wp_append_own w s x t ho base e i z size bytes ht hi hz hsize hby hzs hsz v n xs hs hown ad m c news hx hl hnews h1 h63 hbytes hbase h
theorem strs_oneL (ss : List ByteArray) : ∀ u ∈ ss.map Value.string, u.oneCell' = true := by
  intro u hu
  obtain ⟨x, _, rfl⟩ := List.mem_map.1 hu
  rfl
theorem str_oneL (t : ByteArray) : ∀ u ∈ [Value.string t], u.oneCell' = true := by
  intro u hu
  simp at hu
  subst hu
  rfl
/-- A row of strings, as it is read. -/
theorem own_read {w w' : World} {B g c : Nat} {ss : List ByteArray} (h : w.ownsRow B 9 1 (.slice (some ⟨g, 0, none⟩) ss.length c) ss.length (ss.map Value.string)) (hb : Below w.heap.size w w') (k m : Nat) (hk : k + m ≤ ss.length) :
    ∀ j u, (((ss.drop k).take m).map Value.string)[j]? = some u → w'.cell? ((⟨g, k, none⟩ : Addr).add j) = some u := by
  intro j u hj
  have hjm : j < m := by
    have := (List.getElem?_eq_some_iff.1 hj).1
    simp at this
    omega
  have hgl := (h.lt g rfl).2
  rw [addr_add, hb.cell (p := ⟨g, k + j, none⟩) hgl, h.cellAt (k + j) (by omega)]
  rw [List.getElem?_map, List.getElem?_take, if_pos hjm, List.getElem?_drop] at hj
  rw [List.getElem?_map]
  exact hj
theorem ret_row {w : World} {B : Nat} {v : Value} {ss : List ByteArray} {n : Nat} (hn : ss.length = n) (h : w.ownsRow B 9 1 v n (ss.map Value.string)) (hv : v ≠ .slice none 0 0) : ∃ g c, v = .slice (some ⟨g, 0, none⟩) ss.length c ∧ w.ownsRow B 9 1 (.slice (some ⟨g, 0, none⟩) ss.length c) ss.length (ss.map Value.string) := by
  subst hn
  rcases h.2 with ⟨e, _⟩ | ⟨g, c, cur, e, _⟩
  · exact absurd e hv
  · subst e
    exact ⟨g, c, rfl, h⟩

set_option maxRecDepth 100000 in
set_option maxHeartbeats 1500000 in
theorem l2Add_any (B g c : Nat) (ss : List ByteArray) (t : ByteArray) (w : World) (hz : ss.length ≤ 2000000) (hB : B ≤ w.heap.size) (hown : w.ownsRow B 9 1 (.slice (some ⟨g, 0, none⟩) ss.length c) ss.length (ss.map Value.string)) :
    Calls Tryz.prog 130 #[.slice (some ⟨g, 0, none⟩) ss.length c, .string t] w fun e w' => ∃ g' c' ss', e = .returned (.slice (some ⟨g', 0, none⟩) (List.length ss') c') ∧ ss'.length ≤ ss.length + 1 ∧ w'.ownsRow B 9 1 (.slice (some ⟨g', 0, none⟩) ss'.length c') ss'.length (ss'.map Value.string) ∧ Below w.heap.size w w' ∧ ss' = addL ss t := by
  obtain ⟨i0, hi, hz0, hz1, hz2⟩ := info_parts infoStrA
  have hcap : ss.length ≤ c := by
    rcases hown.2 with ⟨e, _⟩ | ⟨g', c', cur, e, _, _, h, _⟩
    · cases e
    · cases e; exact h
  go_enter Tryz.func130, Tryz.ntmps130
  go_wp2
  go_loop [5] (fun i => ∃ k : Nat, k ≤ ss.length ∧ i = .int .i64 k ∧ LtTo ss t k) (fun i => ss.length - (intOf i).toNat)
  case atStart => exact ⟨0, Nat.zero_le _, rfl, LtTo.zero ss t⟩
  case round =>
    obtain ⟨k, hk, rfl, hlt0⟩ := hrel
    have HLT : Hid (LtTo ss t k) := hlt0
    clear hlt0
    have hki : (k : Int) ≤ (ss.length : Int) := by omega
    have hkc1 : (k : Int) ≤ (c : Int) := by omega
    have HA : Hid ((w.alloc (.cells #[] 9)).drew.ownsRow w.heap.size 9 1 (.slice (some ⟨w.heap.size, 0, none⟩) 0 0) 0 []) := World.ownsRow_lit w #[] 0 (Nat.le_refl _) (by decide) rfl
    have HA0 : (w.alloc (.cells #[] 9)).ownsRow w.heap.size 9 1 (.slice (some ⟨w.heap.size, 0, none⟩) 0 0) 0 [] := World.ownsRow_lit w #[] 0 (Nat.le_refl _) (by decide) rfl
    have HC : Hid (((w.alloc (.cells #[] 9)).alloc (.cells #[.string t] 9)).drew.ownsRow w.heap.size 9 1 (.slice (some ⟨w.heap.size, 0, none⟩) 0 0) 0 []) := And.intro (HA0.alloc (.cells #[.string t] 9)).1 (HA0.alloc (.cells #[.string t] 9)).2
    have HF0 : ((w.alloc (.cells #[.string t] 9)).alloc (.cells #[] 9)).ownsRow w.heap.size 9 1 (.slice (some ⟨w.heap.size + 1, 0, none⟩) 0 0) 0 [] := by
      have h := World.ownsRow_lit (e := 9) (size := 1) (w.alloc (.cells #[.string t] 9)) #[] 0 (Nat.le_refl _) (by decide) rfl
      rw [show (w.alloc (.cells #[.string t] 9)).heap.size = w.heap.size + 1 from by simp] at h
      exact ownsRow_mono h (by omega)
    have HF : Hid (((w.alloc (.cells #[.string t] 9)).alloc (.cells #[] 9)).drew.ownsRow w.heap.size 9 1 (.slice (some ⟨w.heap.size + 1, 0, none⟩) 0 0) 0 []) := And.intro HF0.1 HF0.2
    have hb0 : Below w.heap.size w (w.alloc (.cells #[] 9)) := (Below.refl _ w).alloc (Nat.le_refl _) _
    have hb1 : Below w.heap.size w ((w.alloc (.cells #[] 9)).alloc (.cells #[.string t] 9)) := hb0.alloc hb0.size _
    have hb2 : Below w.heap.size w (w.alloc (.cells #[.string t] 9)) := (Below.refl _ w).alloc (Nat.le_refl _) _
    have hb3 : Below w.heap.size w ((w.alloc (.cells #[.string t] 9)).alloc (.cells #[] 9)) := hb2.alloc hb2.size _
    have hbA : Below w.heap.size w (w.alloc (.cells #[] 9)).drew := ⟨hb0.os, hb0.tape, hb0.output, hb0.size, hb0.block⟩
    have hbC : Below w.heap.size w ((w.alloc (.cells #[] 9)).alloc (.cells #[.string t] 9)).drew := ⟨hb1.os, hb1.tape, hb1.output, hb1.size, hb1.block⟩
    have hbF : Below w.heap.size w ((w.alloc (.cells #[.string t] 9)).alloc (.cells #[] 9)).drew := ⟨hb3.os, hb3.tape, hb3.output, hb3.size, hb3.block⟩
    have HRD : Hid (∀ w', Below w.heap.size w w' → ∀ j u, ((ss.take k).map Value.string)[j]? = some u → w'.cell? ((⟨g, 0, none⟩ : Addr).add j) = some u) := fun w' hb => by
      have := own_read hown hb 0 k (by omega)
      rw [List.drop_zero] at this
      exact this
    have HNA : Hid (∀ j u, ((ss.take k).map Value.string)[j]? = some u → (w.alloc (.cells #[] 9)).drew.cell? ((⟨g, 0, none⟩ : Addr).add j) = some u) := HRD.out _ hbA
    have HNC : Hid (∀ j u, ((ss.take k).map Value.string)[j]? = some u → ((w.alloc (.cells #[] 9)).alloc (.cells #[.string t] 9)).drew.cell? ((⟨g, 0, none⟩ : Addr).add j) = some u) := HRD.out _ hbC
    have HNF : Hid (∀ j u, ((ss.take k).map Value.string)[j]? = some u → ((w.alloc (.cells #[.string t] 9)).alloc (.cells #[] 9)).drew.cell? ((⟨g, 0, none⟩ : Addr).add j) = some u) := HRD.out _ hbF
    have HLC : Hid (∀ j u, [Value.string t][j]? = some u → ((w.alloc (.cells #[] 9)).alloc (.cells #[.string t] 9)).drew.cell? ((⟨w.heap.size + 1, 0, none⟩ : Addr).add j) = some u) := by
      have h := cells_new (w.alloc (.cells #[] 9)) [Value.string t] 9
      rw [show (w.alloc (.cells #[] 9)).heap.size = w.heap.size + 1 from by simp] at h
      exact h
    have HLF : Hid (∀ j u, [Value.string t][j]? = some u → ((w.alloc (.cells #[.string t] 9)).alloc (.cells #[] 9)).drew.cell? ((⟨w.heap.size, 0, none⟩ : Addr).add j) = some u) := fun j u h => by
      have h1 := cells_new w [Value.string t] 9 j u h
      rw [addr_add] at h1 ⊢
      exact (((Below.refl _ (w.alloc (.cells #[.string t] 9))).alloc (Nat.le_refl _) (.cells #[] 9)).cell (p := ⟨w.heap.size, 0 + j, none⟩) (by simp)).trans h1
    have HR3 : Hid (∀ w', Below w.heap.size w w' → ∀ j u, (((ss.drop k).take (ss.length - k)).map Value.string)[j]? = some u → w'.cell? ((⟨g, k, none⟩ : Addr).add j) = some u) := fun w' hb => own_read hown hb k (ss.length - k) (by omega)
    have HL1 : Hid (((ss.take k).map Value.string).length = k * 1) := by unfold Hid; simp; omega
    have HL3 : Hid ((((ss.drop k).take (ss.length - k)).map Value.string).length = (ss.length - k) * 1) := by unfold Hid; simp
    clear HA0 HF0 hb0 hb1 hb2 hb3 HRD
    by_cases hlt : k < ss.length
    · have hks : (k : Int) < (ss.length : Int) := by omega
      have hck : ¬ (c = k) := by omega
      have c1 : w.cell? ⟨g, k, none⟩ = some (.string (ss[k]'hlt)) := by rw [hown.cellAt k (by omega), List.getElem?_map, List.getElem?_eq_getElem hlt]; rfl
      have HOW : Hid (w.ownsRow B 9 1 (.slice (some ⟨g, 0, none⟩) ss.length c) ss.length (ss.map Value.string)) := hown
      clear hown
      have HST : Hid (Op.bytesLess (ss[k]'hlt).toList t.toList = true → LtTo ss t (k + 1)) := fun h => HLT.out.step hlt h
      have HEQ : Hid (Op.bytesLess (ss[k]'hlt).toList t.toList = false → ((ss[k]'hlt).toList == t.toList) = true → ss = addL ss t) := fun h1 h2 => (addL_eq HLT.out hlt h1 h2).symm
      have HIN : Hid (Op.bytesLess (ss[k]'hlt).toList t.toList = false → ((ss[k]'hlt).toList == t.toList) = false → ss.take k ++ [t] ++ ss.drop k = addL ss t) := fun h1 h2 => (addL_in HLT.out hlt h1 h2).symm
      generalize ss[k]'hlt = p at *
      cases hl : Op.bytesLess p.toList t.toList with
      | true =>
        have HS1 : Hid (LtTo ss t (k + 1)) := HST.out hl
        clear HST HEQ HIN
        go_wp2
        go_round
        case rel => exact ⟨k + 1, by omega, by go_num, HS1.out⟩
        case measure => simp [intOf]; omega
      | false =>
        cases he : (p.toList == t.toList) with
        | true =>
          have HE : Hid (ss = addL ss t) := HEQ.out hl he
          clear HST HEQ HIN
          go_wp2
          go_ret
          exact ⟨g, c, ss, rfl, by omega, HOW.out, Below.refl _ _, HE.out⟩
        | false =>
          have HE : Hid (ss.take k ++ [t] ++ ss.drop k = addL ss t) := HIN.out hl he
          clear HST HEQ HIN
          go_wp2_with fail
          go_region_law (first
            | (refine step_append_own (by rfl) _ _ 60 (by rfl) w.heap.size 9 i0 (.string ⟨#[]⟩) 1 16 Tryz.underlying60 hi hz0 hz1 hz2 rfl (by decide) (.slice (some ⟨w.heap.size, 0, none⟩) 0 0) 0 [] (by rfl) (by with_reducible exact HA.out) ⟨g, 0, none⟩ k c ((ss.take k).map Value.string) (by rfl) HL1.out (by with_reducible exact HNA.out) (strs_oneL _) (by unfold maxLen; omega) (by omega) (by simp <;> omega) ?_; intro v6 w6 hown6 hgrow6 hnn6; have hb6 : Below w.heap.size w w6 := hbA.grown ⟨hgrow6.os, hgrow6.tape, hgrow6.output, hgrow6.size, hgrow6.block⟩ hbA.size (fun j hj => by cases hj; first | exact Nat.le_refl _ | exact Nat.le_succ _); have HO6 : Hid (w6.ownsRow w.heap.size 9 1 v6 k ((ss.take k).map Value.string)) := by { unfold Hid; simpa using hown6 }; have hs6 := hb6.size; clear hown6 hgrow6)
            | (refine step_append_own (by rfl) _ _ 60 (by rfl) w.heap.size 9 i0 (.string ⟨#[]⟩) 1 16 Tryz.underlying60 hi hz0 hz1 hz2 rfl (by decide) (.slice (some ⟨w.heap.size, 0, none⟩) 0 0) 0 [] (by rfl) (by with_reducible exact HC.out) ⟨g, 0, none⟩ k c ((ss.take k).map Value.string) (by rfl) HL1.out (by with_reducible exact HNC.out) (strs_oneL _) (by unfold maxLen; omega) (by omega) (by simp <;> omega) ?_; intro v6 w6 hown6 hgrow6 hnn6; have hb6 : Below w.heap.size w w6 := hbC.grown ⟨hgrow6.os, hgrow6.tape, hgrow6.output, hgrow6.size, hgrow6.block⟩ hbC.size (fun j hj => by cases hj; first | exact Nat.le_refl _ | exact Nat.le_succ _); have hl6 : ∀ j u, [Value.string t][j]? = some u → w6.cell? ((⟨w.heap.size + 1, 0, none⟩ : Addr).add j) = some u := fun j u h => hgrow6.cell (HLC.out j u h) (by rw [addr_add]; simp [Value.ownBlock]); have HO6 : Hid (w6.ownsRow w.heap.size 9 1 v6 k ((ss.take k).map Value.string)) := by { unfold Hid; simpa using hown6 }; have hs6 := hb6.size; clear hown6 hgrow6)
            | (refine step_append_own (by rfl) _ _ 60 (by rfl) w.heap.size 9 i0 (.string ⟨#[]⟩) 1 16 Tryz.underlying60 hi hz0 hz1 hz2 rfl (by decide) (.slice (some ⟨w.heap.size + 1, 0, none⟩) 0 0) 0 [] (by rfl) (by with_reducible exact HF.out) ⟨g, 0, none⟩ k c ((ss.take k).map Value.string) (by rfl) HL1.out (by with_reducible exact HNF.out) (strs_oneL _) (by unfold maxLen; omega) (by omega) (by simp <;> omega) ?_; intro v6 w6 hown6 hgrow6 hnn6; have hb6 : Below w.heap.size w w6 := hbF.grown ⟨hgrow6.os, hgrow6.tape, hgrow6.output, hgrow6.size, hgrow6.block⟩ hbF.size (fun j hj => by cases hj; first | exact Nat.le_refl _ | exact Nat.le_succ _); have hl6 : ∀ j u, [Value.string t][j]? = some u → w6.cell? ((⟨w.heap.size, 0, none⟩ : Addr).add j) = some u := fun j u h => hgrow6.cell (HLF.out j u h) (by rw [addr_add]; simp [Value.ownBlock]); have HO6 : Hid (w6.ownsRow w.heap.size 9 1 v6 k ((ss.take k).map Value.string)) := by { unfold Hid; simpa using hown6 }; have hs6 := hb6.size; clear hown6 hgrow6)
            | (refine step_append_own (by rfl) _ _ 60 (by rfl) w.heap.size 9 i0 (.string ⟨#[]⟩) 1 16 Tryz.underlying60 hi hz0 hz1 hz2 rfl (by decide) v6 k ((ss.take k).map Value.string) (by rfl) (HO6.out.alloc _) ⟨w6.heap.size, 0, none⟩ 1 1 [.string t] (by rfl) rfl (cells_new _ _ _) (str_oneL _) (by unfold maxLen; omega) (by omega) (by first | omega | (simp; omega)) ?_; intro v7 w7 hown7 hgrow7 hnn7; have hb7 : Below w.heap.size w w7 := (hb6.alloc hb6.size (.cells #[.string t] 9)).grown ⟨hgrow7.os, hgrow7.tape, hgrow7.output, hgrow7.size, hgrow7.block⟩ (hb6.alloc hb6.size (.cells #[.string t] 9)).size (fun j hj => (HO6.out.lt j hj).1); have HO7 : Hid (w7.ownsRow w.heap.size 9 1 v7 (k + 1) ((ss.take k).map Value.string ++ [.string t])) := hown7; have HN7 : Hid (v7 ≠ .slice none 0 0) := (fun e => by have := (hnn7.1 e).2; cases this); have hs7 := hb7.size; clear hown7 hgrow7 hnn7)
            | (refine step_append_own (by rfl) _ _ 60 (by rfl) w.heap.size 9 i0 (.string ⟨#[]⟩) 1 16 Tryz.underlying60 hi hz0 hz1 hz2 rfl (by decide) v6 k ((ss.take k).map Value.string) (by rfl) (HO6.out) ⟨w.heap.size + 1, 0, none⟩ 1 1 [.string t] (by rfl) rfl (hl6) (str_oneL _) (by unfold maxLen; omega) (by omega) (by first | omega | (simp; omega)) ?_; intro v7 w7 hown7 hgrow7 hnn7; have hb7 : Below w.heap.size w w7 := (hb6).grown ⟨hgrow7.os, hgrow7.tape, hgrow7.output, hgrow7.size, hgrow7.block⟩ (hb6).size (fun j hj => (HO6.out.lt j hj).1); have HO7 : Hid (w7.ownsRow w.heap.size 9 1 v7 (k + 1) ((ss.take k).map Value.string ++ [.string t])) := hown7; have HN7 : Hid (v7 ≠ .slice none 0 0) := (fun e => by have := (hnn7.1 e).2; cases this); have hs7 := hb7.size; clear hown7 hgrow7 hnn7)
            | (refine step_append_own (by rfl) _ _ 60 (by rfl) w.heap.size 9 i0 (.string ⟨#[]⟩) 1 16 Tryz.underlying60 hi hz0 hz1 hz2 rfl (by decide) v6 k ((ss.take k).map Value.string) (by rfl) (HO6.out) ⟨w.heap.size, 0, none⟩ 1 1 [.string t] (by rfl) rfl (hl6) (str_oneL _) (by unfold maxLen; omega) (by omega) (by first | omega | (simp; omega)) ?_; intro v7 w7 hown7 hgrow7 hnn7; have hb7 : Below w.heap.size w w7 := (hb6).grown ⟨hgrow7.os, hgrow7.tape, hgrow7.output, hgrow7.size, hgrow7.block⟩ (hb6).size (fun j hj => (HO6.out.lt j hj).1); have HO7 : Hid (w7.ownsRow w.heap.size 9 1 v7 (k + 1) ((ss.take k).map Value.string ++ [.string t])) := hown7; have HN7 : Hid (v7 ≠ .slice none 0 0) := (fun e => by have := (hnn7.1 e).2; cases this); have hs7 := hb7.size; clear hown7 hgrow7 hnn7)
            | (refine step_append_own (by rfl) _ _ 60 (by rfl) w.heap.size 9 i0 (.string ⟨#[]⟩) 1 16 Tryz.underlying60 hi hz0 hz1 hz2 rfl (by decide) v7 (k + 1) ((ss.take k).map Value.string ++ [.string t]) (by rfl) HO7.out ⟨g, k, none⟩ (ss.length - k) (c - k) (((ss.drop k).take (ss.length - k)).map Value.string) (by rfl) HL3.out (HR3.out _ hb7) (strs_oneL _) (by unfold maxLen; omega) (by omega) (by omega) ?_; intro v8 w8 hown8 hgrow8 hnn8; have hb8 : Below w.heap.size w w8 := hb7.grown ⟨hgrow8.os, hgrow8.tape, hgrow8.output, hgrow8.size, hgrow8.block⟩ hb7.size (fun j hj => (HO7.out.lt j hj).1); have HO8 : Hid (w8.ownsRow w.heap.size 9 1 v8 (k + 1 + (ss.length - k)) (((ss.take k).map Value.string ++ [.string t]) ++ ((ss.drop k).take (ss.length - k)).map Value.string)) := hown8; have HN8 : Hid (v8 ≠ .slice none 0 0) := (fun e => HN7.out (hnn8.1 e).1); clear hown8 hgrow8 hnn8)
            | fail)
          all_goals
            have HSS : Hid (((ss.take k).map Value.string ++ [.string t]) ++ ((ss.drop k).take (ss.length - k)).map Value.string = (ss.take k ++ [t] ++ ss.drop k).map Value.string) := by
              unfold Hid
              rw [show (ss.drop k).take (ss.length - k) = ss.drop k from List.take_of_length_le (by simp), List.map_append, List.map_append]
              rfl
            have hlen : (ss.take k ++ [t] ++ ss.drop k).length = k + 1 + (ss.length - k) := by simp; omega
            rw [HSS.out] at HO8
            obtain ⟨g', c', hv, ho⟩ := ret_row hlen HO8.out HN8.out
            have HOB : Hid (w8.ownsRow B 9 1 (.slice (some ⟨g', 0, none⟩) (ss.take k ++ [t] ++ ss.drop k).length c') (ss.take k ++ [t] ++ ss.drop k).length ((ss.take k ++ [t] ++ ss.drop k).map Value.string)) := ownsRow_mono ho hB
            have hl2 : (ss.take k ++ [t] ++ ss.drop k).length ≤ ss.length + 1 := by omega
            clear HO8 HO7 HO6 ho HSS hlen HN8 HN7
            generalize ss.take k ++ [t] ++ ss.drop k = S at *
            subst hv
            go_wp2
            go_ret
            exact ⟨g', c', S, rfl, hl2, HOB.out, hb8, HE.out⟩
    · have hkl : k = ss.length := by omega
      have hkd : decide ((k : Int) < (ss.length : Int)) = false := decide_eq_false (by omega)
      have hge : ss.length ≤ k := by omega
      have HE : Hid (ss.take k ++ [t] = addL ss t) := (addL_end HLT.out hge).symm
      clear hkl hlt hown hkd HR3 HL3
      by_cases hck : c = k
      · have hck2 : k = c := hck.symm
        clear hck
        subst hck2
        go_wp2_with fail
        go_region_law (first
          | (refine step_append_own (by rfl) _ _ 60 (by rfl) w.heap.size 9 i0 (.string ⟨#[]⟩) 1 16 Tryz.underlying60 hi hz0 hz1 hz2 rfl (by decide) (.slice (some ⟨w.heap.size, 0, none⟩) 0 0) 0 [] (by rfl) (by with_reducible exact HA.out) ⟨g, 0, none⟩ k k ((ss.take k).map Value.string) (by rfl) HL1.out (by with_reducible exact HNA.out) (strs_oneL _) (by unfold maxLen; omega) (by omega) (by simp <;> omega) ?_; intro v6 w6 hown6 hgrow6 hnn6; have hb6 : Below w.heap.size w w6 := hbA.grown ⟨hgrow6.os, hgrow6.tape, hgrow6.output, hgrow6.size, hgrow6.block⟩ hbA.size (fun j hj => by cases hj; first | exact Nat.le_refl _ | exact Nat.le_succ _); have HO6 : Hid (w6.ownsRow w.heap.size 9 1 v6 k ((ss.take k).map Value.string)) := by { unfold Hid; simpa using hown6 }; have hs6 := hb6.size; clear hown6 hgrow6)
          | (refine step_append_own (by rfl) _ _ 60 (by rfl) w.heap.size 9 i0 (.string ⟨#[]⟩) 1 16 Tryz.underlying60 hi hz0 hz1 hz2 rfl (by decide) (.slice (some ⟨w.heap.size, 0, none⟩) 0 0) 0 [] (by rfl) (by with_reducible exact HC.out) ⟨g, 0, none⟩ k k ((ss.take k).map Value.string) (by rfl) HL1.out (by with_reducible exact HNC.out) (strs_oneL _) (by unfold maxLen; omega) (by omega) (by simp <;> omega) ?_; intro v6 w6 hown6 hgrow6 hnn6; have hb6 : Below w.heap.size w w6 := hbC.grown ⟨hgrow6.os, hgrow6.tape, hgrow6.output, hgrow6.size, hgrow6.block⟩ hbC.size (fun j hj => by cases hj; first | exact Nat.le_refl _ | exact Nat.le_succ _); have hl6 : ∀ j u, [Value.string t][j]? = some u → w6.cell? ((⟨w.heap.size + 1, 0, none⟩ : Addr).add j) = some u := fun j u h => hgrow6.cell (HLC.out j u h) (by rw [addr_add]; simp [Value.ownBlock]); have HO6 : Hid (w6.ownsRow w.heap.size 9 1 v6 k ((ss.take k).map Value.string)) := by { unfold Hid; simpa using hown6 }; have hs6 := hb6.size; clear hown6 hgrow6)
          | (refine step_append_own (by rfl) _ _ 60 (by rfl) w.heap.size 9 i0 (.string ⟨#[]⟩) 1 16 Tryz.underlying60 hi hz0 hz1 hz2 rfl (by decide) (.slice (some ⟨w.heap.size + 1, 0, none⟩) 0 0) 0 [] (by rfl) (by with_reducible exact HF.out) ⟨g, 0, none⟩ k k ((ss.take k).map Value.string) (by rfl) HL1.out (by with_reducible exact HNF.out) (strs_oneL _) (by unfold maxLen; omega) (by omega) (by simp <;> omega) ?_; intro v6 w6 hown6 hgrow6 hnn6; have hb6 : Below w.heap.size w w6 := hbF.grown ⟨hgrow6.os, hgrow6.tape, hgrow6.output, hgrow6.size, hgrow6.block⟩ hbF.size (fun j hj => by cases hj; first | exact Nat.le_refl _ | exact Nat.le_succ _); have hl6 : ∀ j u, [Value.string t][j]? = some u → w6.cell? ((⟨w.heap.size, 0, none⟩ : Addr).add j) = some u := fun j u h => hgrow6.cell (HLF.out j u h) (by rw [addr_add]; simp [Value.ownBlock]); have HO6 : Hid (w6.ownsRow w.heap.size 9 1 v6 k ((ss.take k).map Value.string)) := by { unfold Hid; simpa using hown6 }; have hs6 := hb6.size; clear hown6 hgrow6)
          | (refine step_append_own (by rfl) _ _ 60 (by rfl) w.heap.size 9 i0 (.string ⟨#[]⟩) 1 16 Tryz.underlying60 hi hz0 hz1 hz2 rfl (by decide) v6 k ((ss.take k).map Value.string) (by rfl) (HO6.out.alloc _) ⟨w6.heap.size, 0, none⟩ 1 1 [.string t] (by rfl) rfl (cells_new _ _ _) (str_oneL _) (by unfold maxLen; omega) (by omega) (by first | omega | (simp; omega)) ?_; intro v7 w7 hown7 hgrow7 hnn7; have hb7 : Below w.heap.size w w7 := (hb6.alloc hb6.size (.cells #[.string t] 9)).grown ⟨hgrow7.os, hgrow7.tape, hgrow7.output, hgrow7.size, hgrow7.block⟩ (hb6.alloc hb6.size (.cells #[.string t] 9)).size (fun j hj => (HO6.out.lt j hj).1); have HO7 : Hid (w7.ownsRow w.heap.size 9 1 v7 (k + 1) ((ss.take k).map Value.string ++ [.string t])) := hown7; have HN7 : Hid (v7 ≠ .slice none 0 0) := (fun e => by have := (hnn7.1 e).2; cases this); have hs7 := hb7.size; clear hown7 hgrow7 hnn7)
          | (refine step_append_own (by rfl) _ _ 60 (by rfl) w.heap.size 9 i0 (.string ⟨#[]⟩) 1 16 Tryz.underlying60 hi hz0 hz1 hz2 rfl (by decide) v6 k ((ss.take k).map Value.string) (by rfl) (HO6.out) ⟨w.heap.size + 1, 0, none⟩ 1 1 [.string t] (by rfl) rfl (hl6) (str_oneL _) (by unfold maxLen; omega) (by omega) (by first | omega | (simp; omega)) ?_; intro v7 w7 hown7 hgrow7 hnn7; have hb7 : Below w.heap.size w w7 := (hb6).grown ⟨hgrow7.os, hgrow7.tape, hgrow7.output, hgrow7.size, hgrow7.block⟩ (hb6).size (fun j hj => (HO6.out.lt j hj).1); have HO7 : Hid (w7.ownsRow w.heap.size 9 1 v7 (k + 1) ((ss.take k).map Value.string ++ [.string t])) := hown7; have HN7 : Hid (v7 ≠ .slice none 0 0) := (fun e => by have := (hnn7.1 e).2; cases this); have hs7 := hb7.size; clear hown7 hgrow7 hnn7)
          | (refine step_append_own (by rfl) _ _ 60 (by rfl) w.heap.size 9 i0 (.string ⟨#[]⟩) 1 16 Tryz.underlying60 hi hz0 hz1 hz2 rfl (by decide) v6 k ((ss.take k).map Value.string) (by rfl) (HO6.out) ⟨w.heap.size, 0, none⟩ 1 1 [.string t] (by rfl) rfl (hl6) (str_oneL _) (by unfold maxLen; omega) (by omega) (by first | omega | (simp; omega)) ?_; intro v7 w7 hown7 hgrow7 hnn7; have hb7 : Below w.heap.size w w7 := (hb6).grown ⟨hgrow7.os, hgrow7.tape, hgrow7.output, hgrow7.size, hgrow7.block⟩ (hb6).size (fun j hj => (HO6.out.lt j hj).1); have HO7 : Hid (w7.ownsRow w.heap.size 9 1 v7 (k + 1) ((ss.take k).map Value.string ++ [.string t])) := hown7; have HN7 : Hid (v7 ≠ .slice none 0 0) := (fun e => by have := (hnn7.1 e).2; cases this); have hs7 := hb7.size; clear hown7 hgrow7 hnn7)
          | (refine step_append_own (by rfl) _ _ 60 (by rfl) w.heap.size 9 i0 (.string ⟨#[]⟩) 1 16 Tryz.underlying60 hi hz0 hz1 hz2 rfl (by decide) v7 (k + 1) ((ss.take k).map Value.string ++ [.string t]) (by rfl) HO7.out ⟨g, 0, none⟩ 0 0 [] (by rfl) rfl (by simp) (by simp) (by unfold maxLen; omega) (by omega) (by omega) ?_; intro v8 w8 hown8 hgrow8 hnn8; have hb8 : Below w.heap.size w w8 := hb7.grown ⟨hgrow8.os, hgrow8.tape, hgrow8.output, hgrow8.size, hgrow8.block⟩ hb7.size (fun j hj => (HO7.out.lt j hj).1); have HO8 : Hid (w8.ownsRow w.heap.size 9 1 v8 (k + 1) ((ss.take k ++ [t]).map Value.string)) := (by unfold Hid; rw [List.map_append]; simpa using hown8); have HN8 : Hid (v8 ≠ .slice none 0 0) := (fun e => HN7.out (hnn8.1 e).1); clear hown8 hgrow8 hnn8)
          | fail)
        all_goals
          have hlen : (ss.take k ++ [t]).length = k + 1 := by rw [List.length_append, List.length_take]; simp; omega
          obtain ⟨g', c', hv, ho⟩ := ret_row hlen HO8.out HN8.out
          have HOB : Hid (w8.ownsRow B 9 1 (.slice (some ⟨g', 0, none⟩) (ss.take k ++ [t]).length c') (ss.take k ++ [t]).length ((ss.take k ++ [t]).map Value.string)) := ownsRow_mono ho hB
          have hl2 : (ss.take k ++ [t]).length ≤ ss.length + 1 := by omega
          clear HO8 HO7 HO6 ho hlen HN8 HN7
          generalize ss.take k ++ [t] = S at *
          subst hv
          go_wp2
          go_ret
          exact ⟨g', c', S, rfl, hl2, HOB.out, hb8, HE.out⟩
      · go_wp2_with fail
        go_region_law (first
          | (refine step_append_own (by rfl) _ _ 60 (by rfl) w.heap.size 9 i0 (.string ⟨#[]⟩) 1 16 Tryz.underlying60 hi hz0 hz1 hz2 rfl (by decide) (.slice (some ⟨w.heap.size, 0, none⟩) 0 0) 0 [] (by rfl) (by with_reducible exact HA.out) ⟨g, 0, none⟩ k c ((ss.take k).map Value.string) (by rfl) HL1.out (by with_reducible exact HNA.out) (strs_oneL _) (by unfold maxLen; omega) (by omega) (by simp <;> omega) ?_; intro v6 w6 hown6 hgrow6 hnn6; have hb6 : Below w.heap.size w w6 := hbA.grown ⟨hgrow6.os, hgrow6.tape, hgrow6.output, hgrow6.size, hgrow6.block⟩ hbA.size (fun j hj => by cases hj; first | exact Nat.le_refl _ | exact Nat.le_succ _); have HO6 : Hid (w6.ownsRow w.heap.size 9 1 v6 k ((ss.take k).map Value.string)) := by { unfold Hid; simpa using hown6 }; have hs6 := hb6.size; clear hown6 hgrow6)
          | (refine step_append_own (by rfl) _ _ 60 (by rfl) w.heap.size 9 i0 (.string ⟨#[]⟩) 1 16 Tryz.underlying60 hi hz0 hz1 hz2 rfl (by decide) (.slice (some ⟨w.heap.size, 0, none⟩) 0 0) 0 [] (by rfl) (by with_reducible exact HC.out) ⟨g, 0, none⟩ k c ((ss.take k).map Value.string) (by rfl) HL1.out (by with_reducible exact HNC.out) (strs_oneL _) (by unfold maxLen; omega) (by omega) (by simp <;> omega) ?_; intro v6 w6 hown6 hgrow6 hnn6; have hb6 : Below w.heap.size w w6 := hbC.grown ⟨hgrow6.os, hgrow6.tape, hgrow6.output, hgrow6.size, hgrow6.block⟩ hbC.size (fun j hj => by cases hj; first | exact Nat.le_refl _ | exact Nat.le_succ _); have hl6 : ∀ j u, [Value.string t][j]? = some u → w6.cell? ((⟨w.heap.size + 1, 0, none⟩ : Addr).add j) = some u := fun j u h => hgrow6.cell (HLC.out j u h) (by rw [addr_add]; simp [Value.ownBlock]); have HO6 : Hid (w6.ownsRow w.heap.size 9 1 v6 k ((ss.take k).map Value.string)) := by { unfold Hid; simpa using hown6 }; have hs6 := hb6.size; clear hown6 hgrow6)
          | (refine step_append_own (by rfl) _ _ 60 (by rfl) w.heap.size 9 i0 (.string ⟨#[]⟩) 1 16 Tryz.underlying60 hi hz0 hz1 hz2 rfl (by decide) (.slice (some ⟨w.heap.size + 1, 0, none⟩) 0 0) 0 [] (by rfl) (by with_reducible exact HF.out) ⟨g, 0, none⟩ k c ((ss.take k).map Value.string) (by rfl) HL1.out (by with_reducible exact HNF.out) (strs_oneL _) (by unfold maxLen; omega) (by omega) (by simp <;> omega) ?_; intro v6 w6 hown6 hgrow6 hnn6; have hb6 : Below w.heap.size w w6 := hbF.grown ⟨hgrow6.os, hgrow6.tape, hgrow6.output, hgrow6.size, hgrow6.block⟩ hbF.size (fun j hj => by cases hj; first | exact Nat.le_refl _ | exact Nat.le_succ _); have hl6 : ∀ j u, [Value.string t][j]? = some u → w6.cell? ((⟨w.heap.size, 0, none⟩ : Addr).add j) = some u := fun j u h => hgrow6.cell (HLF.out j u h) (by rw [addr_add]; simp [Value.ownBlock]); have HO6 : Hid (w6.ownsRow w.heap.size 9 1 v6 k ((ss.take k).map Value.string)) := by { unfold Hid; simpa using hown6 }; have hs6 := hb6.size; clear hown6 hgrow6)
          | (refine step_append_own (by rfl) _ _ 60 (by rfl) w.heap.size 9 i0 (.string ⟨#[]⟩) 1 16 Tryz.underlying60 hi hz0 hz1 hz2 rfl (by decide) v6 k ((ss.take k).map Value.string) (by rfl) (HO6.out.alloc _) ⟨w6.heap.size, 0, none⟩ 1 1 [.string t] (by rfl) rfl (cells_new _ _ _) (str_oneL _) (by unfold maxLen; omega) (by omega) (by first | omega | (simp; omega)) ?_; intro v7 w7 hown7 hgrow7 hnn7; have hb7 : Below w.heap.size w w7 := (hb6.alloc hb6.size (.cells #[.string t] 9)).grown ⟨hgrow7.os, hgrow7.tape, hgrow7.output, hgrow7.size, hgrow7.block⟩ (hb6.alloc hb6.size (.cells #[.string t] 9)).size (fun j hj => (HO6.out.lt j hj).1); have HO7 : Hid (w7.ownsRow w.heap.size 9 1 v7 (k + 1) ((ss.take k).map Value.string ++ [.string t])) := hown7; have HN7 : Hid (v7 ≠ .slice none 0 0) := (fun e => by have := (hnn7.1 e).2; cases this); have hs7 := hb7.size; clear hown7 hgrow7 hnn7)
          | (refine step_append_own (by rfl) _ _ 60 (by rfl) w.heap.size 9 i0 (.string ⟨#[]⟩) 1 16 Tryz.underlying60 hi hz0 hz1 hz2 rfl (by decide) v6 k ((ss.take k).map Value.string) (by rfl) (HO6.out) ⟨w.heap.size + 1, 0, none⟩ 1 1 [.string t] (by rfl) rfl (hl6) (str_oneL _) (by unfold maxLen; omega) (by omega) (by first | omega | (simp; omega)) ?_; intro v7 w7 hown7 hgrow7 hnn7; have hb7 : Below w.heap.size w w7 := (hb6).grown ⟨hgrow7.os, hgrow7.tape, hgrow7.output, hgrow7.size, hgrow7.block⟩ (hb6).size (fun j hj => (HO6.out.lt j hj).1); have HO7 : Hid (w7.ownsRow w.heap.size 9 1 v7 (k + 1) ((ss.take k).map Value.string ++ [.string t])) := hown7; have HN7 : Hid (v7 ≠ .slice none 0 0) := (fun e => by have := (hnn7.1 e).2; cases this); have hs7 := hb7.size; clear hown7 hgrow7 hnn7)
          | (refine step_append_own (by rfl) _ _ 60 (by rfl) w.heap.size 9 i0 (.string ⟨#[]⟩) 1 16 Tryz.underlying60 hi hz0 hz1 hz2 rfl (by decide) v6 k ((ss.take k).map Value.string) (by rfl) (HO6.out) ⟨w.heap.size, 0, none⟩ 1 1 [.string t] (by rfl) rfl (hl6) (str_oneL _) (by unfold maxLen; omega) (by omega) (by first | omega | (simp; omega)) ?_; intro v7 w7 hown7 hgrow7 hnn7; have hb7 : Below w.heap.size w w7 := (hb6).grown ⟨hgrow7.os, hgrow7.tape, hgrow7.output, hgrow7.size, hgrow7.block⟩ (hb6).size (fun j hj => (HO6.out.lt j hj).1); have HO7 : Hid (w7.ownsRow w.heap.size 9 1 v7 (k + 1) ((ss.take k).map Value.string ++ [.string t])) := hown7; have HN7 : Hid (v7 ≠ .slice none 0 0) := (fun e => by have := (hnn7.1 e).2; cases this); have hs7 := hb7.size; clear hown7 hgrow7 hnn7)
          | (refine step_append_own (by rfl) _ _ 60 (by rfl) w.heap.size 9 i0 (.string ⟨#[]⟩) 1 16 Tryz.underlying60 hi hz0 hz1 hz2 rfl (by decide) v7 (k + 1) ((ss.take k).map Value.string ++ [.string t]) (by rfl) HO7.out ⟨g, k, none⟩ 0 (c - k) [] (by rfl) rfl (by simp) (by simp) (by unfold maxLen; omega) (by omega) (by omega) ?_; intro v8 w8 hown8 hgrow8 hnn8; have hb8 : Below w.heap.size w w8 := hb7.grown ⟨hgrow8.os, hgrow8.tape, hgrow8.output, hgrow8.size, hgrow8.block⟩ hb7.size (fun j hj => (HO7.out.lt j hj).1); have HO8 : Hid (w8.ownsRow w.heap.size 9 1 v8 (k + 1) ((ss.take k ++ [t]).map Value.string)) := (by unfold Hid; rw [List.map_append]; simpa using hown8); have HN8 : Hid (v8 ≠ .slice none 0 0) := (fun e => HN7.out (hnn8.1 e).1); clear hown8 hgrow8 hnn8)
          | fail)
        all_goals
          have hlen : (ss.take k ++ [t]).length = k + 1 := by rw [List.length_append, List.length_take]; simp; omega
          obtain ⟨g', c', hv, ho⟩ := ret_row hlen HO8.out HN8.out
          have HOB : Hid (w8.ownsRow B 9 1 (.slice (some ⟨g', 0, none⟩) (ss.take k ++ [t]).length c') (ss.take k ++ [t]).length ((ss.take k ++ [t]).map Value.string)) := ownsRow_mono ho hB
          have hl2 : (ss.take k ++ [t]).length ≤ ss.length + 1 := by omega
          clear HO8 HO7 HO6 ho hlen HN8 HN7
          generalize ss.take k ++ [t] = S at *
          subst hv
          go_wp2
          go_ret
          exact ⟨g', c', S, rfl, hl2, HOB.out, hb8, HE.out⟩

end Go.Proofs.YtjkimadnopeakaaGreatDoor
