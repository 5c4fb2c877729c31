/- entries: the words of the program as a list. -/
import Derived.Test.YtbifagdcnpnpjaaGreatWordsOf
import Derived.Test.YtbifagdcnpnpjaaGreatQuietTail
import Derived.Test.YtbifagdcnpnpjaaGreatAppStep
namespace Go.Proofs.YtbifagdcnpnpjaaGreat
open Go Go.Sort Go.RowKit Go.BigFrame
set_option linter.unusedVariables false

def eat (es : List Ent) (k : Nat) : Ent := es.getD k ⟨⟨#[]⟩, ⟨#[]⟩, []⟩
theorem eat_get (es : List Ent) (k : Nat) (h : k < es.length) : eat es k = es[k] := by unfold eat; rw [List.getD_eq_getElem?_getD, List.getElem?_eq_getElem h]; rfl
def entVals (vl : ByteArray → ByteArray → Value) (es : List Ent) : List Value := es.flatMap fun e => [.string e.field, .string e.term, vl e.field e.term]
theorem entVals_snoc (vl : ByteArray → ByteArray → Value) (es : List Ent) (e : Ent) : entVals vl (es ++ [e]) = entVals vl es ++ [.string e.field, .string e.term, vl e.field e.term] := by simp [entVals]
theorem entVals_len (vl : ByteArray → ByteArray → Value) : ∀ es : List Ent, (entVals vl es).length = es.length * 3
  | [] => rfl
  | e :: es => by
    have h := entVals_len vl es
    simp [entVals] at h ⊢
    omega
theorem entVals_grp (vl : ByteArray → ByteArray → Value) (es : List Ent) (i : Nat) (e : Ent) (h : es[i]? = some e) : grp (entVals vl es) 3 i = [.string e.field, .string e.term, vl e.field e.term] := by
  have hl := (List.getElem?_eq_some_iff.1 h).1
  have he : es = es.take i ++ e :: es.drop (i + 1) := by
    have e1 := (List.getElem?_eq_some_iff.1 h).2
    rw [← e1, ← List.drop_eq_getElem_cons hl, List.take_append_drop]
  have e2 : entVals vl es = entVals vl (es.take i) ++ ([.string e.field, .string e.term, vl e.field e.term] ++ entVals vl (es.drop (i + 1))) := by
    conv => lhs; rw [he]
    simp [entVals]
  have hl1 : (entVals vl (es.take i)).length = i * 3 := by rw [entVals_len, List.length_take]; congr 1; omega
  rw [e2]
  have := grp_skip (ys := entVals vl (es.take i)) (xs := [.string e.field, .string e.term, vl e.field e.term] ++ entVals vl (es.drop (i + 1))) (s := 3) (n := i) (i := 0) hl1
  exact Eq.trans this rfl
theorem take_snocE (es : List Ent) (k : Nat) (h : k < es.length) : es.take (k + 1) = es.take k ++ [es[k]] := by rw [List.take_add_one, List.getElem?_eq_getElem h]; rfl
theorem ents_one (f t : ByteArray) (a : Option Addr) (n c : Nat) : ∀ u ∈ [Value.string f, Value.string t, Value.slice a n c], u.oneCell' = true := by
  intro u hu
  simp at hu
  rcases hu with rfl | rfl | rfl <;> rfl
/-- The list, made of the maps' own posts. -/
theorem entries_own {w w' : World} {B bw b0 N : Nat} {es : List Ent} {s : WS} {ib : ByteArray → Option Nat} {vl : ByteArray → ByteArray → Value} {fp : ByteArray → ByteArray → List Nat} {vo v : Value} (h : AddS w B bw b0 s N ib vl fp vo) (hr : WRel es s) (hB : B ≤ w.heap.size) (hb : Below w.heap.size w w')
    (ho : w'.ownsRow w.heap.size 99 3 v es.length (entVals vl es)) : GRow entEl w' B v (entVals vl es) es (fun i => fp (eat es i).field (eat es i).term) := by
  refine .make (ownsRow_mono ho hB) (fun i a hi => ?_) (fun i j hi hj hne b hb1 => ?_) (fun g hg i hi hm => ?_)
  · have hil := (List.getElem?_eq_some_iff.1 hi).1
    have e : eat es i = a := by rw [eat_get es i hil]; exact (List.getElem?_eq_some_iff.1 hi).2
    rw [e]
    obtain ⟨h1, h2⟩ := h.wm.el a.field a.term
    rw [(hr.m a (List.mem_of_getElem? hi)).1] at h1
    exact ⟨⟨_, entVals_grp vl es i a hi, h1.kept fun b hb1 => hb.block b (h1.lt b hb1)⟩, h2⟩
  · refine h.wm.ap _ _ _ _ (fun hk => hne ?_) b hb1
    rw [eat_get es i hi, eat_get es j hj] at hk
    have hki : (keysE es)[i]? = some (es[i].field, es[i].term) := by rw [keysE_get, List.getElem?_eq_getElem hi]; rfl
    have hkj : (keysE es)[j]? = some (es[j].field, es[j].term) := by rw [keysE_get, List.getElem?_eq_getElem hj]; rfl
    rw [← hk.1, ← hk.2] at hkj
    rcases Nat.lt_trichotomy i j with h3 | h3 | h3
    · exact ((hr.asc.lt h3 hki hkj).irrefl).elim
    · exact h3
    · exact ((hr.asc.lt h3 hkj hki).irrefl).elim
  · have h1 := (h.wm.el (eat es i).field (eat es i).term).1.lt g hm
    have h2 := (ho.lt g hg).1
    omega
set_option maxRecDepth 100000 in
set_option maxHeartbeats 4000000 in
theorem entries_any (B bw b0 N n : Nat) (es : List Ent) (s : WS) (ib : ByteArray → Option Nat) (vl : ByteArray → ByteArray → Value) (fp : ByteArray → ByteArray → List Nat) (vo : Value) (w : World) (hB : B ≤ w.heap.size) (hn : n ≤ 1000000) (hes : EntsN es n) (h : AddS w B bw b0 s N ib vl fp vo) (hr : WRel es s) :
    Calls Tryz.prog 94 #[.agg #[.map (some b0), vo]] w fun e w' => ∃ v, e = .returned v ∧ GRow entEl w' B v (entVals vl es) es (fun i => fp (eat es i).field (eat es i).term) ∧ Below w.heap.size w w' := by
  have HFIN : Hid (∀ w' v, Below w.heap.size w w' → w'.ownsRow w.heap.size 99 3 v es.length (entVals vl es) → GRow entEl w' B v (entVals vl es) es (fun i => fp (eat es i).field (eat es i).term)) := fun w' v hb ho => entries_own h hr hB hb ho
  have hod : w.ownsRow B 149 2 vo (keysE es).length (kyCells (keysE es)) := by rw [← hr.o]; exact h.od
  obtain ⟨po, co, rfl, _, _, hsr⟩ := owns_spots hod
  rw [keysE_len]
  have HSR : Hid (SpotRow w po (keysE es)) := hsr
  have HWM : Hid (WM w B b0 s N ib vl fp) := h.wm
  have HM : Hid (∀ k, k < es.length → s.m (eat es k).field (eat es k).term = (eat es k).posts ∧ (eat es k).posts ≠ [] ∧ (eat es k).field.size ≤ 1048576 ∧ (eat es k).term.size ≤ 1048576) := fun k hk => by
    rw [eat_get es k hk]
    have h1 := hr.m es[k] (List.getElem_mem hk)
    have h2 := hes.el es[k] (List.getElem_mem hk)
    exact ⟨h1.1, h1.2.1, h2.2.2.1, h2.2.2.2.1⟩
  have hel := hes.len
  obtain ⟨W0, hW0⟩ : ∃ W0, w.alloc (.cells #[.map (some b0), .slice po es.length co] 82) = W0 := ⟨_, rfl⟩
  have hb0 : Below w.heap.size w W0 := by rw [← hW0]; exact (Below.refl _ w).alloc (Nat.le_refl _) _
  have HB0 : Hid (Blk W0 w.heap.size #[.map (some b0), .slice po es.length co] 82) := by unfold Hid; rw [← hW0]; exact Blk.new _ _ _
  have x1 := HB0.out.cell 1
  simp at x1
  have HE0 : Hid (w.alloc (.cells #[.map (some b0), .slice po es.length co] 82) = W0) := hW0
  clear h hr hes hsr hod
  obtain ⟨i0, hi, hz0, hz1, hz2⟩ := info_parts infoEnt
  go_enter Tryz.func94, Tryz.ntmps94
  go_wp2_with fail
  go_loopw [3, 9] (fun lv i wr => ∃ k : Nat, k ≤ es.length ∧ i = .int .i64 k ∧ wr.ownsRow W0.heap.size 99 3 lv k (entVals vl (es.take k)) ∧ Below W0.heap.size W0 wr) (fun _ i _ => es.length - (intOf i).toNat)
  case atStart => exact ⟨0, Nat.zero_le _, rfl, World.ownsRow_nil _ _ _ _, Below.refl _ _⟩
  case round =>
    obtain ⟨k, hk, rfl, how, hbr⟩ := hrel
    have hwr : Below w.heap.size w wr := hb0.trans (hbr.mono hb0.size)
    have hs0 := hb0.size
    have hsr := hbr.size
    obtain ⟨pl, cl, rfl, hcl, _⟩ := row_val how
    have HOW : Hid (wr.ownsRow W0.heap.size 99 3 (.slice pl k cl) k (entVals vl (es.take k))) := how
    have HBR : Hid (Below W0.heap.size W0 wr) := hbr
    have HB1 : Hid (Blk wr w.heap.size #[.map (some b0), .slice po es.length co] 82) := HB0.out.below hbr HB0.out.lt
    clear how hbr
    by_cases hlt : k < es.length
    · have hltI : (k : Int) < (es.length : Int) := by omega
      have HTK : Hid (entVals vl (es.take (k + 1)) = entVals vl (es.take k) ++ [.string (eat es k).field, .string (eat es k).term, vl (eat es k).field (eat es k).term]) := by unfold Hid; rw [take_snocE es k hlt, entVals_snoc, eat_get es k hlt]
      obtain ⟨g, off, rfl, hg, hc⟩ := (HSR.out.below hwr) (by rw [keysE_len]; omega)
      obtain ⟨c0, c1⟩ := hc k ((eat es k).field, (eat es k).term) (by rw [keysE_get, List.getElem?_eq_getElem hlt, eat_get es k hlt]; rfl)
      obtain ⟨hm1, hm2, hm3, hm4⟩ := HM.out k hlt
      simp only at c0 c1
      generalize eat es k = x at *
      obtain ⟨f, t, ps⟩ := x
      simp only at c0 c1 hm1 hm2 hm3 hm4 HTK
      obtain ⟨VA, hVA⟩ : ∃ VA, wr.alloc (.cells #[.string f, .string t] 149) = VA := ⟨_, rfl⟩
      have hba : Below wr.heap.size wr VA := by rw [← hVA]; exact (Below.refl _ _).alloc (Nat.le_refl _) _
      have hsa : VA.heap.size = wr.heap.size + 1 := by rw [← hVA]; simp
      have BV : Blk VA wr.heap.size #[.string f, .string t] 149 := by rw [← hVA]; exact Blk.new _ _ _
      have BM := HB1.out.below hba HB1.out.lt
      have hwa : Below w.heap.size w VA := hwr.trans (hba.mono (by omega))
      have HWA : Hid (WM VA B b0 s N ib vl fp) := HWM.out.below hwa
      have HOA : Hid (VA.ownsRow W0.heap.size 99 3 (.slice pl k cl) k (entVals vl (es.take k))) := by unfold Hid; rw [← hVA]; exact HOW.out.alloc _
      have hmf : f.size ≤ maxLen := by unfold maxLen; omega
      have hmt : t.size ≤ maxLen := by unfold maxLen; omega
      obtain ⟨bi, hbi⟩ : ∃ bi, ib f = some bi := by
        cases e : ib f with
        | none => exact absurd (HWM.out.nil f e t) (by rw [hm1]; exact hm2)
        | some bi => exact ⟨bi, rfl⟩
      obtain ⟨pv, cv, hpv, _⟩ := (HWA.out.el f t).1.psts
      have hzv1 : ∀ w, (zeroValue 103).run Tryz.prog w = .ok (.map none) w := fun w => Tryz.zeroValue103 w
      have L1 : ∀ (d : Nat) (os : Array Obj), (Instr.lookup 79 (.map (some b0)) (.string f) false).run Tryz.prog (grow (redrawn VA d) os) = .ok (.map (some bi)) (grow (redrawn VA d) os) := fun d os => by
        rw [← hbi]
        exact (HWA.out.below (belowQ VA ⟨d, os⟩)).out.look 79 103 Tryz.underlying79 (hzv1 _) hmf
      have L2 : ∀ (d : Nat) (os : Array Obj), (Instr.lookup 103 (.map (some bi)) (.string t) false).run Tryz.prog (grow (redrawn VA d) os) = .ok (.slice pv ps.length cv) (grow (redrawn VA d) os) := fun d os => by
        rw [hm1] at hpv
        rw [← hpv]
        exact ((HWA.out.below (belowQ VA ⟨d, os⟩)).inn f bi hbi).1.look 103 61 Tryz.underlying103 (Tryz.zeroValue61 _) hmt
      have HC1 : Hid (∀ p : Regrown, Calls Tryz.prog 99 #[.string f] (grow (redrawn VA p.d) p.os) fun e w' => e = .returned (.string f) ∧ Below (grow (redrawn VA p.d) p.os).heap.size (grow (redrawn VA p.d) p.os) w') := fun p => clone_any f _ (by omega)
      have y0 := cellQ (BV.cell 0)
      have y1 := cellQ (BV.cell 1)
      have z0 := cellQ (BM.cell 0)
      simp at y0 y1 z0
      have HPV : Hid (vl f t = .slice pv ps.length cv) := by unfold Hid; rw [← hm1]; exact hpv
      have HVA : Hid (wr.alloc (.cells #[.string f, .string t] 149) = VA) := hVA
      clear hc hVA hba BV BM hm1 hm2 hpv hbi
      go_wp2_with fail
      rw [HVA.out]
      refine wp_region_quiet_tail_from 15 (.slice pl k cl) (by kernel_rfl) (by kernel_rfl) rfl (by decide) (fun _ _ _ h => h) (.inl ⟨rfl, fun _ => rfl⟩) ?_
      simp only [List.take_succ_cons, List.take_zero, List.drop_succ_cons, List.drop_zero]
      go_simp
      repeat (go_big_quiet_step ((go_at_call 99; with_reducible exact Calls.regrown_of (HC1.out _))))
      refine wpQuiet_nil ?_
      intro pq
      have hbp := belowQ VA pq
      have HOG : Hid ((grow (redrawn VA pq.d) pq.os).ownsRow W0.heap.size 99 3 (.slice pl k cl) k (entVals vl (es.take k))) := row_same HOA.out fun g hg => hbp.block g (HOA.out.lt g hg).2
      have hbW : Below W0.heap.size W0 VA := HBR.out.trans (by rw [← HVA.out]; exact (Below.refl _ _).alloc hsr _)
      have hbG : Below W0.heap.size W0 (grow (redrawn VA pq.d) pq.os) := hbW.trans (hbp.mono hbW.size)
      clear L1 L2 y0 y1 z0 HC1 HOA HOW HVA HBR HB1 HWA hbp hbW hwa hzv1
      generalize grow (redrawn VA pq.d) pq.os = Wg at *
      have hsg := hbG.size
      generalize entVals vl (es.take k) = xs at *
      refine tailQ_want rfl ?_
      go_simp
      refine tailQ_want rfl ?_
      refine wp_append_own _ _ _ 31 (by rfl) W0.heap.size 99 i0 (.agg #[.string ⟨#[]⟩, .string ⟨#[]⟩, .slice none 0 0]) 3 56 Tryz.underlying31 hi hz0 hz1 hz2 rfl (by decide) (.slice pl k cl) k xs (by rfl) (HOG.out.alloc _) ⟨Wg.heap.size, 0, none⟩ 1 1 [.string f, .string t, .slice pv ps.length cv] (by rfl) rfl (cells_new _ _ _) (ents_one _ _ _ _ _) (by unfold maxLen; omega) (by omega) (by simp; omega) ?_
      intro v4 w4 hown4 hgrow4 _
      refine tailQ_want rfl ?_
      go_simp
      unfold TailQ
      have hsw := hgrow4.size
      simp at hsw
      have HO4 : Hid (w4.ownsRow W0.heap.size 99 3 v4 (k + 1) (entVals vl (es.take (k + 1)))) := by
        unfold Hid
        rw [HTK.out, HPV.out]
        exact hown4
      have HB4 : Hid (Below W0.heap.size W0 w4) := by
        have h1 : Below W0.heap.size Wg (Wg.alloc (.cells #[.string f, .string t, .slice pv ps.length cv] 99)) := (Below.refl _ _).alloc hbG.size _
        refine (hbG.trans h1).trans ⟨hgrow4.os, hgrow4.tape, hgrow4.output, hgrow4.size, fun b hb => hgrow4.block b (by simp; omega) (fun e => ?_)⟩
        have := (HOG.out.lt b e.symm).1
        omega
      clear hown4 hgrow4 HOG hbG
      go_wp2
      go_roundw
      case rel => exact ⟨k + 1, by omega, by go_num, HO4.out, HB4.out⟩
      case measure => simp [intOf]; omega
    · have hkl : k = es.length := by omega
      subst hkl
      have HA : Hid (wr.ownsRow W0.heap.size 99 3 (.slice pl es.length cl) es.length (entVals vl es)) := by have h := HOW.out; rw [List.take_of_length_le (Nat.le_refl _)] at h; exact h
      clear HOW HSR HWM HM HBR HB1
      go_wp2
      go_ret
      exact ⟨_, rfl, HFIN.out _ _ hwr (ownsRow_mono HA.out hs0), hwr⟩
end Go.Proofs.YtbifagdcnpnpjaaGreat
