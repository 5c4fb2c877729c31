/- l4Word of the model: a word that is there, and both together. -/
import Derived.Test.YtbifagdcnpnpjaaGreatIdxWordS
import Derived.Test.YtbifagdcnpnpjaaGreatPstMore
namespace Go.Proofs.YtbifagdcnpnpjaaGreat
open Go Go.RowKit
set_option linter.unusedVariables false

theorem there_old {es : List Ent} {f t : ByteArray} (h : thereE es f t = true) : ∃ x, es[placeE es f t]? = some x ∧ ∀ doc at', wordAdd es f t doc at' = es.set (placeE es f t) ⟨x.field, x.term, postAdd x.posts doc at'⟩ := by
  unfold thereE at h
  cases he : es[placeE es f t]? with
  | none => rw [he] at h; cases h
  | some x =>
    rw [he] at h
    refine ⟨x, rfl, fun doc at' => ?_⟩
    unfold wordAdd
    rw [he]
    exact if_pos (of_decide_eq_true h)
theorem pst_last {w : World} {v : Value} {ps : List Pst} {fp : List Nat} (h : SlOwn pstEl w v ps fp) (hne : ps ≠ []) : ∃ gp cp ys gps n p q ca, v = .slice (some ⟨gp, 0, none⟩) ps.length cp ∧ GRow pstEl w 0 (.slice (some ⟨gp, 0, none⟩) ps.length cp) ys ps gps ∧ fp = footOf (.slice (some ⟨gp, 0, none⟩) ps.length cp) gps ps.length ∧
    n + 1 = ps.length ∧ ps[n]? = some p ∧ grp ys 2 n = [.int .i64 p.doc, .slice q p.ats.length ca] ∧ w.ownsRow 0 3 1 (.slice q p.ats.length ca) p.ats.length (p.ats.map (Value.int .i64)) ∧ gps n = (Value.ownBlock (.slice q p.ats.length ca)).toList := by
  obtain ⟨ys, gps, hg, hfp⟩ := h
  have hpos : 0 < ps.length := by cases ps with | nil => exact absurd rfl hne | cons a b => simp
  obtain ⟨pa, cp, rfl, hc, _, hn, hx⟩ := row_val hg.row
  cases pa with
  | none => have := hn rfl; omega
  | some x =>
    obtain ⟨gp, rfl, _⟩ := hx x rfl
    have hl : ps.length - 1 < ps.length := by omega
    obtain ⟨⟨va, ec, hr, hf⟩, _⟩ := hg.el (ps.length - 1) ps[ps.length - 1] (List.getElem?_eq_getElem hl)
    obtain ⟨q, ca, rfl, _⟩ := row_val hr
    exact ⟨gp, cp, ys, gps, ps.length - 1, ps[ps.length - 1], q, ca, rfl, hg, hfp, by omega, List.getElem?_eq_getElem hl, ec, hr, hf⟩
theorem int_one (n : Int) : ∀ u ∈ [Value.int .i64 n], u.oneCell' = true := by
  intro u hu
  simp at hu
  rw [hu]
  rfl
theorem post_cells (d : Int) (a : Option Addr) (n c : Nat) : ∀ u ∈ [Value.int .i64 d, .slice a n c], u.oneCell' = true := by
  intro u hu
  simp at hu
  rcases hu with rfl | rfl <;> rfl
/-- The k-th entry has other posts, whose slice lies where it lay, or anew. -/
theorem GRow.entry {w w' : World} {B G CC k : Nat} {xs : List Value} {es : List Ent} {fps : Nat → List Nat} {x : Ent} {v v' : Value} {ps' : List Pst} {fp : List Nat} (h : GRow entEl w B (.slice (some ⟨G, 0, none⟩) es.length CC) xs es fps) (hB : B ≤ w.heap.size) (hx : es[k]? = some x)
    (hv : grp xs 3 k = [.string x.field, .string x.term, v]) (hs : SlOwn pstEl w' v' ps' fp) (hf : ∀ b ∈ fp, b ∈ fps k ∨ w.heap.size ≤ b) (ho : w'.ownsRow B 99 3 (.slice (some ⟨G, 0, none⟩) es.length CC) es.length (xs.set (k * 3 + 2) v'))
    (hb : ∀ b, b < w.heap.size → b ≠ G → b ∉ fps k → w'.heap[b]? = w.heap[b]?) :
    ∃ xs' fps', GRow entEl w' B (.slice (some ⟨G, 0, none⟩) (es.set k ⟨x.field, x.term, ps'⟩).length CC) xs' (es.set k ⟨x.field, x.term, ps'⟩) fps' ∧
      ∀ b ∈ footOf (.slice (some ⟨G, 0, none⟩) (es.set k ⟨x.field, x.term, ps'⟩).length CC) fps' (es.set k ⟨x.field, x.term, ps'⟩).length, b ∈ footOf (.slice (some ⟨G, 0, none⟩) es.length CC) fps es.length ∨ w.heap.size ≤ b := by
  have hk := (List.getElem?_eq_some_iff.1 hx).1
  rw [List.length_set]
  refine ⟨_, _, h.turn (k := k) (a := ⟨x.field, x.term, ps'⟩) (fp := fp) hB hk (c := [.string x.field, .string x.term, v']) ⟨v', rfl, hs⟩ hf ho (grp_three hv) (fun i hi hne => grp_set_other (by
    show k * 3 + 2 < i * 3 ∨ (i + 1) * 3 ≤ k * 3 + 2
    omega)) (fun b hb1 hb2 hb3 => hb b hb1 (fun e => hb2 (by show some G = some b; rw [e])) hb3), ?_⟩
  exact footOf_if (Nat.le_refl _) (fun b hb => by
    rcases hf b hb with h1 | h1
    · exact .inl (feet_sub hk b h1)
    · exact .inr h1)
set_option maxRecDepth 100000 in
set_option maxHeartbeats 4000000 in
theorem l4WordOld_any (G CC B : Nat) (xs : List Value) (es : List Ent) (fps : Nat → List Nat) (f t : ByteArray) (doc at' : Int) (w : World) (hB : B ≤ w.heap.size) (hl : es.length ≤ 1048576) (hth : thereE es f t = true)
    (hne : ∀ e ∈ es, e.posts ≠ []) (hsm : ∀ e ∈ es, e.posts.length ≤ 1048576 ∧ ∀ p ∈ e.posts, p.ats.length ≤ 1048576) (h : GRow entEl w B (.slice (some ⟨G, 0, none⟩) es.length CC) xs es fps) :
    Calls Tryz.prog 115 #[.slice (some ⟨G, 0, none⟩) es.length CC, .string f, .string t, .int .i64 doc, .int .i64 at'] w fun e w' => WordA (wordAdd es f t doc at') B (.slice (some ⟨G, 0, none⟩) es.length CC) fps es.length w w' e := by
  have hat := l4At_any (some ⟨G, 0, none⟩) CC es f t w hl (by obtain ⟨_, _, e, _, _, hr⟩ := h.ents; cases e; exact hr)
  obtain ⟨x, hxk, hw⟩ := there_old hth
  rw [hw]
  unfold AtA at hat
  rw [hth] at hat
  generalize placeE es f t = k at *
  have hk := (List.getElem?_eq_some_iff.1 hxk).1
  have hkI : (k : Int) < (es.length : Int) := by omega
  have hxm := List.mem_of_getElem? hxk
  have HH : Hid (GRow entEl w B (.slice (some ⟨G, 0, none⟩) es.length CC) xs es fps) := h
  have HNE : Hid (x.posts ≠ []) := hne x hxm
  have hps := (hsm x hxm).1
  have HSM : Hid (∀ p ∈ x.posts, p.ats.length ≤ 1048576) := (hsm x hxm).2
  clear h hth hw hne hsm hxm
  go_enter Tryz.func115, Tryz.ntmps115
  go_wp2_with fail
  refine hat.mono ?_
  rintro e w1 ⟨rfl, hb1⟩
  clear hat
  have hs1 := hb1.size
  have H1 := HH.out.below hb1
  obtain ⟨⟨v, ec, hsl⟩, hBf⟩ := H1.el k x hxk
  have ec3 : grp xs 3 k = [.string x.field, .string x.term, v] := ec
  obtain ⟨gp, cp, ys, gps, n, p, q, ca, rfl, hg, hfk, hn1, hpn, ecp, hra, hgn⟩ := pst_last hsl HNE.out
  have hGk : G ∉ fps k := fun hm => H1.apart G rfl (mem_feet.2 ⟨k, hk, hm⟩)
  have hgpk : gp ∈ fps k := by rw [hfk]; exact mem_footOf.2 (.inl rfl)
  have hGp : G ≠ gp := fun e => hGk (by rw [e]; exact hgpk)
  have c2 : w1.cell? ⟨G, k * 3 + 2, none⟩ = some (.slice (some ⟨gp, 0, none⟩) x.posts.length cp) := by have h := grp_cell H1.row hk (j := 2) (by decide) (by have e : grp xs 3 k = _ := ec3; show (grp xs 3 k)[2]? = _; rw [e]; rfl); rw [Nat.zero_add] at h; exact h
  have hnl : n < x.posts.length := by omega
  have d0 : w1.cell? ⟨gp, n * 2, none⟩ = some (.int .i64 p.doc) := by have h := grp_cell hg.row hnl (j := 0) (by decide) (by show (grp ys 2 n)[0]? = _; rw [ecp]; rfl); rw [Nat.zero_add] at h; exact h
  have d1 : w1.cell? ⟨gp, n * 2 + 1, none⟩ = some (.slice q p.ats.length ca) := by have h := grp_cell hg.row hnl (j := 1) (by decide) (by show (grp ys 2 n)[1]? = _; rw [ecp]; rfl); rw [Nat.zero_add] at h; exact h
  have hlast : ((x.posts.length : Int) - 1) = (n : Int) := by omega
  have hnI : (n : Int) < (x.posts.length : Int) := by omega
  have hats : p.ats.length ≤ 1048576 := HSM.out p (List.mem_of_getElem? hpn)
  have HA : Hid (w1.ownsRow 0 3 1 (.slice q p.ats.length ca) p.ats.length (p.ats.map (Value.int .i64))) := hra
  have HG : Hid (GRow pstEl w1 0 (.slice (some ⟨gp, 0, none⟩) x.posts.length cp) ys x.posts gps) := hg
  have HE : Hid (GRow entEl w1 B (.slice (some ⟨G, 0, none⟩) es.length CC) xs es fps) := H1
  have HEC : Hid (grp xs 3 k = [.string x.field, .string x.term, .slice (some ⟨gp, 0, none⟩) x.posts.length cp]) := ec3
  have HEP : Hid (grp ys 2 n = [.int .i64 p.doc, .slice q p.ats.length ca]) := ecp
  have HFK : Hid (fps k = footOf (.slice (some ⟨gp, 0, none⟩) x.posts.length cp) gps x.posts.length) := hfk
  have HPN : Hid (x.posts[n]? = some p) := hpn
  have HXK : Hid (es[k]? = some x) := hxk
  have HN1 : Hid (n + 1 = x.posts.length) := hn1
  have hgl : G < w1.heap.size := (H1.row.lt G rfl).2
  have hgpl : gp < w1.heap.size := (hg.row.lt gp rfl).2
  clear hra hg H1 ec ec3 ecp hfk hpn hsl hxk HH HNE HSM hn1
  by_cases hd : p.doc = doc
  · have hdd : (p.doc == doc) = true := by simpa using hd
    obtain ⟨i0, hi, hz0, hz1, hz2⟩ := info_parts infoInt
    go_wp2_with (at_builtin; refine wpList_append_own_at _ rfl _ _ 105 rfl 0 3 i0 (.int .i64 0) 1 8 Tryz.underlying105 hi hz0 hz1 hz2 rfl (by decide) _ _ _ rfl (HA.out.alloc _) ⟨w1.heap.size, 0, none⟩ 1 1 [.int .i64 at'] rfl rfl (cells_new _ _ _) (int_one _) (by unfold maxLen; omega) (by omega) (Nat.zero_le _) ?_)
    intro v' w2 hown2 hgrow2 hnn2 hat2
    obtain ⟨q', c', rfl, _⟩ := row_val hown2
    have hba : Below w1.heap.size w1 (w1.alloc (.cells #[.int .i64 at'] 3)) := (Below.refl _ _).alloc (Nat.le_refl _) _
    obtain ⟨hG3, hnew3, hT3⟩ := HG.out.place (Nat.zero_le _) HPN.out HEP.out hba hown2 hgrow2 (by rw [show (w1.alloc (.cells #[.int .i64 at'] 3)).heap.size = w1.heap.size + 1 from by simp]; exact hat2)
    have hgpa : gp ∉ gps n := fun hm => HG.out.apart gp rfl (mem_feet.2 ⟨n, hnl, hm⟩)
    have hqg : Value.ownBlock (.slice q p.ats.length ca) ≠ some gp := fun e => hgpa (by rw [hgn, e]; simp)
    have e2 : w2.heap[gp]? = w1.heap[gp]? := (hgrow2.block gp (by simp; omega) (fun e => hqg e.symm)).trans (hba.block gp hgpl)
    have d2 : w2.cell? ⟨gp, n * 2 + 1, none⟩ = some (.slice q p.ats.length ca) := (World.cell?_of_block e2).trans d1
    have hfz : w2.frozen? ⟨gp, n * 2 + 1, none⟩ = false := (World.frozen?_of_block e2).trans (HG.out.row.frozenAt (n * 2 + 1))
    have HT : Hid (Tch (footOf (.slice (some ⟨gp, 0, none⟩) x.posts.length cp) gps x.posts.length) w1 (w2.setCell ⟨gp, n * 2 + 1, none⟩ (.slice q' (p.ats.length + 1) c'))) := hT3
    have HSL : Hid (SlOwn pstEl (w2.setCell ⟨gp, n * 2 + 1, none⟩ (.slice q' (p.ats.length + 1) c')) (.slice (some ⟨gp, 0, none⟩) x.posts.length cp) (postAdd x.posts doc at') (footOf (.slice (some ⟨gp, 0, none⟩) x.posts.length cp) (fun i => if i = n then (Value.ownBlock (.slice q' (p.ats.length + 1) c')).toList else gps i) x.posts.length)) := by
      unfold Hid
      rw [← hd, postAdd_same HN1.out HPN.out]
      have h := hG3
      have hl : (x.posts.set n ⟨p.doc, p.ats ++ [at']⟩).length = x.posts.length := List.length_set
      refine ⟨_, _, h, ?_⟩
      rw [hl]
    have HGX : Hid (∃ xs' fps', GRow entEl (w2.setCell ⟨gp, n * 2 + 1, none⟩ (.slice q' (p.ats.length + 1) c')) B (.slice (some ⟨G, 0, none⟩) (es.set k ⟨x.field, x.term, postAdd x.posts doc at'⟩).length CC) xs' (es.set k ⟨x.field, x.term, postAdd x.posts doc at'⟩) fps' ∧
        ∀ b ∈ footOf (.slice (some ⟨G, 0, none⟩) (es.set k ⟨x.field, x.term, postAdd x.posts doc at'⟩).length CC) fps' (es.set k ⟨x.field, x.term, postAdd x.posts doc at'⟩).length, b ∈ footOf (.slice (some ⟨G, 0, none⟩) es.length CC) fps es.length ∨ w1.heap.size ≤ b) := by
      have hrow : (w2.setCell ⟨gp, n * 2 + 1, none⟩ (.slice q' (p.ats.length + 1) c')).ownsRow B 99 3 (.slice (some ⟨G, 0, none⟩) es.length CC) es.length xs := row_tch HE.out.row HT.out (fun g hg hm => by cases hg; exact hGk (by rw [HFK.out]; exact hm))
      have hself : xs.set (k * 3 + 2) (.slice (some ⟨gp, 0, none⟩) x.posts.length cp) = xs := by
        apply List.ext_getElem?
        intro j
        by_cases hj : k * 3 + 2 = j
        · subst hj
          have hxl : xs.length = es.length * 3 := HE.out.row.1
          rw [List.getElem?_set_self (by omega), ← grp_get (s := 3) (by decide), HEC.out]
          rfl
        · rw [List.getElem?_set_ne hj]
      refine HE.out.entry (by omega) HXK.out HEC.out HSL.out (fun b hb => ?_) (by rw [hself]; exact hrow) (fun b hb1 hb2 hb3 => HT.out.2 b hb1 (by rw [← HFK.out]; exact hb3))
      rcases footOf_if (fps := gps) (m := x.posts.length) (Nat.le_refl _) (fun b hb => by
        rcases hnew3 b hb with h1 | h1
        · exact .inl (feet_sub hnl b h1)
        · exact .inr h1) b hb with h1 | h1
      · exact .inl (by rw [HFK.out]; exact h1)
      · exact .inr h1
    have HFIN : Hid (WordA (es.set k ⟨x.field, x.term, postAdd x.posts doc at'⟩) B (.slice (some ⟨G, 0, none⟩) es.length CC) fps es.length w (w2.setCell ⟨gp, n * 2 + 1, none⟩ (.slice q' (p.ats.length + 1) c')) (.returned (.slice (some ⟨G, 0, none⟩) es.length CC))) := by
      obtain ⟨xs', fps', h1, h2⟩ := HGX.out
      refine ⟨G, CC, xs', fps', by rw [List.length_set], h1, fun b hb => ?_, (Tch.of_below hb1).trans (HT.out.mono' (fun b hb => feet_sub hk b (by rw [HFK.out]; exact hb)))⟩
      rcases h2 b hb with h3 | h3
      · exact .inl h3
      · exact .inr (by omega)
    clear hG3 hnew3 hT3 HSL HGX HT HG HE HEC HEP HFK HPN HXK HN1 HA hown2 hgrow2 hnn2 hat2 hba hgpa hqg e2 d1
    go_wp2
    go_ret
    exact HFIN.out
  · have hdd : (p.doc == doc) = false := by simpa using hd
    obtain ⟨i0, hi, hz0, hz1, hz2⟩ := info_parts infoPst
    obtain ⟨W, hW⟩ : ∃ W, (w1.alloc (.cells #[.int .i64 at'] 3)).alloc (.cells #[.int .i64 doc, .slice (some ⟨w1.heap.size, 0, none⟩) 1 1] 107) = W := ⟨_, rfl⟩
    have hba : Below w1.heap.size w1 W := by rw [← hW]; exact ((Below.refl _ w1).alloc (Nat.le_refl _) _).alloc (by simp) _
    have hWs : W.heap.size = w1.heap.size + 2 := by rw [← hW]; simp
    have P0 : Blk W w1.heap.size #[.int .i64 at'] 3 := by rw [← hW]; exact (Blk.new w1 _ _).alloc _
    have HPO : Hid (pstEl.own W [.int .i64 doc, .slice (some ⟨w1.heap.size, 0, none⟩) 1 1] ⟨doc, [at']⟩ [w1.heap.size]) := ⟨_, rfl, ownsRow_mono P0.own1 (Nat.zero_le _), rfl⟩
    have HRW : Hid (W.ownsRow 0 107 2 (.slice (some ⟨gp, 0, none⟩) x.posts.length cp) x.posts.length ys) := (HG.out.below hba).row
    have HNC : Hid (∀ j u, [Value.int .i64 doc, .slice (some ⟨w1.heap.size, 0, none⟩) 1 1][j]? = some u → W.cell? ((⟨w1.heap.size + 1, 0, none⟩ : Addr).add j) = some u) := by
      have h := cells_new (w1.alloc (.cells #[.int .i64 at'] 3)) [Value.int .i64 doc, .slice (some ⟨w1.heap.size, 0, none⟩) 1 1] 107
      rw [hW] at h
      have h' : ∀ j u, [Value.int .i64 doc, .slice (some ⟨w1.heap.size, 0, none⟩) 1 1][j]? = some u → W.cell? ((⟨w1.heap.size + 1, 0, none⟩ : Addr).add j) = some u := by simpa using h
      exact h'
    have hWn : 0 ≤ W.heap.size := Nat.zero_le _
    have hW1 : W.heap.size ≤ w1.heap.size + 2 ∧ w1.heap.size + 2 ≤ W.heap.size := by omega
    clear hWs P0
    go_wp2_with (at_builtin; refine wpList_append_own_at _ rfl _ _ 61 rfl 0 107 i0 (.agg #[.int .i64 0, .slice none 0 0]) 2 32 Tryz.underlying61 hi hz0 hz1 hz2 rfl (by decide) _ _ _ rfl HRW.out ⟨w1.heap.size + 1, 0, none⟩ 1 1 [.int .i64 doc, .slice (some ⟨w1.heap.size, 0, none⟩) 1 1] rfl rfl HNC.out (post_cells _ _ _ _) (by unfold maxLen; omega) (by omega) hWn ?_)
    intro v' w4 hown4 hgrow4 hnn4 hat4
    obtain ⟨q', c', rfl, _, _, _, hq'⟩ := row_val hown4
    have hSN := HG.out.snoc (Nat.zero_le _) hba HPO.out (fun b hb => by simp at hb; omega) hown4 hgrow4 hat4
    have hpo : postAdd x.posts doc at' = x.posts ++ [⟨doc, [at']⟩] := postAdd_other HN1.out HPN.out hd at'
    have hkeep : ∀ b, b < w1.heap.size → b ≠ gp → w4.heap[b]? = w1.heap[b]? := fun b hb hne => (hgrow4.block b (by omega) (fun e => hne (by cases e; rfl))).trans (hba.block b hb)
    have eG : w4.heap[G]? = w1.heap[G]? := hkeep G hgl hGp
    have hfz : w4.frozen? ⟨G, k * 3 + 2, none⟩ = false := (World.frozen?_of_block eG).trans (HE.out.row.frozenAt (k * 3 + 2))
    have c4 : w4.cell? ⟨G, k * 3 + 2, none⟩ = some (.slice (some ⟨gp, 0, none⟩) x.posts.length cp) := (World.cell?_of_block eG).trans c2
    have hnewf : ∀ b ∈ footOf (.slice q' (x.posts.length + 1) c') (fun i => if i = x.posts.length then [w1.heap.size] else gps i) (x.posts ++ [(⟨doc, [at']⟩ : Pst)]).length, b ∈ footOf (.slice (some ⟨gp, 0, none⟩) x.posts.length cp) gps x.posts.length ∨ w1.heap.size ≤ b := fun b hb => by
      rcases mem_footOf.1 hb with hb | hb
      · rcases hat4 with e | e
        · rw [e] at hb; exact .inl (mem_footOf.2 (.inl hb))
        · rw [e] at hb; cases hb; exact .inr (by omega)
      · obtain ⟨i, hi, hb⟩ := mem_feet.1 hb
        by_cases e : i = x.posts.length
        · rw [if_pos e] at hb; simp at hb; exact .inr (by omega)
        · rw [if_neg e] at hb
          simp at hi
          exact .inl (feet_sub (by omega) b hb)
    have hGn : G ∉ footOf (.slice q' (x.posts.length + 1) c') (fun i => if i = x.posts.length then [w1.heap.size] else gps i) (x.posts ++ [(⟨doc, [at']⟩ : Pst)]).length := fun hm => by
      rcases hnewf G hm with h1 | h1
      · exact hGk (by rw [HFK.out]; exact h1)
      · omega
    have HSL : Hid (SlOwn pstEl (w4.setCell ⟨G, k * 3 + 2, none⟩ (.slice q' (x.posts.length + 1) c')) (.slice q' (x.posts.length + 1) c') (postAdd x.posts doc at') (footOf (.slice q' (x.posts.length + 1) c') (fun i => if i = x.posts.length then [w1.heap.size] else gps i) (x.posts ++ [(⟨doc, [at']⟩ : Pst)]).length)) := by
      unfold Hid
      rw [hpo]
      exact ⟨_, _, hSN.set hGn _, rfl⟩
    have hrow4 : w4.ownsRow B 99 3 (.slice (some ⟨G, 0, none⟩) es.length CC) es.length xs := row_same HE.out.row fun g hg => by cases hg; exact eG
    obtain ⟨hrow5, _⟩ := hrow4.stored (k * 3 + 2) (.slice q' (x.posts.length + 1) c')
    have HGX : Hid (∃ xs' fps', GRow entEl (w4.setCell ⟨G, k * 3 + 2, none⟩ (.slice q' (x.posts.length + 1) c')) B (.slice (some ⟨G, 0, none⟩) (es.set k ⟨x.field, x.term, postAdd x.posts doc at'⟩).length CC) xs' (es.set k ⟨x.field, x.term, postAdd x.posts doc at'⟩) fps' ∧
        ∀ b ∈ footOf (.slice (some ⟨G, 0, none⟩) (es.set k ⟨x.field, x.term, postAdd x.posts doc at'⟩).length CC) fps' (es.set k ⟨x.field, x.term, postAdd x.posts doc at'⟩).length, b ∈ footOf (.slice (some ⟨G, 0, none⟩) es.length CC) fps es.length ∨ w1.heap.size ≤ b) := by
      refine HE.out.entry (by omega) HXK.out HEC.out HSL.out (fun b hb => ?_) hrow5 (fun b hb1 hb2 hb3 => ?_)
      · rcases hnewf b hb with h1 | h1
        · exact .inl (by rw [HFK.out]; exact h1)
        · exact .inr h1
      · rw [Below.heap_setCell _ _ _ _ hb2]
        exact hkeep b hb1 (fun e => hb3 (by rw [e]; exact hgpk))
    have HT : Hid (Tch (footOf (.slice (some ⟨G, 0, none⟩) es.length CC) fps es.length) w1 (w4.setCell ⟨G, k * 3 + 2, none⟩ (.slice q' (x.posts.length + 1) c'))) := by
      refine ((Tch.of_below hba).then (fq := [gp]) (Tch.of_grown hgrow4 (fun b e => by cases e; simp)) (fun b hb => ?_)).trans (Tch.set (mem_footOf.2 (.inl rfl)) _)
      simp at hb
      subst hb
      exact .inl (feet_sub hk b hgpk)
    have HFIN : Hid (WordA (es.set k ⟨x.field, x.term, postAdd x.posts doc at'⟩) B (.slice (some ⟨G, 0, none⟩) es.length CC) fps es.length w (w4.setCell ⟨G, k * 3 + 2, none⟩ (.slice q' (x.posts.length + 1) c')) (.returned (.slice (some ⟨G, 0, none⟩) es.length CC))) := by
      obtain ⟨xs', fps', h1, h2⟩ := HGX.out
      refine ⟨G, CC, xs', fps', by rw [List.length_set], h1, fun b hb => ?_, (Tch.of_below hb1).trans HT.out⟩
      rcases h2 b hb with h3 | h3
      · exact .inl h3
      · exact .inr (by omega)
    clear hSN hpo hkeep eG hnewf hGn HSL hrow4 hrow5 HGX HT HG HE HEC HEP HFK HPN HXK HN1 HA hown4 hgrow4 hnn4 hat4 hba d1 hq' HRW HNC HPO hW
    go_wp2
    go_ret
    exact HFIN.out
theorem l4Word_any (G CC B : Nat) (xs : List Value) (es : List Ent) (fps : Nat → List Nat) (f t : ByteArray) (doc at' : Int) (w : World) (hB : B ≤ w.heap.size) (hl : es.length ≤ 1048576)
    (hne : ∀ e ∈ es, e.posts ≠ []) (hsm : ∀ e ∈ es, e.posts.length ≤ 1048576 ∧ ∀ p ∈ e.posts, p.ats.length ≤ 1048576) (h : GRow entEl w B (.slice (some ⟨G, 0, none⟩) es.length CC) xs es fps) :
    Calls Tryz.prog 115 #[.slice (some ⟨G, 0, none⟩) es.length CC, .string f, .string t, .int .i64 doc, .int .i64 at'] w fun e w' => WordA (wordAdd es f t doc at') B (.slice (some ⟨G, 0, none⟩) es.length CC) fps es.length w w' e := by
  cases hth : thereE es f t with
  | true => exact l4WordOld_any G CC B xs es fps f t doc at' w hB hl hth hne hsm h
  | false => exact l4WordNew_any G CC B xs es fps f t doc at' w hB hl hth h
end Go.Proofs.YtbifagdcnpnpjaaGreat
