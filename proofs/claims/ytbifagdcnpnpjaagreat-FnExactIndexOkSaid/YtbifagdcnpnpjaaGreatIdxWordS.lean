/- l4Word of the model: a place of a word more. -/
import Derived.Test.YtbifagdcnpnpjaaGreatIdxAtS
import Derived.Test.YtbifagdcnpnpjaaGreatIdxTo
import Derived.Test.YtbifagdcnpnpjaaGreatFoot2
import Derived.Test.YtbifagdcnpnpjaaGreatAppStep
namespace Go.Proofs.YtbifagdcnpnpjaaGreat
open Go Go.RowKit
set_option linter.unusedVariables false

def WordA (es' : List Ent) (B : Nat) (v : Value) (fps : Nat → List Nat) (n : Nat) (w w' : World) (e : Ending) : Prop :=
  ∃ G C xs' fps', e = .returned (.slice (some ⟨G, 0, none⟩) es'.length C) ∧ GRow entEl w' B (.slice (some ⟨G, 0, none⟩) es'.length C) xs' es' fps' ∧
    (∀ b ∈ footOf (.slice (some ⟨G, 0, none⟩) es'.length C) fps' es'.length, b ∈ footOf v fps n ∨ w.heap.size ≤ b) ∧ Tch (footOf v fps n) w w'
theorem placeE_le (es : List Ent) (f t : ByteArray) : placeE es f t ≤ es.length := by
  have := placeK_le (keysE es) f t
  rwa [keysE_len] at this
theorem wordAdd_not {es : List Ent} {f t : ByteArray} (h : thereE es f t = false) (doc at' : Int) : wordAdd es f t doc at' = es.take (placeE es f t) ++ ⟨f, t, [⟨doc, [at']⟩]⟩ :: es.drop (placeE es f t) := by
  unfold thereE at h
  unfold wordAdd
  split
  · rename_i e he
    rw [he] at h
    simp only at h
    rw [if_neg (of_decide_eq_false h)]
  · rfl
theorem entOne : ∀ (w : World) (c : List Value) (a : Ent) (fp : List Nat), entEl.own w c a fp → ∀ u ∈ c, u.oneCell' = true := by
  intro w c a fp h u hu
  obtain ⟨v, rfl, xs, fps, hg, _⟩ := h
  obtain ⟨p, q, rfl, _⟩ := row_val hg.row
  simp at hu
  rcases hu with rfl | rfl | rfl <;> rfl
theorem Blk.own1 {w : World} {B : Nat} {v : Value} {ty : TypeId} (h : Blk w B #[v] ty) : w.ownsRow B ty 1 (.slice (some ⟨B, 0, none⟩) 1 1) 1 [v] :=
  ⟨rfl, .inr ⟨B, 1, #[v], rfl, Nat.le_refl _, h, Nat.le_refl _, by decide, rfl, rfl⟩⟩
theorem Blk.own2 {w : World} {B : Nat} {v u : Value} {ty : TypeId} (h : Blk w B #[v, u] ty) : w.ownsRow B ty 2 (.slice (some ⟨B, 0, none⟩) 1 1) 1 [v, u] :=
  ⟨rfl, .inr ⟨B, 1, #[v, u], rfl, Nat.le_refl _, h, Nat.le_refl _, by decide, rfl, rfl⟩⟩
/-- A new post of one place, alone in its list. -/
theorem post_one {w : World} {b c : Nat} {doc at' : Int} (h1 : Blk w b #[.int .i64 at'] 3) (h2 : Blk w c #[.int .i64 doc, .slice (some ⟨b, 0, none⟩) 1 1] 107) (hne : b ≠ c) :
    SlOwn pstEl w (.slice (some ⟨c, 0, none⟩) 1 1) [⟨doc, [at']⟩] [c, b] := by
  refine ⟨[.int .i64 doc, .slice (some ⟨b, 0, none⟩) 1 1], fun _ => [b], .make (ownsRow_mono h2.own2 (Nat.zero_le _)) (fun i a hi => ?_) (fun i j hi hj hne => ?_) (fun g hg i hi hm => ?_), ?_⟩
  · have hi0 : i = 0 := by have := (List.getElem?_eq_some_iff.1 hi).1; simpa using this
    subst hi0
    cases hi
    exact ⟨⟨_, rfl, ownsRow_mono h1.own1 (Nat.zero_le _), rfl⟩, fun _ _ => Nat.zero_le _⟩
  · simp at hi hj; omega
  · cases hg
    simp at hm
    omega
  · simp [footOf, feet, Value.ownBlock]
set_option maxRecDepth 100000 in
set_option maxHeartbeats 4000000 in
theorem l4WordNew_any (G CC B : Nat) (xs : List Value) (es : List Ent) (fps : Nat → List Nat) (f t : ByteArray) (doc at' : Int) (w : World) (hB : B ≤ w.heap.size) (hl : es.length ≤ 1048576) (hth : thereE es f t = false)
    (h : GRow entEl w B (.slice (some ⟨G, 0, none⟩) es.length CC) xs es fps) :
    Calls Tryz.prog 115 #[.slice (some ⟨G, 0, none⟩) es.length CC, .string f, .string t, .int .i64 doc, .int .i64 at'] w fun e w' => WordA (wordAdd es f t doc at') B (.slice (some ⟨G, 0, none⟩) es.length CC) fps es.length w w' e := by
  obtain ⟨i0, hi, hz0, hz1, hz2⟩ := info_parts infoEnt
  have hat := l4At_any (some ⟨G, 0, none⟩) CC es f t w hl (by obtain ⟨_, _, e, _, _, hr⟩ := h.ents; cases e; exact hr)
  rw [wordAdd_not hth]
  have hkl := placeE_le es f t
  unfold AtA at hat
  rw [hth] at hat
  generalize placeE es f t = k at *
  have HH : Hid (GRow entEl w B (.slice (some ⟨G, 0, none⟩) es.length CC) xs es fps) := h
  have hcap : es.length ≤ CC := by
    obtain ⟨_, _, e, hc, _⟩ := h.ents
    cases e
    exact hc
  clear h hth
  go_enter Tryz.func115, Tryz.ntmps115
  go_wp2_with fail
  refine hat.mono ?_
  rintro e w1 ⟨rfl, hb1⟩
  clear hat
  obtain ⟨W, hW⟩ : ∃ W, ((w1.alloc (.cells #[.int .i64 at'] 3)).alloc (.cells #[.int .i64 doc, .slice (some ⟨w1.heap.size, 0, none⟩) 1 1] 107)).alloc (.cells #[.string f, .string t, .slice (some ⟨w1.heap.size + 1, 0, none⟩) 1 1] 99) = W := ⟨_, rfl⟩
  have P0 : Blk W w1.heap.size #[.int .i64 at'] 3 := by rw [← hW]; exact ((Blk.new w1 _ _).alloc _).alloc _
  have P1 : Blk W (w1.heap.size + 1) #[.int .i64 doc, .slice (some ⟨w1.heap.size, 0, none⟩) 1 1] 107 := by
    have h := (Blk.new (w1.alloc (.cells #[.int .i64 at'] 3)) #[.int .i64 doc, .slice (some ⟨w1.heap.size, 0, none⟩) 1 1] 107).alloc (.cells #[.string f, .string t, .slice (some ⟨w1.heap.size + 1, 0, none⟩) 1 1] 99)
    rw [hW] at h
    simpa using h
  have P2 : Blk W (w1.heap.size + 1 + 1) #[.string f, .string t, .slice (some ⟨w1.heap.size + 1, 0, none⟩) 1 1] 99 := by
    have h := Blk.new ((w1.alloc (.cells #[.int .i64 at'] 3)).alloc (.cells #[.int .i64 doc, .slice (some ⟨w1.heap.size, 0, none⟩) 1 1] 107)) #[.string f, .string t, .slice (some ⟨w1.heap.size + 1, 0, none⟩) 1 1] 99
    rw [hW] at h
    simpa using h
  have hW3 : W.heap.size = w1.heap.size + 3 := by rw [← hW]; simp
  have hb1W : Below w1.heap.size w1 W := by rw [← hW]; exact (((Below.refl _ w1).alloc (Nat.le_refl _) _).alloc (by simp) _).alloc (by simp; omega) _
  have hbW : Below w.heap.size w W := below_trans hb1 hb1W
  have HOWN : Hid (entEl.own W [.string f, .string t, .slice (some ⟨w1.heap.size + 1, 0, none⟩) 1 1] ⟨f, t, [⟨doc, [at']⟩]⟩ [w1.heap.size + 1, w1.heap.size]) := ⟨_, rfl, post_one P0 P1 (by omega)⟩
  have HFW : Hid (∀ b ∈ [w1.heap.size + 1, w1.heap.size], w.heap.size ≤ b) := fun b hb => by have := hb1.size; simp at hb; omega
  have HHW := HH.out.below hbW
  have HXL : Hid (xs.length = es.length * 3) := HH.out.row.1
  have HONE := HH.out.one (by decide) entOne
  have HRD : Hid (∀ wx, Below W.heap.size W wx → ∀ j u, xs[j]? = some u → wx.cell? ((⟨G, 0, none⟩ : Addr).add j) = some u) := fun wx hb => row_reads HHW.row hb
  obtain ⟨T1, hT1⟩ : ∃ T, xs.take (k * 3) = T := ⟨_, rfl⟩
  obtain ⟨T3, hT3⟩ : ∃ T, xs.drop (k * 3) = T := ⟨_, rfl⟩
  have HL1 : Hid (T1.length = k * 3) := by unfold Hid; rw [← hT1, List.length_take, HXL.out]; omega
  have HL3 : Hid (T3.length = (es.length - k) * 3) := by unfold Hid; rw [← hT3, List.length_drop, HXL.out]; omega
  have HC1 : Hid (∀ u ∈ T1, u.oneCell' = true) := fun u hu => HONE u (by rw [← hT1] at hu; exact List.mem_of_mem_take hu)
  have HC3 : Hid (∀ u ∈ T3, u.oneCell' = true) := fun u hu => HONE u (by rw [← hT3] at hu; exact List.mem_of_mem_drop hu)
  have HCE : Hid (∀ u ∈ [Value.string f, .string t, .slice (some ⟨w1.heap.size + 1, 0, none⟩) 1 1], u.oneCell' = true) := entOne _ _ _ _ HOWN.out
  have HR1 : Hid (∀ wx, Below W.heap.size W wx → ∀ j u, T1[j]? = some u → wx.cell? ((⟨G, 0, none⟩ : Addr).add j) = some u) := fun wx hb j u hj => HRD.out wx hb j u (by rw [← hT1, List.getElem?_take] at hj; split at hj; exact hj; cases hj)
  have HR3 : Hid (∀ wx, Below W.heap.size W wx → ∀ j u, T3[j]? = some u → wx.cell? ((⟨G, k * 3, none⟩ : Addr).add j) = some u) := fun wx hb j u hj => by
    have := HRD.out wx hb (k * 3 + j) u (by rw [← hT3, List.getElem?_drop] at hj; exact hj)
    rw [addr_add] at this ⊢
    rw [Nat.zero_add] at this
    exact this
  have HCL : Hid (∀ wx, Below W.heap.size W wx → wx.cell? ⟨w1.heap.size + 1 + 1, 0, none⟩ = some (.string f) ∧ wx.cell? ⟨w1.heap.size + 1 + 1, 1, none⟩ = some (.string t) ∧ wx.cell? ⟨w1.heap.size + 1 + 1, 2, none⟩ = some (.slice (some ⟨w1.heap.size + 1, 0, none⟩) 1 1)) := fun wx hb => by
    have P := P2.below hb P2.lt
    exact ⟨by have := P.cell 0; simpa using this, by have := P.cell 1; simpa using this, by have := P.cell 2; simpa using this⟩
  have HEND : Hid (∀ v8 w8, w8.ownsRow W.heap.size 99 3 v8 (es.length + 1) (T1 ++ [.string f, .string t, .slice (some ⟨w1.heap.size + 1, 0, none⟩) 1 1] ++ T3) → v8 ≠ .slice none 0 0 → Below W.heap.size W w8 →
      WordA (es.take k ++ ⟨f, t, [⟨doc, [at']⟩]⟩ :: es.drop k) B (.slice (some ⟨G, 0, none⟩) es.length CC) fps es.length w w8 (.returned v8)) := fun v8 w8 ho hn hb => by
    rw [← hT1, ← hT3] at ho
    obtain ⟨fps', hg, hfp⟩ := HH.out.insert (k := k) hB hbW HOWN.out HFW.out hkl ho hb
    have hlen : (es.take k ++ (⟨f, t, [⟨doc, [at']⟩]⟩ : Ent) :: es.drop k).length = es.length + 1 := by simp; omega
    obtain ⟨p, c, hv, _, _, hp, hx⟩ := row_val hg.row
    cases p with
    | none =>
      have := hp rfl
      rw [hlen] at hv
      rcases ho.2 with ⟨e, _⟩ | ⟨g, c', cur, e, _⟩
      · exact absurd e hn
      · rw [e] at hv; cases hv
    | some x =>
      obtain ⟨g, rfl, _⟩ := hx x rfl
      subst hv
      exact ⟨g, c, _, fps', rfl, hg, hfp, Tch.of_below (hbW.trans (hb.mono hbW.size))⟩
  have hk3 : k * 3 ≤ es.length * 3 := Nat.mul_le_mul_right _ hkl
  have hgl : G < W.heap.size := (HHW.row.lt _ rfl).2
  have hs1 := hb1.size
  obtain ⟨y0, y1, y2⟩ := HCL.out W (Below.refl _ _)
  have hW4 : w1.heap.size + 1 + 1 < W.heap.size := by omega
  have hkc : k ≤ CC := Nat.le_trans hkl hcap
  have hkcI : (k : Int) ≤ (CC : Int) := by omega
  clear hW3 HHW HONE HRD HXL HH HOWN HFW P0 P1 P2 hb1W hbW hb1 hB
  have HA0 : (W.alloc (.cells #[] 99)).ownsRow W.heap.size 99 3 (.slice (some ⟨W.heap.size, 0, none⟩) 0 0) 0 [] := World.ownsRow_lit W #[] 0 (Nat.le_refl _) (by decide) rfl
  have HA : Hid ((W.alloc (.cells #[] 99)).drew.ownsRow W.heap.size 99 3 (.slice (some ⟨W.heap.size, 0, none⟩) 0 0) 0 []) := And.intro HA0.1 HA0.2
  have HC : Hid (((W.alloc (.cells #[] 99)).alloc (.cells #[.string f, .string t, .slice (some ⟨w1.heap.size + 1, 0, none⟩) 1 1] 99)).drew.ownsRow W.heap.size 99 3 (.slice (some ⟨W.heap.size, 0, none⟩) 0 0) 0 []) := And.intro (HA0.alloc (.cells #[.string f, .string t, .slice (some ⟨w1.heap.size + 1, 0, none⟩) 1 1] 99)).1 (HA0.alloc (.cells #[.string f, .string t, .slice (some ⟨w1.heap.size + 1, 0, none⟩) 1 1] 99)).2
  have HF0 : ((W.alloc (.cells #[.string f, .string t, .slice (some ⟨w1.heap.size + 1, 0, none⟩) 1 1] 99)).alloc (.cells #[] 99)).ownsRow W.heap.size 99 3 (.slice (some ⟨W.heap.size + 1, 0, none⟩) 0 0) 0 [] := by
    have h := World.ownsRow_lit (e := 99) (size := 3) (W.alloc (.cells #[.string f, .string t, .slice (some ⟨w1.heap.size + 1, 0, none⟩) 1 1] 99)) #[] 0 (Nat.le_refl _) (by decide) rfl
    rw [show (W.alloc (.cells #[.string f, .string t, .slice (some ⟨w1.heap.size + 1, 0, none⟩) 1 1] 99)).heap.size = W.heap.size + 1 from by simp] at h
    exact ownsRow_mono h (by omega)
  have HF : Hid (((W.alloc (.cells #[.string f, .string t, .slice (some ⟨w1.heap.size + 1, 0, none⟩) 1 1] 99)).alloc (.cells #[] 99)).drew.ownsRow W.heap.size 99 3 (.slice (some ⟨W.heap.size + 1, 0, none⟩) 0 0) 0 []) := And.intro HF0.1 HF0.2
  have hbi0 := (Below.refl W.heap.size W).alloc (Nat.le_refl _) (.cells #[] 99)
  have hbi1 := hbi0.alloc hbi0.size (.cells #[.string f, .string t, .slice (some ⟨w1.heap.size + 1, 0, none⟩) 1 1] 99)
  have hbi2 := (Below.refl W.heap.size W).alloc (Nat.le_refl _) (.cells #[.string f, .string t, .slice (some ⟨w1.heap.size + 1, 0, none⟩) 1 1] 99)
  have hbi3 := hbi2.alloc hbi2.size (.cells #[] 99)
  have hbA : Below W.heap.size W (W.alloc (.cells #[] 99)).drew := ⟨hbi0.os, hbi0.tape, hbi0.output, hbi0.size, hbi0.block⟩
  have hbC : Below W.heap.size W ((W.alloc (.cells #[] 99)).alloc (.cells #[.string f, .string t, .slice (some ⟨w1.heap.size + 1, 0, none⟩) 1 1] 99)).drew := ⟨hbi1.os, hbi1.tape, hbi1.output, hbi1.size, hbi1.block⟩
  have hbF : Below W.heap.size W ((W.alloc (.cells #[.string f, .string t, .slice (some ⟨w1.heap.size + 1, 0, none⟩) 1 1] 99)).alloc (.cells #[] 99)).drew := ⟨hbi3.os, hbi3.tape, hbi3.output, hbi3.size, hbi3.block⟩
  have HNA : Hid (∀ j u, T1[j]? = some u → (W.alloc (.cells #[] 99)).drew.cell? ((⟨G, 0, none⟩ : Addr).add j) = some u) := HR1.out _ hbA
  have HNC : Hid (∀ j u, T1[j]? = some u → ((W.alloc (.cells #[] 99)).alloc (.cells #[.string f, .string t, .slice (some ⟨w1.heap.size + 1, 0, none⟩) 1 1] 99)).drew.cell? ((⟨G, 0, none⟩ : Addr).add j) = some u) := HR1.out _ hbC
  have HNF : Hid (∀ j u, T1[j]? = some u → ((W.alloc (.cells #[.string f, .string t, .slice (some ⟨w1.heap.size + 1, 0, none⟩) 1 1] 99)).alloc (.cells #[] 99)).drew.cell? ((⟨G, 0, none⟩ : Addr).add j) = some u) := HR1.out _ hbF
  have HLC : Hid (∀ j u, [.string f, .string t, .slice (some ⟨w1.heap.size + 1, 0, none⟩) 1 1][j]? = some u → ((W.alloc (.cells #[] 99)).alloc (.cells #[.string f, .string t, .slice (some ⟨w1.heap.size + 1, 0, none⟩) 1 1] 99)).drew.cell? ((⟨W.heap.size + 1, 0, none⟩ : Addr).add j) = some u) := by
    have h := cells_new (W.alloc (.cells #[] 99)) [.string f, .string t, .slice (some ⟨w1.heap.size + 1, 0, none⟩) 1 1] 99
    rw [show (W.alloc (.cells #[] 99)).heap.size = W.heap.size + 1 from by simp] at h
    exact h
  have HLF : Hid (∀ j u, [.string f, .string t, .slice (some ⟨w1.heap.size + 1, 0, none⟩) 1 1][j]? = some u → ((W.alloc (.cells #[.string f, .string t, .slice (some ⟨w1.heap.size + 1, 0, none⟩) 1 1] 99)).alloc (.cells #[] 99)).drew.cell? ((⟨W.heap.size, 0, none⟩ : Addr).add j) = some u) := fun j u h => by
    have h1 := cells_new W [.string f, .string t, .slice (some ⟨w1.heap.size + 1, 0, none⟩) 1 1] 99 j u h
    rw [addr_add] at h1 ⊢
    exact (((Below.refl _ (W.alloc (.cells #[.string f, .string t, .slice (some ⟨w1.heap.size + 1, 0, none⟩) 1 1] 99))).alloc (Nat.le_refl _) (.cells #[] 99)).cell (p := ⟨W.heap.size, 0 + j, none⟩) (by simp)).trans h1
  clear HA0 HF0 hbi0 hbi1 hbi2 hbi3 HR1
  by_cases hck : CC = k
  · have hnk : es.length = k := by omega
    have HT3 : Hid (T3 = []) := List.eq_nil_of_length_eq_zero (by rw [HL3.out]; omega)
    have HE2 : Hid (∀ v8 w8, w8.ownsRow W.heap.size 99 3 v8 (k + 1) (T1 ++ [.string f, .string t, .slice (some ⟨w1.heap.size + 1, 0, none⟩) 1 1] ++ []) → v8 ≠ .slice none 0 0 → Below W.heap.size W w8 →
      WordA (es.take k ++ ⟨f, t, [⟨doc, [at']⟩]⟩ :: es.drop k) B (.slice (some ⟨G, 0, none⟩) es.length CC) fps es.length w w8 (.returned v8)) := fun v8 w8 ho => HEND.out v8 w8 (by rw [HT3.out]; rw [show es.length + 1 = k + 1 by omega]; exact ho)
    have hkI : (k : Int) ≤ (es.length : Int) := by omega
    clear HEND HT3 HL3 HC3 HR3 hT1 hT3 hnk
    subst hck
    go_wp2_with fail

    clear hW
    go_region_law (first
      | (refine step_append_own2 (by rfl) _ _ 31 (by rfl) W.heap.size 99 i0 (.agg #[.string ⟨#[]⟩, .string ⟨#[]⟩, .slice none 0 0]) 3 56 Tryz.underlying31 hi hz0 hz1 hz2 rfl (by decide) (.slice (some ⟨W.heap.size, 0, none⟩) 0 0) 0 [] (by rfl) (by with_reducible exact HA.out) ⟨G, 0, none⟩ CC CC T1 (by rfl) HL1.out (by with_reducible exact HNA.out) HC1.out (by unfold maxLen; omega) (by omega) (by simp <;> omega) ?_; intro v6 w6 hown6 hgrow6 hnn6; have hb6 : Below W.heap.size W w6 := hbA.grown ⟨hgrow6.os, hgrow6.tape, hgrow6.output, hgrow6.size, hgrow6.block⟩ hbA.size (fun j hj => by cases hj; first | exact Nat.le_refl _ | exact Nat.le_succ _); have HO6 : Hid (w6.ownsRow W.heap.size 99 3 v6 CC T1) := by { unfold Hid; simpa using hown6 }; have hs6 := hb6.size; obtain ⟨z0, z1, z2⟩ := HCL.out w6 hb6; clear hown6 hgrow6)
      | (refine step_append_own2 (by rfl) _ _ 31 (by rfl) W.heap.size 99 i0 (.agg #[.string ⟨#[]⟩, .string ⟨#[]⟩, .slice none 0 0]) 3 56 Tryz.underlying31 hi hz0 hz1 hz2 rfl (by decide) (.slice (some ⟨W.heap.size, 0, none⟩) 0 0) 0 [] (by rfl) (by with_reducible exact HC.out) ⟨G, 0, none⟩ CC CC T1 (by rfl) HL1.out (by with_reducible exact HNC.out) HC1.out (by unfold maxLen; omega) (by omega) (by simp <;> omega) ?_; intro v6 w6 hown6 hgrow6 hnn6; have hb6 : Below W.heap.size W w6 := hbC.grown ⟨hgrow6.os, hgrow6.tape, hgrow6.output, hgrow6.size, hgrow6.block⟩ hbC.size (fun j hj => by cases hj; first | exact Nat.le_refl _ | exact Nat.le_succ _); have hl6 : ∀ j u, [.string f, .string t, .slice (some ⟨w1.heap.size + 1, 0, none⟩) 1 1][j]? = some u → w6.cell? ((⟨W.heap.size + 1, 0, none⟩ : Addr).add j) = some u := fun j u h => hgrow6.cell (HLC.out j u h) (by rw [addr_add]; simp [Value.ownBlock]); have HO6 : Hid (w6.ownsRow W.heap.size 99 3 v6 CC T1) := by { unfold Hid; simpa using hown6 }; have hs6 := hb6.size; obtain ⟨z0, z1, z2⟩ := HCL.out w6 hb6; clear hown6 hgrow6)
      | (refine step_append_own2 (by rfl) _ _ 31 (by rfl) W.heap.size 99 i0 (.agg #[.string ⟨#[]⟩, .string ⟨#[]⟩, .slice none 0 0]) 3 56 Tryz.underlying31 hi hz0 hz1 hz2 rfl (by decide) (.slice (some ⟨W.heap.size + 1, 0, none⟩) 0 0) 0 [] (by rfl) (by with_reducible exact HF.out) ⟨G, 0, none⟩ CC CC T1 (by rfl) HL1.out (by with_reducible exact HNF.out) HC1.out (by unfold maxLen; omega) (by omega) (by simp <;> omega) ?_; intro v6 w6 hown6 hgrow6 hnn6; have hb6 : Below W.heap.size W w6 := hbF.grown ⟨hgrow6.os, hgrow6.tape, hgrow6.output, hgrow6.size, hgrow6.block⟩ hbF.size (fun j hj => by cases hj; first | exact Nat.le_refl _ | exact Nat.le_succ _); have hl6 : ∀ j u, [.string f, .string t, .slice (some ⟨w1.heap.size + 1, 0, none⟩) 1 1][j]? = some u → w6.cell? ((⟨W.heap.size, 0, none⟩ : Addr).add j) = some u := fun j u h => hgrow6.cell (HLF.out j u h) (by rw [addr_add]; simp [Value.ownBlock]); have HO6 : Hid (w6.ownsRow W.heap.size 99 3 v6 CC T1) := by { unfold Hid; simpa using hown6 }; have hs6 := hb6.size; obtain ⟨z0, z1, z2⟩ := HCL.out w6 hb6; clear hown6 hgrow6)
      | (refine step_append_own2 (by rfl) _ _ 31 (by rfl) W.heap.size 99 i0 (.agg #[.string ⟨#[]⟩, .string ⟨#[]⟩, .slice none 0 0]) 3 56 Tryz.underlying31 hi hz0 hz1 hz2 rfl (by decide) v6 CC T1 (by rfl) (HO6.out.alloc _) ⟨w6.heap.size, 0, none⟩ 1 1 [.string f, .string t, .slice (some ⟨w1.heap.size + 1, 0, none⟩) 1 1] (by rfl) rfl (cells_new _ _ _) HCE.out (by unfold maxLen; omega) (by omega) (by first | omega | (simp; omega)) ?_; intro v7 w7 hown7 hgrow7 hnn7; have hb7 : Below W.heap.size W w7 := (hb6.alloc hb6.size (.cells #[.string f, .string t, .slice (some ⟨w1.heap.size + 1, 0, none⟩) 1 1] 99)).grown ⟨hgrow7.os, hgrow7.tape, hgrow7.output, hgrow7.size, hgrow7.block⟩ (hb6.alloc hb6.size (.cells #[.string f, .string t, .slice (some ⟨w1.heap.size + 1, 0, none⟩) 1 1] 99)).size (fun j hj => (HO6.out.lt j hj).1); have HO7 : Hid (w7.ownsRow W.heap.size 99 3 v7 (CC + 1) (T1 ++ [.string f, .string t, .slice (some ⟨w1.heap.size + 1, 0, none⟩) 1 1])) := hown7; have HN7 : Hid (v7 ≠ .slice none 0 0) := (fun e => by have := (hnn7.1 e).2; cases this); have hs7 := hb7.size; clear hown7 hgrow7 hnn7)
      | (refine step_append_own2 (by rfl) _ _ 31 (by rfl) W.heap.size 99 i0 (.agg #[.string ⟨#[]⟩, .string ⟨#[]⟩, .slice none 0 0]) 3 56 Tryz.underlying31 hi hz0 hz1 hz2 rfl (by decide) v6 CC T1 (by rfl) HO6.out ⟨W.heap.size + 1, 0, none⟩ 1 1 [.string f, .string t, .slice (some ⟨w1.heap.size + 1, 0, none⟩) 1 1] (by rfl) rfl (hl6) HCE.out (by unfold maxLen; omega) (by omega) (by first | omega | (simp; omega)) ?_; intro v7 w7 hown7 hgrow7 hnn7; have hb7 : Below W.heap.size W w7 := (hb6).grown ⟨hgrow7.os, hgrow7.tape, hgrow7.output, hgrow7.size, hgrow7.block⟩ (hb6).size (fun j hj => (HO6.out.lt j hj).1); have HO7 : Hid (w7.ownsRow W.heap.size 99 3 v7 (CC + 1) (T1 ++ [.string f, .string t, .slice (some ⟨w1.heap.size + 1, 0, none⟩) 1 1])) := hown7; have HN7 : Hid (v7 ≠ .slice none 0 0) := (fun e => by have := (hnn7.1 e).2; cases this); have hs7 := hb7.size; clear hown7 hgrow7 hnn7)
      | (refine step_append_own2 (by rfl) _ _ 31 (by rfl) W.heap.size 99 i0 (.agg #[.string ⟨#[]⟩, .string ⟨#[]⟩, .slice none 0 0]) 3 56 Tryz.underlying31 hi hz0 hz1 hz2 rfl (by decide) v6 CC T1 (by rfl) HO6.out ⟨W.heap.size, 0, none⟩ 1 1 [.string f, .string t, .slice (some ⟨w1.heap.size + 1, 0, none⟩) 1 1] (by rfl) rfl (hl6) HCE.out (by unfold maxLen; omega) (by omega) (by first | omega | (simp; omega)) ?_; intro v7 w7 hown7 hgrow7 hnn7; have hb7 : Below W.heap.size W w7 := (hb6).grown ⟨hgrow7.os, hgrow7.tape, hgrow7.output, hgrow7.size, hgrow7.block⟩ (hb6).size (fun j hj => (HO6.out.lt j hj).1); have HO7 : Hid (w7.ownsRow W.heap.size 99 3 v7 (CC + 1) (T1 ++ [.string f, .string t, .slice (some ⟨w1.heap.size + 1, 0, none⟩) 1 1])) := hown7; have HN7 : Hid (v7 ≠ .slice none 0 0) := (fun e => by have := (hnn7.1 e).2; cases this); have hs7 := hb7.size; clear hown7 hgrow7 hnn7)
      | (refine step_append_own2 (by rfl) _ _ 31 (by rfl) W.heap.size 99 i0 (.agg #[.string ⟨#[]⟩, .string ⟨#[]⟩, .slice none 0 0]) 3 56 Tryz.underlying31 hi hz0 hz1 hz2 rfl (by decide) v7 (CC + 1) (T1 ++ [.string f, .string t, .slice (some ⟨w1.heap.size + 1, 0, none⟩) 1 1]) (by rfl) HO7.out ⟨G, 0, none⟩ 0 0 [] (by rfl) rfl (by simp) (by simp) (by unfold maxLen; omega) (by omega) (by omega) ?_; intro v8 w8 hown8 hgrow8 hnn8; have hb8 : Below W.heap.size W w8 := hb7.grown ⟨hgrow8.os, hgrow8.tape, hgrow8.output, hgrow8.size, hgrow8.block⟩ hb7.size (fun j hj => (HO7.out.lt j hj).1); have HO8 : Hid (w8.ownsRow W.heap.size 99 3 v8 (CC + 1) (T1 ++ [.string f, .string t, .slice (some ⟨w1.heap.size + 1, 0, none⟩) 1 1] ++ [])) := hown8; have HN8 : Hid (v8 ≠ .slice none 0 0) := (fun e => HN7.out (hnn8.1 e).1); clear hown8 hgrow8 hnn8)
      | fail)
    all_goals
      go_wp2
      go_ret
      exact HE2.out v8 w8 HO8.out HN8.out hb8
  · have HE2 : Hid (∀ v8 w8, w8.ownsRow W.heap.size 99 3 v8 (k + 1 + (es.length - k)) (T1 ++ [.string f, .string t, .slice (some ⟨w1.heap.size + 1, 0, none⟩) 1 1] ++ T3) → v8 ≠ .slice none 0 0 → Below W.heap.size W w8 →
      WordA (es.take k ++ ⟨f, t, [⟨doc, [at']⟩]⟩ :: es.drop k) B (.slice (some ⟨G, 0, none⟩) es.length CC) fps es.length w w8 (.returned v8)) := fun v8 w8 ho => HEND.out v8 w8 (by rw [show es.length + 1 = k + 1 + (es.length - k) by omega]; exact ho)
    have hkI : (k : Int) ≤ (es.length : Int) := by omega
    clear HEND hT1 hT3
    go_wp2_with fail

    clear hW
    go_region_law (first
      | (refine step_append_own2 (by rfl) _ _ 31 (by rfl) W.heap.size 99 i0 (.agg #[.string ⟨#[]⟩, .string ⟨#[]⟩, .slice none 0 0]) 3 56 Tryz.underlying31 hi hz0 hz1 hz2 rfl (by decide) (.slice (some ⟨W.heap.size, 0, none⟩) 0 0) 0 [] (by rfl) (by with_reducible exact HA.out) ⟨G, 0, none⟩ k CC T1 (by rfl) HL1.out (by with_reducible exact HNA.out) HC1.out (by unfold maxLen; omega) (by omega) (by simp <;> omega) ?_; intro v6 w6 hown6 hgrow6 hnn6; have hb6 : Below W.heap.size W w6 := hbA.grown ⟨hgrow6.os, hgrow6.tape, hgrow6.output, hgrow6.size, hgrow6.block⟩ hbA.size (fun j hj => by cases hj; first | exact Nat.le_refl _ | exact Nat.le_succ _); have HO6 : Hid (w6.ownsRow W.heap.size 99 3 v6 k T1) := by { unfold Hid; simpa using hown6 }; have hs6 := hb6.size; obtain ⟨z0, z1, z2⟩ := HCL.out w6 hb6; clear hown6 hgrow6)
      | (refine step_append_own2 (by rfl) _ _ 31 (by rfl) W.heap.size 99 i0 (.agg #[.string ⟨#[]⟩, .string ⟨#[]⟩, .slice none 0 0]) 3 56 Tryz.underlying31 hi hz0 hz1 hz2 rfl (by decide) (.slice (some ⟨W.heap.size, 0, none⟩) 0 0) 0 [] (by rfl) (by with_reducible exact HC.out) ⟨G, 0, none⟩ k CC T1 (by rfl) HL1.out (by with_reducible exact HNC.out) HC1.out (by unfold maxLen; omega) (by omega) (by simp <;> omega) ?_; intro v6 w6 hown6 hgrow6 hnn6; have hb6 : Below W.heap.size W w6 := hbC.grown ⟨hgrow6.os, hgrow6.tape, hgrow6.output, hgrow6.size, hgrow6.block⟩ hbC.size (fun j hj => by cases hj; first | exact Nat.le_refl _ | exact Nat.le_succ _); have hl6 : ∀ j u, [.string f, .string t, .slice (some ⟨w1.heap.size + 1, 0, none⟩) 1 1][j]? = some u → w6.cell? ((⟨W.heap.size + 1, 0, none⟩ : Addr).add j) = some u := fun j u h => hgrow6.cell (HLC.out j u h) (by rw [addr_add]; simp [Value.ownBlock]); have HO6 : Hid (w6.ownsRow W.heap.size 99 3 v6 k T1) := by { unfold Hid; simpa using hown6 }; have hs6 := hb6.size; obtain ⟨z0, z1, z2⟩ := HCL.out w6 hb6; clear hown6 hgrow6)
      | (refine step_append_own2 (by rfl) _ _ 31 (by rfl) W.heap.size 99 i0 (.agg #[.string ⟨#[]⟩, .string ⟨#[]⟩, .slice none 0 0]) 3 56 Tryz.underlying31 hi hz0 hz1 hz2 rfl (by decide) (.slice (some ⟨W.heap.size + 1, 0, none⟩) 0 0) 0 [] (by rfl) (by with_reducible exact HF.out) ⟨G, 0, none⟩ k CC T1 (by rfl) HL1.out (by with_reducible exact HNF.out) HC1.out (by unfold maxLen; omega) (by omega) (by simp <;> omega) ?_; intro v6 w6 hown6 hgrow6 hnn6; have hb6 : Below W.heap.size W w6 := hbF.grown ⟨hgrow6.os, hgrow6.tape, hgrow6.output, hgrow6.size, hgrow6.block⟩ hbF.size (fun j hj => by cases hj; first | exact Nat.le_refl _ | exact Nat.le_succ _); have hl6 : ∀ j u, [.string f, .string t, .slice (some ⟨w1.heap.size + 1, 0, none⟩) 1 1][j]? = some u → w6.cell? ((⟨W.heap.size, 0, none⟩ : Addr).add j) = some u := fun j u h => hgrow6.cell (HLF.out j u h) (by rw [addr_add]; simp [Value.ownBlock]); have HO6 : Hid (w6.ownsRow W.heap.size 99 3 v6 k T1) := by { unfold Hid; simpa using hown6 }; have hs6 := hb6.size; obtain ⟨z0, z1, z2⟩ := HCL.out w6 hb6; clear hown6 hgrow6)
      | (refine step_append_own2 (by rfl) _ _ 31 (by rfl) W.heap.size 99 i0 (.agg #[.string ⟨#[]⟩, .string ⟨#[]⟩, .slice none 0 0]) 3 56 Tryz.underlying31 hi hz0 hz1 hz2 rfl (by decide) v6 k T1 (by rfl) (HO6.out.alloc _) ⟨w6.heap.size, 0, none⟩ 1 1 [.string f, .string t, .slice (some ⟨w1.heap.size + 1, 0, none⟩) 1 1] (by rfl) rfl (cells_new _ _ _) HCE.out (by unfold maxLen; omega) (by omega) (by first | omega | (simp; omega)) ?_; intro v7 w7 hown7 hgrow7 hnn7; have hb7 : Below W.heap.size W w7 := (hb6.alloc hb6.size (.cells #[.string f, .string t, .slice (some ⟨w1.heap.size + 1, 0, none⟩) 1 1] 99)).grown ⟨hgrow7.os, hgrow7.tape, hgrow7.output, hgrow7.size, hgrow7.block⟩ (hb6.alloc hb6.size (.cells #[.string f, .string t, .slice (some ⟨w1.heap.size + 1, 0, none⟩) 1 1] 99)).size (fun j hj => (HO6.out.lt j hj).1); have HO7 : Hid (w7.ownsRow W.heap.size 99 3 v7 (k + 1) (T1 ++ [.string f, .string t, .slice (some ⟨w1.heap.size + 1, 0, none⟩) 1 1])) := hown7; have HN7 : Hid (v7 ≠ .slice none 0 0) := (fun e => by have := (hnn7.1 e).2; cases this); have hs7 := hb7.size; clear hown7 hgrow7 hnn7)
      | (refine step_append_own2 (by rfl) _ _ 31 (by rfl) W.heap.size 99 i0 (.agg #[.string ⟨#[]⟩, .string ⟨#[]⟩, .slice none 0 0]) 3 56 Tryz.underlying31 hi hz0 hz1 hz2 rfl (by decide) v6 k T1 (by rfl) HO6.out ⟨W.heap.size + 1, 0, none⟩ 1 1 [.string f, .string t, .slice (some ⟨w1.heap.size + 1, 0, none⟩) 1 1] (by rfl) rfl (hl6) HCE.out (by unfold maxLen; omega) (by omega) (by first | omega | (simp; omega)) ?_; intro v7 w7 hown7 hgrow7 hnn7; have hb7 : Below W.heap.size W w7 := (hb6).grown ⟨hgrow7.os, hgrow7.tape, hgrow7.output, hgrow7.size, hgrow7.block⟩ (hb6).size (fun j hj => (HO6.out.lt j hj).1); have HO7 : Hid (w7.ownsRow W.heap.size 99 3 v7 (k + 1) (T1 ++ [.string f, .string t, .slice (some ⟨w1.heap.size + 1, 0, none⟩) 1 1])) := hown7; have HN7 : Hid (v7 ≠ .slice none 0 0) := (fun e => by have := (hnn7.1 e).2; cases this); have hs7 := hb7.size; clear hown7 hgrow7 hnn7)
      | (refine step_append_own2 (by rfl) _ _ 31 (by rfl) W.heap.size 99 i0 (.agg #[.string ⟨#[]⟩, .string ⟨#[]⟩, .slice none 0 0]) 3 56 Tryz.underlying31 hi hz0 hz1 hz2 rfl (by decide) v6 k T1 (by rfl) HO6.out ⟨W.heap.size, 0, none⟩ 1 1 [.string f, .string t, .slice (some ⟨w1.heap.size + 1, 0, none⟩) 1 1] (by rfl) rfl (hl6) HCE.out (by unfold maxLen; omega) (by omega) (by first | omega | (simp; omega)) ?_; intro v7 w7 hown7 hgrow7 hnn7; have hb7 : Below W.heap.size W w7 := (hb6).grown ⟨hgrow7.os, hgrow7.tape, hgrow7.output, hgrow7.size, hgrow7.block⟩ (hb6).size (fun j hj => (HO6.out.lt j hj).1); have HO7 : Hid (w7.ownsRow W.heap.size 99 3 v7 (k + 1) (T1 ++ [.string f, .string t, .slice (some ⟨w1.heap.size + 1, 0, none⟩) 1 1])) := hown7; have HN7 : Hid (v7 ≠ .slice none 0 0) := (fun e => by have := (hnn7.1 e).2; cases this); have hs7 := hb7.size; clear hown7 hgrow7 hnn7)
      | (refine step_append_own2 (by rfl) _ _ 31 (by rfl) W.heap.size 99 i0 (.agg #[.string ⟨#[]⟩, .string ⟨#[]⟩, .slice none 0 0]) 3 56 Tryz.underlying31 hi hz0 hz1 hz2 rfl (by decide) v7 (k + 1) (T1 ++ [.string f, .string t, .slice (some ⟨w1.heap.size + 1, 0, none⟩) 1 1]) (by rfl) HO7.out ⟨G, k * 3, none⟩ (es.length - k) (CC - k) T3 (by rfl) HL3.out (HR3.out _ hb7) HC3.out (by unfold maxLen; omega) (by omega) (by omega) ?_; intro v8 w8 hown8 hgrow8 hnn8; have hb8 : Below W.heap.size W w8 := hb7.grown ⟨hgrow8.os, hgrow8.tape, hgrow8.output, hgrow8.size, hgrow8.block⟩ hb7.size (fun j hj => (HO7.out.lt j hj).1); have HO8 : Hid (w8.ownsRow W.heap.size 99 3 v8 (k + 1 + (es.length - k)) (T1 ++ [.string f, .string t, .slice (some ⟨w1.heap.size + 1, 0, none⟩) 1 1] ++ T3)) := hown8; have HN8 : Hid (v8 ≠ .slice none 0 0) := (fun e => HN7.out (hnn8.1 e).1); clear hown8 hgrow8 hnn8)
      | fail)
    all_goals
      go_wp2
      go_ret
      exact HE2.out v8 w8 HO8.out HN8.out hb8
end Go.Proofs.YtbifagdcnpnpjaaGreat
