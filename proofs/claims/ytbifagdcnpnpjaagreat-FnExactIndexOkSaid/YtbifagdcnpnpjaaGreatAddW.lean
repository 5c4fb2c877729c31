/- add: a place of a word more, in the map of maps. -/
import Derived.Test.YtbifagdcnpnpjaaGreatWordM
import Derived.Test.YtbifagdcnpnpjaaGreatKeepOrder
import Derived.Test.YtbifagdcnpnpjaaGreatToInts
import Derived.Test.YtbifagdcnpnpjaaGreatIdxWordS2
namespace Go.Proofs.YtbifagdcnpnpjaaGreat
open Go Go.Sort Go.RowKit Go.BigFrame
set_option linter.unusedVariables false

/-- What else there was is as it was. -/
structure AddFr (B bw : Nat) (w w' : World) : Prop where
  below : Below B w w'
  size : w.heap.size ≤ w'.heap.size
  oth : ∀ b cs ty, w.heap[b]? = some (.cells cs ty (0, 0)) → ty ≠ 107 → ty ≠ 3 → ty ≠ 149 → b ≠ bw → w'.heap[b]? = w.heap[b]?
theorem AddFr.refl (B bw : Nat) (w : World) : AddFr B bw w w := ⟨Below.refl _ _, Nat.le_refl _, fun _ _ _ _ _ _ _ _ => rfl⟩
theorem AddFr.trans {B bw : Nat} {u v w : World} (h : AddFr B bw u v) (k : AddFr B bw v w) : AddFr B bw u w :=
  ⟨h.below.trans k.below, Nat.le_trans h.size k.size, fun b cs ty hb h1 h2 h3 h4 => (k.oth b cs ty ((h.oth b cs ty hb h1 h2 h3 h4).trans hb) h1 h2 h3 h4).trans (h.oth b cs ty hb h1 h2 h3 h4)⟩
theorem AddFr.of_below {B bw : Nat} {w w' : World} (hB : B ≤ w.heap.size) (h : Below w.heap.size w w') : AddFr B bw w w' :=
  ⟨⟨h.os, h.tape, h.output, h.size, fun b hb => h.block b (by omega)⟩, h.size, fun b cs ty hb _ _ _ _ => h.block b (lt_of_block hb)⟩
/-- Only blocks of words and of their order have changed. -/
theorem AddFr.of_tch {B bw : Nat} {w w' : World} {fp : List Nat} (hB : B ≤ w.heap.size) (h : Tch fp w w') (hfB : ∀ b ∈ fp, B ≤ b) (hk : ∀ b ∈ fp, b = bw ∨ ∀ cs ty, w.heap[b]? = some (.cells cs ty (0, 0)) → ty = 107 ∨ ty = 3 ∨ ty = 149) : AddFr B bw w w' :=
  ⟨h.below hfB hB, h.size, fun b cs ty hb h1 h2 h3 h4 => h.2 b (lt_of_block hb) (fun hm => by
    rcases hk b hm with e | e
    · exact h4 e
    · rcases e cs ty hb with e | e | e
      · exact h1 e
      · exact h2 e
      · exact h3 e)⟩
theorem Blk.fr {B bw b : Nat} {w w' : World} {C : Array Value} {ty : TypeId} (h : Blk w b C ty) (hf : AddFr B bw w w') (h1 : ty ≠ 107) (h2 : ty ≠ 3) (h3 : ty ≠ 149) (h4 : b ≠ bw) : Blk w' b C ty := (hf.oth b C ty h h1 h2 h3 h4).trans h
structure AddS (w' : World) (B bw b0 : Nat) (s : WS) (N : Nat) (ib : ByteArray → Option Nat) (vl : ByteArray → ByteArray → Value) (fp : ByteArray → ByteArray → List Nat) (vo : Value) : Prop where
  wm : WM w' B b0 s N ib vl fp
  bx : Blk w' bw #[.map (some b0), vo] 82
  od : w'.ownsRow B 149 2 vo s.o.length (kyCells s.o)
theorem AddS.below {w w' : World} {B bw b0 N : Nat} {s : WS} {ib : ByteArray → Option Nat} {vl : ByteArray → ByteArray → Value} {fp : ByteArray → ByteArray → List Nat} {vo : Value} (h : AddS w B bw b0 s N ib vl fp vo) (hb : Below w.heap.size w w') : AddS w' B bw b0 s N ib vl fp vo :=
  ⟨h.wm.below hb, h.bx.below hb h.bx.lt, row_same h.od fun g hg => hb.block g (h.od.lt g hg).2⟩
def AddA (B bw b0 : Nat) (s' : WS) (N : Nat) (w w' : World) (e : Ending) : Prop := e = .returned (.tuple #[]) ∧ (∃ ib vl fp vo, AddS w' B bw b0 s' N ib vl fp vo) ∧ AddFr B bw w w'
theorem add_o (s : WS) (f t : ByteArray) (doc at' : Int) : (s.add f t doc at').o = if s.m f t = [] then keepK s.o f t else s.o := by
  show (if s.m f t = [] ∧ t.size ≠ 0 then putK s.o f t else s.o) = _
  unfold keepK
  by_cases h1 : s.m f t = [] <;> by_cases h2 : t.size = 0 <;> simp [h1, h2]
theorem WM.order {w : World} {B b0 N : Nat} {s : WS} {ib : ByteArray → Option Nat} {vl : ByteArray → ByteArray → Value} {fp : ByteArray → ByteArray → List Nat} (h : WM w B b0 s N ib vl fp) (o' : List Ky) : WM w B b0 ⟨s.m, o'⟩ N ib vl fp :=
  ⟨h.out, h.inn, h.nil, h.inj, h.n0, h.b0B, h.el, h.emp, h.ap, h.sz⟩
theorem set_last {ps : List Pst} {n : Nat} (hl : n = ps.length) (p q : Pst) : (ps ++ [p]).set n q = ps ++ [q] := by
  subst hl
  rw [List.set_append_right _ _ (Nat.le_refl _), Nat.sub_self]
  rfl
/-- The post that takes the place: the last one, of this document. -/
structure PlP (W7 W8 : World) (ps : List Pst) (fpf : List Nat) (doc : Int) (gp cp : Nat) (ys : List Value) (ps8 : List Pst) (gps8 : Nat → List Nat) (n : Nat) (p : Pst) (q : Option Addr) (ca : Nat) : Prop where
  g : GRow pstEl W8 0 (.slice (some ⟨gp, 0, none⟩) ps8.length cp) ys ps8 gps8
  hn : n + 1 = ps8.length
  hp : ps8[n]? = some p
  hd : p.doc = doc
  hy : grp ys 2 n = [.int .i64 p.doc, .slice q p.ats.length ca]
  ha : W8.ownsRow 0 3 1 (.slice q p.ats.length ca) p.ats.length (p.ats.map (Value.int .i64))
  hg : gps8 n = (Value.ownBlock (.slice q p.ats.length ca)).toList
  tch : Tch fpf W7 W8
  sub : ∀ b ∈ footOf (.slice (some ⟨gp, 0, none⟩) ps8.length cp) gps8 ps8.length, b ∈ fpf ∨ W7.heap.size ≤ b
  pa : ∀ at', ps8.set n ⟨p.doc, p.ats ++ [at']⟩ = postAdd ps doc at'
theorem plp_same {W : World} {v : Value} {ps : List Pst} {fp : List Nat} (h : SlOwn pstEl W v ps fp) (hne : ps ≠ []) {doc : Int} (hl : ∀ n p, n + 1 = ps.length → ps[n]? = some p → p.doc = doc) :
    ∃ gp cp ys gps n p q ca, v = .slice (some ⟨gp, 0, none⟩) ps.length cp ∧ PlP W W ps fp doc gp cp ys ps gps n p q ca := by
  obtain ⟨gp, cp, ys, gps, n, p, q, ca, hv, hg, hf, hn, hp, hy, ha, hgn⟩ := pst_last h hne
  have hd := hl n p hn hp
  refine ⟨gp, cp, ys, gps, n, p, q, ca, hv, hg, hn, hp, hd, hy, ha, hgn, Tch.refl _ _, fun b hb => .inl (by rw [hf]; exact hb), fun at' => ?_⟩
  rw [← hd]
  exact (postAdd_same hn hp at').symm
theorem plp_new {W7 W8 : World} {v v8 : Value} {xs : List Value} {ps : List Pst} {gps : Nat → List Nat} {doc : Int} {o : Obj} (h : GRow pstEl W7 0 v xs ps gps) (hl : ∀ at', postAdd ps doc at' = ps ++ [⟨doc, [at']⟩])
    (hown : W8.ownsRow 0 107 2 v8 (ps.length + 1) (xs ++ [.int .i64 doc, .slice none 0 0])) (hgrow : (W7.alloc o).grownBy W8 v.ownBlock) (hat : v8.ownBlock = v.ownBlock ∨ v8.ownBlock = some (W7.heap.size + 1)) :
    ∃ gp cp gps8, v8 = .slice (some ⟨gp, 0, none⟩) (ps ++ [(⟨doc, []⟩ : Pst)]).length cp ∧ PlP W7 W8 ps (footOf v gps ps.length) doc gp cp (xs ++ [.int .i64 doc, .slice none 0 0]) (ps ++ [⟨doc, []⟩]) gps8 ps.length ⟨doc, []⟩ none 0 := by
  have hba : Below W7.heap.size W7 (W7.alloc o) := (Below.refl _ _).alloc (Nat.le_refl _) _
  have hsa : (W7.alloc o).heap.size = W7.heap.size + 1 := by simp
  have hSN := h.snoc (Nat.zero_le _) hba (c := [.int .i64 doc, .slice none 0 0]) (a := ⟨doc, []⟩) (fp := []) ⟨.slice none 0 0, rfl, World.ownsRow_nil _ _ _ _, rfl⟩ (fun b hb => by cases hb) hown hgrow (by rw [hsa]; exact hat)
  have hxl := h.row.1
  obtain ⟨pa, cp, hv, _, _, hn, hx⟩ := row_val hSN.row
  cases pa with
  | none =>
    rcases hown.2 with ⟨_, h0⟩ | ⟨g, c', cur, e, _⟩
    · omega
    · rw [e] at hv; cases hv
  | some x =>
    obtain ⟨gp, rfl, _⟩ := hx x rfl
    rw [hv] at hSN hat
    have hlen : (ps ++ [(⟨doc, []⟩ : Pst)]).length = ps.length + 1 := by simp
    refine ⟨gp, cp, _, hv, hSN, by simp, by rw [List.getElem?_append_right (Nat.le_refl _), Nat.sub_self]; rfl, rfl, grp_last hxl rfl, World.ownsRow_nil _ _ _ _, by simp [Value.ownBlock], ?_, fun b hb => ?_, fun at' => ?_⟩
    · refine (Tch.of_below hba).trans (Tch.of_grown hgrow (fun b e => mem_footOf.2 (.inl e)))
    · rcases mem_footOf.1 hb with hb | hb
      · rcases hat with e | e
        · rw [e] at hb; exact .inl (mem_footOf.2 (.inl hb))
        · rw [e] at hb; cases hb; exact .inr (by omega)
      · obtain ⟨i, hi, hb⟩ := mem_feet.1 hb
        by_cases e : i = ps.length
        · rw [if_pos e] at hb; cases hb
        · rw [if_neg e] at hb
          exact .inl (feet_sub (by omega) b hb)
    · rw [set_last rfl, hl at']
      rfl
theorem mapEq_nil (w : World) : (binOp .eql 103 (.map none) (.map none)).run Tryz.prog w = .ok (.bool true) w := run_eql_map_nil w _ _ _ none Tryz.underlying103
theorem mapEq_some (b : Nat) (w : World) : (binOp .eql 103 (.map (some b)) (.map none)).run Tryz.prog w = .ok (.bool false) w := run_eql_map_nil w _ _ _ (some b) Tryz.underlying103
theorem mk_map' (t : TypeId) (w : World) : (Instr.makeMap t none).run Tryz.prog w = .ok (.map (some w.heap.size)) (w.alloc (.map #[] 0)) := rfl
theorem SlOwn.notin {w : World} {v : Value} {ps : List Pst} {fp : List Nat} (h : SlOwn pstEl w v ps fp) {b : Nat} {cs : Array Value} {ty : TypeId} (hb : w.heap[b]? = some (.cells cs ty (0, 0))) (h1 : ty ≠ 107) (h2 : ty ≠ 3) : b ∉ fp := fun hm => by
  rcases h.kind b hm with ⟨cs', e⟩ | ⟨cs', e⟩
  · rw [hb] at e; cases e; exact h1 rfl
  · rw [hb] at e; cases e; exact h2 rfl
/-- The last step: the posts are put. -/
theorem add_done {W7 W10 : World} {B bw b0 N bi : Nat} {s : WS} {ib : ByteArray → Option Nat} {vl : ByteArray → ByteArray → Value} {fp : ByteArray → ByteArray → List Nat} {vo : Value} {f t : ByteArray} {doc at' : Int}
    (h : AddS W7 B bw b0 ⟨s.m, (s.add f t doc at').o⟩ (N + 1) ib vl fp vo) (hB : B ≤ W7.heap.size) (hib : ib f = some bi) (hN : N + 1 < maxLen) (hts : t.size ≤ maxLen) {v' : Value} {fp' : List Nat} (ht : Tch (fp f t) W7 W10) (hs : SlOwn pstEl W10 v' (postAdd (s.m f t) doc at') fp') (hfp : ∀ b ∈ fp', b ∈ fp f t ∨ W7.heap.size ≤ b) :
    ∃ W11, (Instr.mapUpdate 103 (Value.map (some bi)) (.string t) v').run Tryz.prog W10 = .ok () W11 ∧ AddFr B bw W7 W11 ∧ ∃ ib vl fp vo, AddS W11 B bw b0 (s.add f t doc at') (N + 2) ib vl fp vo := by
  obtain ⟨W11, hrun, hg, hwm⟩ := h.wm.put hB (doc := doc) (at' := at') hib hN hts (fun b hb hn => ht.2 b hb.lt hn) hs hfp (o' := (s.add f t doc at').o)
  have hbi := (h.wm.inn f bi hib).1.kind
  have hk : ∀ (b : Nat) (cs : Array Value) (ty : TypeId), W7.heap[b]? = some (Obj.cells cs ty (0, 0)) → ty ≠ 107 → ty ≠ 3 → W11.heap[b]? = W7.heap[b]? := fun b cs ty hb h1 h2 => by
    have hl := lt_of_block hb
    have e1 := ht.2 b hl ((h.wm.el f t).1.notin hb h1 h2)
    refine (hg.block b (Nat.lt_of_lt_of_le hl ht.size) (fun e => ?_)).trans e1
    cases e
    obtain ⟨es, c, hm⟩ := hbi
    rw [hm] at hb
    cases hb
  refine ⟨W11, hrun, ⟨(ht.below (h.wm.el f t).2 hB).trans ⟨hg.os, hg.tape, hg.output, hg.size, fun b hb => hg.block b (by have := ht.size; omega) (fun e => by cases e; have := (h.wm.inn f bi hib).2; omega)⟩, Nat.le_trans ht.size hg.size, fun b cs ty hb h1 h2 _ _ => hk b cs ty hb h1 h2⟩, ib, _, _, vo, hwm, (hk bw _ _ h.bx (by decide) (by decide)).trans h.bx, row_same h.od fun g hg' => ?_⟩
  obtain ⟨cs, hc⟩ := row_kind h.od g hg'
  exact hk g cs _ hc (by decide) (by decide)
set_option maxRecDepth 100000 in
set_option maxHeartbeats 4000000 in
theorem addW_any (B bw b0 N : Nat) (s : WS) (ib : ByteArray → Option Nat) (vl : ByteArray → ByteArray → Value) (fp : ByteArray → ByteArray → List Nat) (vo : Value) (f t : ByteArray) (doc at' : Int) (w : World) (hB : B ≤ bw) (hN : N ≤ 2000002) (hasc : KAsc s.o) (hol : s.o.length ≤ 1000000) (hfs : f.size ≤ 1048576) (hts : t.size ≤ 1048576)
    (h : AddS w B bw b0 s N ib vl fp vo) :
    Calls Tryz.prog 121 #[.pointer (some ⟨bw, 0, none⟩), .agg #[.string f, .string t], .int .i64 doc, .int .i64 at'] w fun e w' => AddA B bw b0 (s.add f t doc at') (N + 2) w w' e := by
  obtain ⟨W0, hW0⟩ : ∃ W0, w.alloc (.cells #[.string f, .string t] 149) = W0 := ⟨_, rfl⟩
  have hbwl := h.bx.lt
  have hb0 : Below w.heap.size w W0 := by rw [← hW0]; exact (Below.refl _ w).alloc (Nat.le_refl _) _
  have S0 : Blk W0 w.heap.size #[.string f, .string t] 149 := by rw [← hW0]; exact Blk.new w _ _
  have HH : Hid (AddS W0 B bw b0 s N ib vl fp vo) := h.below hb0
  have HFR : Hid (AddFr B bw w W0) := .of_below (by omega) hb0
  have HA : Hid (KAsc s.o) := hasc
  have hmf : f.size ≤ maxLen := by unfold maxLen; omega
  have hmt : t.size ≤ maxLen := by unfold maxLen; omega
  have hmN : N + 1 < maxLen := by unfold maxLen; omega
  have hs0 : w.heap.size < W0.heap.size := S0.lt
  have HVO : Hid (∀ g, vo.ownBlock = some g → g < w.heap.size) := fun g hg => (h.od.lt g hg).2
  have s0 := S0.cell 0
  have s1 := S0.cell 1
  have x0 := HH.out.bx.cell 0
  simp at s0 s1 x0
  have hzv1 : ∀ w, (zeroValue 103).run Tryz.prog w = .ok (.map none) w := fun w => Tryz.zeroValue103 w
  have HL1 : ∀ n, (Instr.lookup 79 (.map (some b0)) (.string f) false).run Tryz.prog (W0.drewN n) = .ok (.map (ib f)) (W0.drewN n) := fun n =>
    (HH.out.wm.below (below_drewN (Below.refl _ W0) n)).out.look 79 103 Tryz.underlying79 (hzv1 _) hmf
  clear h hb0 hasc
  go_enter Tryz.func121, Tryz.ntmps121
  go_wp2
  go_quiet (fail)
  have hbq : Below W0.heap.size W0 (W0.drewN nq) := below_drewN (Below.refl _ _) _
  have HH1 : Hid (AddS (W0.drewN nq) B bw b0 s N ib vl fp vo) := HH.out.below hbq
  have HFR1 : Hid (AddFr B bw w (W0.drewN nq)) := HFR.out.trans (.of_below (by omega) hbq)
  have HS1 : Hid (Blk (W0.drewN nq) w.heap.size #[.string f, .string t] 149) := S0.below hbq S0.lt
  have hs1' : w.heap.size < (W0.drewN nq).heap.size := hs0
  have e1 := mapEq_nil
  have e2 := mapEq_some
  have e3 := mk_map'
  clear HL1 hbq HH HFR S0 hs0 s0 s1 x0
  generalize W0.drewN nq = W1 at *
  rcases hib : ib f with _ | bi
  focus
    obtain ⟨W2, hW2⟩ : ∃ W2, W1.alloc (.map #[] 0) = W2 := ⟨_, rfl⟩
    have hb2 : Below W1.heap.size W1 W2 := by rw [← hW2]; exact (Below.refl _ W1).alloc (Nat.le_refl _) _
    have hm2 : MapS W2.drew W1.heap.size 0 (fun _ => .slice none 0 0) (.slice none 0 0) := by rw [← hW2]; exact (MapS.made W1 _).same rfl
    obtain ⟨ibn, hibn⟩ : ∃ g : ByteArray → Option Nat, g = fun u => if u = f then some W1.heap.size else ib u := ⟨_, rfl⟩
    obtain ⟨W5, hrun, hwm5, hg5⟩ := HH1.out.wm.open (by have := HH1.out.bx.lt; omega) hib (by omega) hmf (below_drew hb2) hm2
    rw [← hibn] at hwm5
    have hX2 := HH1.out.bx.below hb2 HH1.out.bx.lt
    have hS2 := HS1.out.below hb2 HS1.out.lt
    have x0 := hX2.cell 0
    have s0 := hS2.cell 0
    simp at x0 s0
    have hbwn : bw ≠ b0 := fun e => by
      obtain ⟨es, c, hm⟩ := HH1.out.wm.out.kind
      have hx := HH1.out.bx
      unfold Blk at hx
      rw [e, hm] at hx
      cases hx
    have hk5 : ∀ b C ty, Blk W2 b C ty → W5.heap[b]? = W2.heap[b]? := fun b C ty hb => hg5.block b hb.lt (fun e => by
      cases e
      obtain ⟨es, c, hm⟩ := (HH1.out.wm.below hb2).out.kind
      unfold Blk at hb
      rw [hm] at hb
      cases hb)
    have HH5 : Hid (AddS W5 B bw b0 s (N + 1) ibn vl fp vo) :=
      ⟨hwm5, (hk5 _ _ _ hX2).trans hX2, row_same (row_same HH1.out.od fun g hg => hb2.block g (HH1.out.od.lt g hg).2) fun g hg => by
        have ho2 := row_same HH1.out.od fun g hg => hb2.block g (HH1.out.od.lt g hg).2
        obtain ⟨cs, hc⟩ := row_kind ho2 g hg
        exact hk5 g cs _ hc⟩
    have HS5 : Hid (Blk W5 w.heap.size #[.string f, .string t] 149) := (hk5 _ _ _ hS2).trans hS2
    have HFR5 : Hid (AddFr B bw w W5) := HFR1.out.trans ((AddFr.of_below (by have := HH1.out.bx.lt; omega) hb2).trans
      ⟨⟨hg5.os, hg5.tape, hg5.output, hg5.size, fun b hb => hg5.block b (by have := hb2.size; have := HH1.out.bx.lt; show b < W2.heap.size; omega) (fun e => by cases e; have := HH1.out.wm.b0B; omega)⟩, hg5.size, fun b cs ty hb _ _ _ _ => hk5 b cs ty hb⟩)
    have HIB : Hid (ibn f = some W1.heap.size) := by unfold Hid; rw [hibn]; exact if_pos rfl
    have hs5 : w.heap.size < W5.heap.size := by have := hb2.size; have := hg5.size; have e : W2.drew.heap.size = W2.heap.size := rfl; omega
    clear hb2 hm2 hwm5 hg5 hX2 hS2 hbwn hk5 HH1 HS1 HFR1
    go_wp2
    refine wp_region_still_one 7 (by kernel_rfl) (by kernel_rfl) rfl ?_
    simp only [List.take_succ_cons, List.take_zero]
    repeat still_step
    refine wpStill_nil ?_
    refine oneK_want rfl ?_
    go_simp
    unfold RestK
    simp only [List.drop_succ_cons, List.drop_nil]
    refine wpQuiet_nil ?_
    intro _ hw'
    obtain ⟨nq2, hw''⟩ := hw'
    subst hw''
    have hbq : Below W5.heap.size W5 (W5.drewN nq2) := below_drewN (Below.refl _ _) _
    have HH6 : Hid (AddS (W5.drewN nq2) B bw b0 s (N + 1) ibn vl fp vo) := HH5.out.below hbq
    have HS6 : Hid (Blk (W5.drewN nq2) w.heap.size #[.string f, .string t] 149) := HS5.out.below hbq HS5.out.lt
    have HFR6 : Hid (AddFr B bw w (W5.drewN nq2)) := HFR5.out.trans (.of_below (by omega) hbq)
    have hs6 : w.heap.size < (W5.drewN nq2).heap.size := hs5
    clear HH5 HS5 HFR5 hbq x0 s0 hrun hW2 hs5 hs1'
    clear hibn
    generalize ibn = ib2 at *
    generalize W1.heap.size = bi at *
    generalize W5.drewN nq2 = W6 at *
  rotate_left
  focus
    have HH6 : Hid (AddS W1 B bw b0 s (N + 1) ib vl fp vo) := ⟨HH1.out.wm.mono (Nat.le_succ _), HH1.out.bx, HH1.out.od⟩
    have HS6 : Hid (Blk W1 w.heap.size #[.string f, .string t] 149) := HS1.out
    have HFR6 : Hid (AddFr B bw w W1) := HFR1.out
    have HIB : Hid (ib f = some bi) := hib
    have hs6 : w.heap.size < W1.heap.size := hs1'
    clear HH1 HS1 HFR1 hs1' hib
    generalize ib = ib2 at *
    generalize W1 = W6 at *
  all_goals
    clear e1 e3
    have HZ : Hid (∀ x, SlOwn pstEl W6 (vl f x) (s.m f x) (fp f x)) := fun x => (HH6.out.wm.el f x).1
    have hs1 := HS6.out.cell 1
    simp at hs1
    obtain ⟨pv, cv, hpv, _⟩ := (HZ.out t).psts
    have hlook : (Instr.lookup 103 (.map (some bi)) (.string t) false).run Tryz.prog W6 = .ok (.slice pv (s.m f t).length cv) W6 := by
      rw [← hpv]
      exact (HH6.out.wm.inn f bi HIB.out).1.look 103 61 Tryz.underlying103 (Tryz.zeroValue61 W6) hmt
    have hmB : B ≤ W6.heap.size := by omega
    have hfpB := (HH6.out.wm.el f t).2
    have hsz6 := HH6.out.wm.sz f t
    rcases Classical.em (s.m f t = []) with hps | hps
    focus
      have hvn : vl f t = .slice none 0 0 := HH6.out.wm.emp f t hps
      rw [hvn, hps] at hpv
      cases hpv
      rw [hps] at hlook
      have HKO : Hid (Calls Tryz.prog 139 #[.pointer (some ⟨bw, 0, none⟩), .agg #[.string f, .string t]] W6 fun e w' => KeepA B bw (some b0) vo (keepK s.o f t) W6 w' e) := keepOrder_any B bw (some b0) vo s.o f t W6 hmB hol HA.out HH6.out.bx HH6.out.od
      have s0x := HS6.out.cell 0
      simp at s0x
      go_wp2_with fail
      refine HKO.out.mono ?_
      rintro e W7 ⟨rfl, vo7, hbx7, hod7, ht7⟩
      have hk7 : ∀ b, b < W6.heap.size → b ∉ bw :: vo.ownBlock.toList → W7.heap[b]? = W6.heap[b]? := ht7.2
      have hkw : ∀ b, KindW W6 b → b ∉ bw :: vo.ownBlock.toList := fun b hb hm => by
        rcases List.mem_cons.1 hm with e | hm
        · subst e; exact hb.not HH6.out.bx (by decide) (by decide)
        · rw [Option.mem_toList] at hm
          exact hb.notRow HH6.out.od (by decide) (by decide) hm
      have HH7 : Hid (AddS W7 B bw b0 ⟨s.m, (s.add f t doc at').o⟩ (N + 1) ib2 vl fp vo7) :=
        ⟨(HH6.out.wm.kept fun b hb => hk7 b hb.lt (hkw b hb)).order _, hbx7, by rw [add_o, if_pos hps]; exact hod7⟩
      have HS7 : Hid (Blk W7 w.heap.size #[.string f, .string t] 149) := (hk7 _ hs6 (fun hm => by
        rcases List.mem_cons.1 hm with e | hm
        · omega
        · rw [Option.mem_toList] at hm
          have := HVO.out _ hm
          omega)).trans HS6.out
      have HFR7 : Hid (AddFr B bw w W7) := HFR6.out.trans (.of_tch hmB ht7 (fun b hm => by
        rcases List.mem_cons.1 hm with e | hm
        · omega
        · rw [Option.mem_toList] at hm
          exact (HH6.out.od.lt b hm).1) (fun b hm => by
        rcases List.mem_cons.1 hm with e | hm
        · exact .inl e
        · rw [Option.mem_toList] at hm
          refine .inr fun cs ty hc => .inr (.inr ?_)
          obtain ⟨cs', hc'⟩ := row_kind HH6.out.od b hm
          rw [hc'] at hc
          cases hc
          rfl))
      have hs7 : w.heap.size < W7.heap.size := Nat.lt_of_lt_of_le hs6 ht7.size
      have hB7 : B ≤ W7.heap.size := by omega
      have hfp0 : fp f t = [] := by
        have h1 := (HH6.out.wm.el f t).1
        rw [hvn] at h1
        obtain ⟨ys, gps, hg, hf⟩ := h1
        rw [hf, hps]
        rfl
      clear HKO hbx7 hod7 ht7 hk7 hkw hlook hs1 s0x
      obtain ⟨i0, hi, hz0, hz1, hz2⟩ := info_parts infoPst
      have HG0 : Hid (GRow pstEl W7 0 (.slice none 0 0) [] [] (fun _ => [])) := GRow.nil _ _ _
      go_wp2_with (at_builtin; refine wpList_append_own_at _ rfl _ _ 61 rfl 0 107 i0 (.agg #[.int .i64 0, .slice none 0 0]) 2 32 Tryz.underlying61 hi hz0 hz1 hz2 rfl (by decide) _ _ _ rfl (HG0.out.row.alloc _) ⟨W7.heap.size, 0, none⟩ 1 1 [.int .i64 doc, .slice none 0 0] rfl rfl (cells_new _ _ _) (post_cells _ _ _ _) (by unfold maxLen; simp) (by simp) (Nat.zero_le _) ?_)
      intro v8 W8 hown8 hgrow8 hnn8 hat8
      obtain ⟨gp, cp, gps8, rfl, hpl⟩ := plp_new HG0.out (fun at' => rfl) hown8 hgrow8 hat8
      have HPL : Hid (∃ W7 vo7 q ca, AddS W7 B bw b0 ⟨s.m, (s.add f t doc at').o⟩ (N + 1) ib2 vl fp vo7 ∧ Blk W7 w.heap.size #[.string f, .string t] 149 ∧ AddFr B bw w W7 ∧ w.heap.size < W7.heap.size ∧ B ≤ W7.heap.size ∧ PlP W7 W8 (s.m f t) (fp f t) doc gp cp ([] ++ [.int .i64 doc, .slice none 0 0]) ([] ++ [⟨doc, []⟩]) gps8 ([] : List Pst).length ⟨doc, []⟩ q ca) := ⟨W7, vo7, none, 0, HH7.out, HS7.out, HFR7.out, hs7, hB7, by rw [hps, hfp0]; exact hpl⟩
      have hats : (⟨doc, []⟩ : Pst).ats.length ≤ N + 1 := Nat.zero_le _
      have hlens : ([] ++ [(⟨doc, []⟩ : Pst)]).length ≤ N + 2 := by simp
      clear hown8 hgrow8 hnn8 hat8 hpl HG0 hvn hps hfp0 HH6 HS6 HFR6 hsz6 hfpB hi hz0 hz1 hz2 HH7 HS7 HFR7
      generalize ([] : List Value) ++ [.int .i64 doc, .slice none 0 0] = ys8 at *
      generalize (⟨doc, []⟩ : Pst) = p8 at *
      generalize ([] : List Pst).length = n8 at *
      generalize ([] : List Pst) ++ [p8] = ps8 at *
    rotate_left
    focus
      have hlnz : (s.m f t).length ≠ 0 := by
        intro h
        exact hps (List.eq_nil_of_length_eq_zero h)
      have hpos : 0 < (s.m f t).length := by omega
      have hln0 : (((s.m f t).length : Int) == 0) = false := by simp; omega
      obtain ⟨gp, cp, ys, gps, n, p, q, ca, hv, hg, hfx, hn, hp, hy, ha, hgn⟩ := pst_last (HZ.out t) hps
      rw [hpv] at hv
      cases hv
      have hnl : n < (s.m f t).length := by omega
      have d0 : W6.cell? ⟨gp, n * 2, none⟩ = some (.int .i64 p.doc) := by have h := grp_cell hg.row hnl (j := 0) (by decide) (by show (grp ys 2 n)[0]? = _; rw [hy]; rfl); rw [Nat.zero_add] at h; exact h
      have hlast : (((s.m f t).length : Int) - 1) = (n : Int) := by omega
      have hnI : (n : Int) < ((s.m f t).length : Int) := by omega
      have HG6 : Hid (GRow pstEl W6 0 (.slice (some ⟨gp, 0, none⟩) (s.m f t).length cv) ys (s.m f t) gps) := hg
      have HHO : Hid (AddS W6 B bw b0 ⟨s.m, (s.add f t doc at').o⟩ (N + 1) ib2 vl fp vo) := ⟨HH6.out.wm.order _, HH6.out.bx, by rw [add_o, if_neg hps]; exact HH6.out.od⟩
      have HFX : Hid (fp f t = footOf (.slice (some ⟨gp, 0, none⟩) (s.m f t).length cv) gps (s.m f t).length) := hfx
      have HN1 : Hid (n + 1 = (s.m f t).length) := hn
      have HPN : Hid ((s.m f t)[n]? = some p) := hp
      have HEP : Hid (grp ys 2 n = [.int .i64 p.doc, .slice q p.ats.length ca]) := hy
      have HRA : Hid (W6.ownsRow 0 3 1 (.slice q p.ats.length ca) p.ats.length (p.ats.map (Value.int .i64))) := ha
      have HGN : Hid (gps n = (Value.ownBlock (.slice q p.ats.length ca)).toList) := hgn
      have HPS : Hid (s.m f t ≠ []) := hps
      have HSZ : Hid ((s.m f t).length ≤ N + 1 ∧ ∀ p ∈ s.m f t, p.ats.length ≤ N + 1) := hsz6
      have hpb : (s.m f t).length ≤ 4194304 := by have := hsz6.1; omega
      clear hg hfx hn hp hy ha hgn hps hsz6 hpv HH6 HZ hfpB
      rcases Classical.em (p.doc = doc) with hd | hd
      focus
        have HPL : Hid (∃ W7 vo7 q ca, AddS W7 B bw b0 ⟨s.m, (s.add f t doc at').o⟩ (N + 1) ib2 vl fp vo7 ∧ Blk W7 w.heap.size #[.string f, .string t] 149 ∧ AddFr B bw w W7 ∧ w.heap.size < W7.heap.size ∧ B ≤ W7.heap.size ∧ PlP W7 W6 (s.m f t) (fp f t) doc gp cv ys (s.m f t) gps n p q ca) := ⟨W6, vo, q, ca, HHO.out, HS6.out, HFR6.out, hs6, hmB, HG6.out, HN1.out, HPN.out, hd, HEP.out, HRA.out, HGN.out, Tch.refl _ _, fun b hb => .inl (by rw [HFX.out]; exact hb), fun at' => by rw [← hd]; exact (postAdd_same HN1.out HPN.out at').symm⟩
        have hats : p.ats.length ≤ N + 1 := HSZ.out.2 p (List.mem_of_getElem? HPN.out)
        have hlens : (s.m f t).length ≤ N + 2 := by have := HSZ.out.1; omega
        clear HG6 HHO HFX HN1 HPN HEP HRA HGN HPS HSZ HS6 HFR6 hd d0 hlast hnI hnl hlnz hln0 hpos hpb
        obtain ⟨ps8, hps8⟩ : ∃ x, x = s.m f t := ⟨_, rfl⟩
        have HPL : Hid (∃ W7 vo7 q ca, AddS W7 B bw b0 ⟨s.m, (s.add f t doc at').o⟩ (N + 1) ib2 vl fp vo7 ∧ Blk W7 w.heap.size #[.string f, .string t] 149 ∧ AddFr B bw w W7 ∧ w.heap.size < W7.heap.size ∧ B ≤ W7.heap.size ∧ PlP W7 W6 (s.m f t) (fp f t) doc gp cv ys ps8 gps n p q ca) := by rw [hps8]; exact HPL
        rw [← hps8] at hlook hlens
        clear hmB hps8 q ca
        generalize W6 = W8 at *
        generalize cv = cp at *
        generalize ys = ys8 at *
        generalize gps = gps8 at *
        generalize n = n8 at *
        generalize p = p8 at *
      rotate_left
      focus
        have hdd : (p.doc == doc) = false := by simpa using hd
        obtain ⟨i0, hi, hz0, hz1, hz2⟩ := info_parts infoPst
        go_wp2_with (at_builtin; refine wpList_append_own_at _ rfl _ _ 61 rfl 0 107 i0 (.agg #[.int .i64 0, .slice none 0 0]) 2 32 Tryz.underlying61 hi hz0 hz1 hz2 rfl (by decide) _ _ _ rfl (HG6.out.row.alloc _) ⟨W6.heap.size, 0, none⟩ 1 1 [.int .i64 doc, .slice none 0 0] rfl rfl (cells_new _ _ _) (post_cells _ _ _ _) (by unfold maxLen; omega) (by omega) (Nat.zero_le _) ?_)
        intro v8 W8 hown8 hgrow8 hnn8 hat8
        have hl8 : ∀ at', postAdd (s.m f t) doc at' = s.m f t ++ [⟨doc, [at']⟩] := fun at' => postAdd_other HN1.out HPN.out hd at'
        obtain ⟨gp8, cp, gps8, rfl, hpl⟩ := plp_new HG6.out hl8 hown8 hgrow8 hat8
        have HPL : Hid (∃ W7 vo7 q ca, AddS W7 B bw b0 ⟨s.m, (s.add f t doc at').o⟩ (N + 1) ib2 vl fp vo7 ∧ Blk W7 w.heap.size #[.string f, .string t] 149 ∧ AddFr B bw w W7 ∧ w.heap.size < W7.heap.size ∧ B ≤ W7.heap.size ∧ PlP W7 W8 (s.m f t) (fp f t) doc gp8 cp (ys ++ [.int .i64 doc, .slice none 0 0]) (s.m f t ++ [⟨doc, []⟩]) gps8 (s.m f t).length ⟨doc, []⟩ q ca) := ⟨W6, vo, none, 0, HHO.out, HS6.out, HFR6.out, hs6, hmB, by rw [HFX.out]; exact hpl⟩
        have hats : (⟨doc, []⟩ : Pst).ats.length ≤ N + 1 := Nat.zero_le _
        have hlens : (s.m f t ++ [(⟨doc, []⟩ : Pst)]).length ≤ N + 2 := by rw [List.length_append]; have := HSZ.out.1; show _ + 1 ≤ _; omega
        clear hlook hs1 HG6 HHO HFX HN1 HPN HEP HRA HGN HPS HSZ HS6 HFR6 hd hlast hnI hnl hlnz hln0 hpos hpb hl8 hpl hown8 hgrow8 hnn8 hat8 d0 hdd hs6 hmB hi hz0 hz1 hz2
        generalize ys ++ [.int .i64 doc, .slice none 0 0] = ys8 at *
        generalize (⟨doc, []⟩ : Pst) = p8 at *
        generalize (s.m f t).length = n8 at *
        obtain ⟨ps8, hps8⟩ : ∃ x, x = s.m f t ++ [p8] := ⟨_, rfl⟩
        rw [← hps8] at HPL hlens
        rw [← hps8]
        clear hps8
        generalize gp8 = gp at *
    all_goals
      obtain ⟨W7, vo7, q, ca, HH7, HS7, HFR7, hs7, hB7, HPL⟩ := HPL.out
      have hn8 : n8 < ps8.length := by have := HPL.hn; omega
      have hlen8 : ps8.length ≤ 4194304 := by omega
      have hats8 : p8.ats.length ≤ 4194304 := by omega
      have hnz8 : ((ps8.length : Int) == 0) = false := beq_false_of_ne (by omega)
      have hpos8 : 0 < ps8.length := by omega
      have hlast8 : ((ps8.length : Int) - 1) = (n8 : Int) := by have := HPL.hn; omega
      have hnI8 : (n8 : Int) < (ps8.length : Int) := by omega
      have d0 : W8.cell? ⟨gp, n8 * 2, none⟩ = some (.int .i64 doc) := by have h := grp_cell HPL.g.row hn8 (j := 0) (by decide) (by show (grp ys8 2 n8)[0]? = _; rw [HPL.hy, HPL.hd]; rfl); rw [Nat.zero_add] at h; exact h
      have d1 : W8.cell? ⟨gp, n8 * 2 + 1, none⟩ = some (.slice q p8.ats.length ca) := by have h := grp_cell HPL.g.row hn8 (j := 1) (by decide) (by show (grp ys8 2 n8)[1]? = _; rw [HPL.hy]; rfl); rw [Nat.zero_add] at h; exact h
      obtain ⟨i0, hi, hz0, hz1, hz2⟩ := info_parts infoInt
      have HQ : Hid (PlP W7 W8 (s.m f t) (fp f t) doc gp cp ys8 ps8 gps8 n8 p8 q ca) := HPL
      have HH8 : Hid (AddS W7 B bw b0 ⟨s.m, (s.add f t doc at').o⟩ (N + 1) ib2 vl fp vo7) := HH7
      have HS8 : Hid (Blk W7 w.heap.size #[.string f, .string t] 149) := HS7
      have HFR8 : Hid (AddFr B bw w W7) := HFR7
      clear HPL HH7 HS7 HFR7
      go_wp2_with (at_builtin; refine wpList_append_own_at _ rfl _ _ 105 rfl 0 3 i0 (.int .i64 0) 1 8 Tryz.underlying105 hi hz0 hz1 hz2 rfl (by decide) _ _ _ rfl (HQ.out.ha.alloc _) ⟨W8.heap.size, 0, none⟩ 1 1 [.int .i64 at'] rfl rfl (cells_new _ _ _) (int_one _) (by unfold maxLen; omega) (by omega) (Nat.zero_le _) ?_)
      intro v' W9 hown9 hgrow9 hnn9 hat9
      obtain ⟨q', c', rfl, _⟩ := row_val hown9
      have hgl : gp < W8.heap.size := (HQ.out.g.row.lt gp rfl).2
      have hba : Below W8.heap.size W8 (W8.alloc (.cells #[.int .i64 at'] 3)) := (Below.refl _ _).alloc (Nat.le_refl _) _
      obtain ⟨hG3, hnew3, hT3⟩ := HQ.out.g.place (Nat.zero_le _) HQ.out.hp HQ.out.hy hba hown9 hgrow9 (by rw [show (W8.alloc (.cells #[.int .i64 at'] 3)).heap.size = W8.heap.size + 1 from by simp]; exact hat9)
      have hgpa : gp ∉ gps8 n8 := fun hm => HQ.out.g.apart gp rfl (mem_feet.2 ⟨n8, hn8, hm⟩)
      have hqg : Value.ownBlock (.slice q p8.ats.length ca) ≠ some gp := fun e => hgpa (by rw [HQ.out.hg, e]; simp)
      have e9 : W9.heap[gp]? = W8.heap[gp]? := (hgrow9.block gp (by simp; omega) (fun e => hqg e.symm)).trans (hba.block gp hgl)
      have d2 : W9.cell? ⟨gp, n8 * 2 + 1, none⟩ = some (.slice q p8.ats.length ca) := (World.cell?_of_block e9).trans d1
      have hfz : W9.frozen? ⟨gp, n8 * 2 + 1, none⟩ = false := (World.frozen?_of_block e9).trans (HQ.out.g.row.frozenAt (n8 * 2 + 1))
      have HT : Hid (Tch (fp f t) W7 (W9.setCell ⟨gp, n8 * 2 + 1, none⟩ (.slice q' (p8.ats.length + 1) c'))) := HQ.out.tch.then hT3 HQ.out.sub
      have HSL : Hid (SlOwn pstEl (W9.setCell ⟨gp, n8 * 2 + 1, none⟩ (.slice q' (p8.ats.length + 1) c')) (.slice (some ⟨gp, 0, none⟩) ps8.length cp) (postAdd (s.m f t) doc at') (footOf (.slice (some ⟨gp, 0, none⟩) ps8.length cp) (fun i => if i = n8 then (Value.ownBlock (.slice q' (p8.ats.length + 1) c')).toList else gps8 i) ps8.length)) := by
        unfold Hid
        rw [← HQ.out.pa at']
        have hl : (ps8.set n8 ⟨p8.doc, p8.ats ++ [at']⟩).length = ps8.length := List.length_set
        refine ⟨_, _, hG3, ?_⟩
        rw [hl]
      obtain ⟨W11, hrun, hfr, had⟩ := add_done HH8.out hB7 HIB.out hmN hmt HT.out HSL.out (fun b hb => by
        rcases footOf_if (fps := gps8) (m := ps8.length) (Nat.le_refl _) (fun b hb => by
          rcases hnew3 b hb with h1 | h1
          · exact .inl (feet_sub hn8 b h1)
          · exact .inr h1) b hb with h1 | h1
        · exact HQ.out.sub b h1
        · exact .inr (by have := HQ.out.tch.size; omega))
      have HFIN : Hid (AddA B bw b0 (s.add f t doc at') (N + 2) w W11 (.returned (.tuple #[]))) := ⟨rfl, had, HFR8.out.trans hfr⟩
      have HS10 : Blk (W9.setCell ⟨gp, n8 * 2 + 1, none⟩ (.slice q' (p8.ats.length + 1) c')) w.heap.size #[.string f, .string t] 149 := (HT.out.2 _ hs7 ((HH8.out.wm.el f t).1.notin HS8.out (by decide) (by decide))).trans HS8.out
      have hs1 := HS10.cell 1
      simp at hs1
      clear hG3 hnew3 hT3 HSL HT HQ HH8 HS8 HS10 HFR8 HIB hown9 hgrow9 hnn9 hat9 hba hgpa hqg e9 d1 had hfr
      go_wp2
      go_end0
      exact HFIN.out
end Go.Proofs.YtbifagdcnpnpjaaGreat
