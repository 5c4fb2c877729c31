/- impl.Mark. -/
import Derived.Test.YtefdbcalfaojgaaMarkT
import Derived.Test.YtefdbcalfaojgaaIterLawP
import Derived.Test.YtefdbcalfaojgaaStillTailIn
namespace Go.Proofs.Ytefdbcalfaojgaa
open Go.RowKit Go.Shelf
set_option linter.unusedVariables false
attribute [local go_sem] Oper.semAt_some

/-- What the call holds between two words. -/
structure MkI (w : World) (s : ByteArray) (a : Option Addr) (cap : Nat) (ts : List ByteArray) (pre : List (Nat × Nat)) (W : World) : Prop where
  bs : Boxed W w.heap.size 9 (.string s)
  bt : Boxed W (w.heap.size + 1) 23 (.slice a ts.length cap)
  bd : Boxed W (w.heap.size + 1 + 1 + 1) 3 (.int .i64 ((mk s ts pre.length).2 : Nat))
  bn : Boxed W (w.heap.size + 1 + 1 + 1 + 1) 9 (.string s)
  bl : Lib.IsBuilderF 42 5 (w.heap.size + 1 + 1) (w.heap.size + 1 + 1) (Lib.byteCells (mk s ts pre.length).1.data.toList) W
  be : Below w.heap.size w W
theorem boxed_kept {W W' : World} {row : Option Nat} {B : Nat} {t : TypeId} {v : Value} (h : Boxed W B t v) (hg : W.grownBy W' row) (hr : ∀ r, row = some r → ∃ o : Obj, W.heap[r]? = some o ∧ o.isCells = false) : Boxed W' B t v :=
  h.kept hg (fun e => by obtain ⟨o, ho, hc⟩ := hr B e.symm; rw [show W.heap[B]? = _ from h] at ho; cases ho; cases hc)
theorem boxed_others {W W' : World} {b B : Nat} {t : TypeId} {v : Value} (h : Boxed W B t v) (ho : Lib.OthersKept 5 (some b) W W') (hne : B ≠ b) (ht : t ≠ 5) : Boxed W' B t v :=
  ho B _ h (fun e => hne (Option.some.inj e)) (fun c fz e => by cases e; exact ht rfl)
theorem keeps_others {W W' : World} {b B : Nat} (hb : Below B W W') (ho : Lib.OthersKept 5 (some b) W W') (hlt : ∀ o, W.heap[b]? = some o → o.isCells = true) : KeepsOthers W W' :=
  ⟨hb.size, fun k o hk hc => ho k o hk (fun e => by have := hlt o (by rw [← Option.some.inj e]; exact hk); rw [hc] at this; cases this) (fun c fz e => by subst e; cases hc)⟩
theorem mkI_own (w : World) (s : ByteArray) (a : Option Addr) (cap : Nat) (ts : List ByteArray) (B : Nat) (hB : w.heap.size ≤ B) : OwnFrom B (MkI w s a cap ts) := fun pre W W' row h hg hr =>
  { bs := boxed_kept h.bs hg (fun r e => (hr r e).2)
    bt := boxed_kept h.bt hg (fun r e => (hr r e).2)
    bd := boxed_kept h.bd hg (fun r e => (hr r e).2)
    bn := boxed_kept h.bn hg (fun r e => (hr r e).2)
    bl := isBuilder_own h.bl hg (fun r e => (hr r e).2)
    be := h.be.grown hg h.be.size (fun r e => by have := (hr r e).1; omega) }

theorem isB_drew {T e : TypeId} {B b : Nat} {bs : List Value} {w : World} (h : Lib.IsBuilderF T e B b bs w) : Lib.IsBuilderF T e B b bs w.drew := h.elim (fun x => .inl x.drew) (fun x => .inr x.drew)
theorem builder_grown {T e : TypeId} {B b : Nat} {bs : List Value} {p : Value} {W W' : World} {row : Option Nat} (h : Lib.BuilderAtF T e B b p bs W) (hg : W.grownBy W' row) (hb : some b ≠ row) (hr : ∀ g, row = some g → ∀ c fz, W.heap[g]? ≠ some (.cells c e fz)) : Lib.BuilderAtF T e B b p bs W' := by
  have hlt := h.lt
  obtain ⟨hB, v, hbk, hown, hne⟩ := h
  refine ⟨hB, v, (hg.block b hlt hb).trans hbk, hown.kept hg ?_, hne⟩
  rcases hown.2 with hn | ⟨g, c, cur, fz, hv, hbg, hgb, rest⟩
  · left; rw [hn.1]; rfl
  · right
    intro e'
    rw [hv] at e'
    exact hr g (by rw [← e']; rfl) _ _ hgb
/-- Behind a word that is marked. -/
theorem mk_round {w : World} {s : ByteArray} {a : Option Addr} {cap : Nat} {ts : List ByteArray} {pre : List (Nat × Nat)} {x : Nat × Nat} {V V2 V3 : World} {L : Nat} (hL : w.heap.size ≤ L)
    (hi : MkI w s a cap ts pre V) (hb2 : Below V.heap.size V V2) (hx : wat (wordsOn s 0) pre.length = x) (hs : sAt s ts pre.length = true)
    (hI : Lib.BuilderAtF 42 5 (w.heap.size + 1 + 1) (w.heap.size + 1 + 1) (.pointer (some ⟨w.heap.size + 1 + 1, 0, none⟩)) (Lib.byteCells (mk s ts pre.length).1.data.toList ++ Lib.strCells (s.extract (mk s ts pre.length).2 x.1 ++ openS ++ s.extract x.1 x.2 ++ shutS)) V3)
    (hb3 : Below (w.heap.size + 1 + 1) V2 V3) (ho : Lib.OthersKept 5 (some (w.heap.size + 1 + 1)) V2 V3) :
    KeepsFrom L V (V3.setCell ⟨w.heap.size + 1 + 1 + 1, 0, none⟩ (.int .i64 (x.2 : Nat))) ∧ True ∧ MkI w s a cap ts (pre ++ [x]) (V3.setCell ⟨w.heap.size + 1 + 1 + 1, 0, none⟩ (.int .i64 (x.2 : Nat))) := by
  have hi2 : MkI w s a cap ts pre V2 := ownFrom_below' (mkI_own w s a cap ts w.heap.size (Nat.le_refl _)) pre V V2 hi hb2
  have hd3 : Boxed V3 (w.heap.size + 1 + 1 + 1) 3 (.int .i64 ((mk s ts pre.length).2 : Nat)) := boxed_others hi2.bd ho (by omega) (by decide)
  have hbl2 : ∀ o, V2.heap[w.heap.size + 1 + 1]? = some o → o.isCells = true := fun o h => by
    rcases hi2.bl with ⟨_, v, hb, _⟩ | ⟨_, v, hb, _⟩ <;> (rw [hb] at h; cases h; rfl)
  have hlen : (pre ++ [x]).length = pre.length + 1 := by simp
  have hmk := mk_yes s ts pre.length hs
  rw [hx] at hmk
  refine ⟨?_, trivial, ?_⟩
  · exact (keepsFrom_below hb2).trans (((keeps_others hb3 ho hbl2).trans (KeepsOthers.setCell _ _ _)).from _)
  · refine { bs := (boxed_others hi2.bs ho (by omega) (by decide)).other (by omega) _, bt := (boxed_others hi2.bt ho (by omega) (by decide)).other (by omega) _, bd := ?_, bn := (boxed_others hi2.bn ho (by omega) (by decide)).other (by omega) _, bl := ?_, be := (hi2.be.trans (hb3.mono (by omega))).setCell (by show w.heap.size ≤ w.heap.size + 1 + 1 + 1; omega) _ }
    · rw [hlen, hmk]
      exact hd3.set _
    · rw [hlen, hmk]
      have h3 : Lib.BuilderAtF 42 5 (w.heap.size + 1 + 1) (w.heap.size + 1 + 1) (.pointer (some ⟨w.heap.size + 1 + 1, 0, none⟩)) (Lib.byteCells ((mk s ts pre.length).1 ++ (s.extract (mk s ts pre.length).2 x.1 ++ openS ++ s.extract x.1 x.2 ++ shutS)).data.toList) V3 := by
        rw [ByteArray.data_append, Array.toList_append, Lib.byteCells_append, ← Lib.strCells_eq (_ ++ shutS)]
        exact hI
      exact .inr (builder_grown h3 (grownBy_setCell' V3 (w.heap.size + 1 + 1 + 1) (.int .i64 (x.2 : Nat))) (fun e => by have := Option.some.inj e; omega) (fun g e c fz h => by
        cases e
        rw [show V3.heap[w.heap.size + 1 + 1 + 1]? = _ from hd3] at h
        cases h))

/-- What stands behind the writing of a mark. -/
def MkFin (w : World) (L : Nat) (s : ByteArray) (a : Option Addr) (cap : Nat) (ts : List ByteArray) (pre : List (Nat × Nat)) (V : World) (Bx xf xt d : Nat) (V3 : World) : Prop :=
  (KeepsFrom L V (V3.setCell ⟨w.heap.size + 1 + 1 + 1, 0, none⟩ (.int .i64 (xt : Nat))) ∧ True ∧ MkI w s a cap ts (pre ++ [(xf, xt)]) (V3.setCell ⟨w.heap.size + 1 + 1 + 1, 0, none⟩ (.int .i64 (xt : Nat)))) ∧ V3.cell? ⟨Bx, 2, none⟩ = some (.int .i64 (xt : Nat)) ∧ V3.cell? ⟨w.heap.size + 1 + 1 + 1, 0, none⟩ = some (.int .i64 (d : Nat)) ∧ V3.frozen? ⟨w.heap.size + 1 + 1 + 1, 0, none⟩ = false

set_option maxRecDepth 100000 in
set_option maxHeartbeats 20000000 in
theorem markI_any (a : Option Addr) (cap : Nat) (s : ByteArray) (ts : List ByteArray) (w : World) (hs : s.size ≤ 1048576) (hl : ts.length ≤ 1048576) (hr : StrRow w a ts) :
    Calls Try.prog 7 #[.string s, .slice a ts.length cap] w fun e w' => e = .returned (.string (markB s ts)) ∧ Below w.heap.size w w' := by
  have hms : s.size ≤ maxLen := by unfold maxLen; omega
  refine (callsIn_wide (n := 4)).1 ?_
  refine callsIn_of_wp_marks Try.func7 rfl trivial ?_ rfl
  simp only [Try.ntmps7, List.size_toArray, List.length_cons, List.length_nil, Nat.reduceAdd, Nat.reduceSub, Array.replicate_succ, Array.replicate_zero, List.push_toArray, List.append_toArray, List.nil_append, List.cons_append]
  cases h1 : textB s with
  | false =>
    have HF : Hid (markB s ts = ⟨#[]⟩) := by unfold Hid markB; rw [h1]; rfl
    clear hr
    gi_wp2_with (refine ⟨trivial, ?_⟩; gi_at_call 19; refine (callsIn_wide.2 (textOk_any s _ hms)).mono ?_; rintro e _ ⟨rfl, rfl⟩; rw [h1])
    refine ⟨_, results_tmp rfl _ _ _, ?_, ?_⟩
    · exact ret_string HF.out.symm
    · exact ((Below.refl _ w).alloc (Nat.le_refl _) _).alloc (by simp) _
  | true =>
    have HF : Hid (markB s ts = markA s ts) := by unfold Hid markB; rw [h1]; rfl
    gi_wp2_with (first | (refine ⟨trivial, ?_⟩; gi_at_call 19; refine (callsIn_wide.2 (textOk_any s _ hms)).mono ?_; rintro e _ ⟨rfl, rfl⟩; rw [h1]) | (refine ⟨trivial, ?_⟩; gi_at_call 20; refine (callsIn_wide.2 (eachWord_any s _)).mono ?_; rintro e _ ⟨rfl, rfl⟩))
    have I0 : MkI w s a cap ts [] (((((w.alloc (.cells #[.string s] 9)).alloc (.cells #[.slice a ts.length cap] 23)).alloc (.cells #[.pointer none, .slice none 0 0] 42)).alloc (.cells #[.int .i64 0] 3)).alloc (.cells #[.string s] 9)) :=
      { bs := ((((Boxed.new w 9 (.string s)).alloc _).alloc _).alloc _).alloc _
        bt := by
          have := ((((Boxed.new (w.alloc (.cells #[.string s] 9)) 23 (.slice a ts.length cap)).alloc (.cells #[.pointer none, .slice none 0 0] 42)).alloc (.cells #[.int .i64 0] 3)).alloc (.cells #[.string s] 9))
          simpa using this
        bd := by
          have := (Boxed.new (((w.alloc (.cells #[.string s] 9)).alloc (.cells #[.slice a ts.length cap] 23)).alloc (.cells #[.pointer none, .slice none 0 0] 42)) 3 (.int .i64 0)).alloc (.cells #[.string s] 9)
          simp only [World.size_alloc] at this
          exact this
        bn := by
          have := Boxed.new ((((w.alloc (.cells #[.string s] 9)).alloc (.cells #[.slice a ts.length cap] 23)).alloc (.cells #[.pointer none, .slice none 0 0] 42)).alloc (.cells #[.int .i64 0] 3)) 9 (.string s)
          simpa using this
        bl := by
          have := ((Lib.IsBuilderF.of (Lib.fresh_isBuilder 42 5 ((w.alloc (.cells #[.string s] 9)).alloc (.cells #[.slice a ts.length cap] 23)))).alloc (.cells #[.int .i64 0] 3)).alloc (.cells #[.string s] 9)
          simp only [World.size_alloc] at this
          exact this
        be := (((((Below.refl _ w).alloc (Nat.le_refl _) _).alloc (by simp) _).alloc (by simp; omega) _).alloc (by simp; omega) _).alloc (by simp; omega) _ }
    have hsz0 : (((((w.alloc (.cells #[.string s] 9)).alloc (.cells #[.slice a ts.length cap] 23)).alloc (.cells #[.pointer none, .slice none 0 0] 42)).alloc (.cells #[.int .i64 0] 3)).alloc (.cells #[.string s] 9)).heap.size = w.heap.size + 5 := by simp
    obtain ⟨W0, hW0⟩ : ∃ W0, (((((w.alloc (.cells #[.string s] 9)).alloc (.cells #[.slice a ts.length cap] 23)).alloc (.cells #[.pointer none, .slice none 0 0] 42)).alloc (.cells #[.int .i64 0] 3)).alloc (.cells #[.string s] 9)) = W0 := ⟨_, rfl⟩
    rw [hW0] at I0 hsz0 ⊢
    clear hW0
    have hI : OwnFrom W0.heap.size (MkI w s a cap ts) := mkI_own w s a cap ts _ (by omega)
    have HR : Hid (StrRow w a ts) := hr
    clear hr
    refine rangeAllP (fun pre x => (pre ++ [x]) <+: wordsOn s 0) (W0.heap.size) (n := 4) (encs := fun x => #[wordVal s x]) (Kp := fun _ _ => True) rfl (enters_of Try.func37 (by kernel_rfl) rfl) (wordsOn s 0) _ hI
      (fun _ _ => trivial) (fun _ _ _ _ _ => trivial) (fun _ => rfl)
      (fun r V hb hVs hY2 hk => each1_j 3 (by omega) (W0.heap.size + 1) (w.heap.size + 1 + 1 + 1 + 1) s hs _ V (ownFrom_below' (ownFrom_kept hI (by omega) : OwnFrom V.heap.size _)) (fun pre A h => h.1.bn.cell) (fun pre x W1 h hl => ?hyy) hk)
      I0
      (fun x a' V => ∃ Bx, W0.heap.size ≤ Bx ∧ Word3 V Bx s x ∧ a' = { tmps := #[.string s, .slice a ts.length cap, .pointer (some ⟨w.heap.size, 0, none⟩), .pointer (some ⟨w.heap.size + 1, 0, none⟩), .string ⟨#[]⟩, .pointer (some ⟨w.heap.size + 1 + 1, 0, none⟩), .pointer (some ⟨w.heap.size + 1 + 1 + 1, 0, none⟩), .pointer (some ⟨Bx, 0, none⟩), .string s, .bool true, .bool false, .string s, .func (.func 37) #[] #[.pointer (some ⟨w.heap.size + 1 + 1 + 1 + 1, 0, none⟩)], wordVal s x, undef, undef, undef, undef, undef, undef, undef, undef, undef, undef, undef, undef, undef, undef, undef, undef, undef, undef, undef, undef, undef], defers := [] })
      (fun x a' _ X Y row hs hg hr => by obtain ⟨Bx, h1, h2, h3⟩ := hs; exact ⟨Bx, h1, word3_own Bx s x X Y row h2 hg (fun r e => (hr r e).2), h3⟩)
      ?assign ?body ?done
    case hyy =>
      obtain ⟨fn, tmps, assign, body, hy, hR⟩ := hY2 pre x W1 h (by have := (Array.getElem?_eq_some_iff.1 h.2.1).1; omega) hl
      exact ⟨fn, tmps, assign, body, hy, hR.mono fun e W' h => ⟨h.1, h.2.1⟩⟩
    case assign =>
      rintro l2 pre x V K hi hm hK
      simp only [wordVal]
      gi_wp2
      exact hK _ _ ((KeepsOthers.alloc _ _).from _) trivial (hI.alloc _ hi) ⟨V.heap.size, hm, heap_alloc_new V _, rfl⟩
    case body =>
      rintro l2 pre x a' V hl hi ⟨Bx, hBx, bX, rfl⟩ hm hpf
      have hlen : pre.length < (wordsOn s 0).length := by have := hpf.length_le; rw [List.length_append, List.length_singleton] at this; omega
      have hxk : wat (wordsOn s 0) pre.length = x := by
        rw [wat_get _ _ hlen]
        have := hpf.getElem (i := pre.length) (by simp)
        rw [← this]
        simp
      have hwb := wat_bd s pre.length hlen
      have hat := mk_at s ts pre.length (by omega)
      have hat2 := hat.2 hlen
      have hN := wordsOn_len s s.size 0 (by omega)
      have hmz := mk_size s ts pre.length
      have HSA : Hid (sAt s ts pre.length = soughtB ts (s.extract x.1 x.2)) := by unfold Hid sAt; rw [hxk]
      rw [hxk] at hwb hat2
      have cS := hi.bs.cell
      have cT := hi.bt.cell
      have x0 := bX.c0
      have x1 := bX.c1
      have x2 := bX.c2
      have hBl : Bx < V.heap.size := (Array.getElem?_eq_some_iff.1 (show V.heap[Bx]? = _ from bX)).1
      have r1 := HR.out.below hi.be
      have hex : (s.extract x.1 x.2).size ≤ maxLen := by rw [ByteArray.size_extract]; unfold maxLen; omega
      have HI : Hid (MkI w s a cap ts pre V) := hi
      have HX : Hid (Word3 V Bx s x) := bX
      simp only [wordVal]
      clear bX hi
      cases hb : soughtB ts (s.extract x.1 x.2) with
      | false =>
        have HMN : Hid (mk s ts (pre ++ [x]).length = mk s ts pre.length) := by unfold Hid; rw [List.length_append, List.length_singleton]; exact mk_no s ts _ (by rw [HSA.out, hb])
        gi_wp2_with (refine ⟨trivial, ?_⟩; gi_at_call 21; refine (CallsIn.inRound l2 (callsIn_wide.2 (isSought_any a cap ts _ _ _ _ (by omega) hex r1))).mono ?_; rintro e V2 ⟨rfl, hb2⟩; rw [hb])
        have hi2 := ownFrom_below' hI pre V V2 HI.out hb2
        exact ⟨keepsFrom_below hb2, trivial, { bs := hi2.bs, bt := hi2.bt, bd := by rw [HMN.out]; exact hi2.bd, bn := hi2.bn, bl := by rw [HMN.out]; exact hi2.bl, be := hi2.be }⟩
      | true =>
        gi_wp2_with (refine ⟨trivial, ?_⟩; gi_at_call 21; refine (CallsIn.inRound l2 (callsIn_wide.2 (isSought_any a cap ts _ _ _ _ (by omega) hex r1))).mono ?_; rintro e V2 ⟨rfl, hb2⟩; rw [hb])
        have hi2 := ownFrom_below' hI pre V V2 HI.out hb2
        have hX2 : Word3 V2 Bx s x := (hb2.block Bx hBl).trans HX.out
        have cS2 := hi2.bs.cell
        have cD2 := hi2.bd.cell
        have fD2 := hi2.bd.frozen
        have y0 := hX2.c0
        have y1 := hX2.c1
        have y2 := hX2.c2
        have hBl2 : Bx < V2.heap.size := by have := hb2.size; omega
        have HBI : Hid (Lib.IsBuilderF 42 5 (w.heap.size + 1 + 1) (w.heap.size + 1 + 1) (Lib.byteCells (mk s ts pre.length).1.data.toList) V2) := hi2.bl
        have HRD : Hid (∀ V3, Lib.BuilderAtF 42 5 (w.heap.size + 1 + 1) (w.heap.size + 1 + 1) (.pointer (some ⟨w.heap.size + 1 + 1, 0, none⟩)) (Lib.byteCells (mk s ts pre.length).1.data.toList ++ Lib.strCells (s.extract (mk s ts pre.length).2 x.1 ++ (⟨#[91]⟩ : ByteArray) ++ s.extract x.1 x.2 ++ (⟨#[93]⟩ : ByteArray))) V3 → Below (w.heap.size + 1 + 1) V2 V3 → Lib.OthersKept 5 (some (w.heap.size + 1 + 1)) V2 V3 →
          (KeepsFrom W0.heap.size V (V3.setCell ⟨w.heap.size + 1 + 1 + 1, 0, none⟩ (.int .i64 (x.2 : Nat))) ∧ True ∧ MkI w s a cap ts (pre ++ [x]) (V3.setCell ⟨w.heap.size + 1 + 1 + 1, 0, none⟩ (.int .i64 (x.2 : Nat)))) ∧ V3.cell? ⟨Bx, 2, none⟩ = some (.int .i64 (x.2 : Nat)) ∧ V3.cell? ⟨w.heap.size + 1 + 1 + 1, 0, none⟩ = some (.int .i64 ((mk s ts pre.length).2 : Nat)) ∧ V3.frozen? ⟨w.heap.size + 1 + 1 + 1, 0, none⟩ = false) := fun V3 h1 h2 h3 => by
            have hd3 := boxed_others hi2.bd h3 (by omega) (by decide)
            have hx3 : Word3 V3 Bx s x := h3 Bx _ hX2 (fun e => by have := Option.some.inj e; omega) (fun c fz e => by cases e)
            exact ⟨mk_round (by omega) HI.out hb2 hxk (by rw [HSA.out, hb]) h1 h2 h3, hx3.c2, hd3.cell, hd3.frozen⟩
        have hzz : (Lib.byteCells (mk s ts pre.length).1.data.toList).length ≤ (2 * s.size + 2) * pre.length := by rw [Lib.byteCells_length, ← Lib.size_eq]; exact hmz
        have hz2 : (2 * s.size + 2) * pre.length ≤ 4194304 * 1048576 := Nat.mul_le_mul (by omega) (by omega)
        have hmix : Try.prog.follows .mixedOrders = true := by kernel_rfl
        have hsz2 : w.heap.size + 1 + 1 ≤ V2.heap.size := by have := hi2.bl.elim (fun h => h.lt) (fun h => h.lt); omega
        obtain ⟨d, hd⟩ : ∃ d, d = (mk s ts pre.length).2 := ⟨_, rfl⟩
        rw [← hd] at cD2 hat2 HRD
        obtain ⟨o, ho⟩ : ∃ o, o = Lib.byteCells (mk s ts pre.length).1.data.toList := ⟨_, rfl⟩
        rw [← ho] at HBI hzz HRD
        obtain ⟨xf, xt⟩ := x
        simp only at hwb hat2 x0 x1 x2 y0 y1 y2 HRD hex
        have i1 : (d : Int) ≤ (xf : Int) := by omega
        have i2 : (xf : Int) ≤ (s.size : Int) := by omega
        have hst : (s.extract d xf ++ openS ++ s.extract xf xt ++ shutS).size ≤ 4194304 := by
          rw [ByteArray.size_append, ByteArray.size_append, ByteArray.size_append, ByteArray.size_extract, ByteArray.size_extract]
          show _ + 1 + _ + 1 ≤ _
          omega
        have hzo : o.length + (s.extract d xf ++ (⟨#[91]⟩ : ByteArray) ++ s.extract xf xt ++ (⟨#[93]⟩ : ByteArray)).size ≤ 140737488355328 := by
          have h1 := Nat.le_trans hzz hz2
          have h2 : (s.extract d xf ++ (⟨#[91]⟩ : ByteArray) ++ s.extract xf xt ++ (⟨#[93]⟩ : ByteArray)).size ≤ 4194304 := hst
          omega
        have HBD : Hid (Lib.IsBuilderF 42 5 (w.heap.size + 1 + 1) (w.heap.size + 1 + 1) o V2.drew) := isB_drew HBI.out
        have hszd : w.heap.size + 1 + 1 ≤ V2.drew.heap.size := hsz2
        clear hzz hz2 hst HBI
        have k1 : (s.extract d xf).size ≤ 1048576 := by rw [ByteArray.size_extract]; omega
        have k2 : (s.extract xf xt).size ≤ 1048576 := by rw [ByteArray.size_extract]; omega
        have HWS : Hid (CallsIn (Fence.wide.inRound l2) 1 Try.prog 22 #[.pointer (some ⟨w.heap.size + 1 + 1, 0, none⟩), .string (s.extract d xf ++ (⟨#[91]⟩ : ByteArray) ++ s.extract xf xt ++ (⟨#[93]⟩ : ByteArray))] V2.drew fun e V3 => (∃ n : Int, e = .returned (.tuple #[.int .i64 n, .nilIface])) ∧ MkFin w W0.heap.size s a cap ts pre V Bx xf xt d V3) := by
          refine (CallsIn.inRound l2 (callsIn_wide.2 (Try.Builder_WriteString_k (w.heap.size + 1 + 1) (w.heap.size + 1 + 1) o (s.extract d xf ++ (⟨#[91]⟩ : ByteArray) ++ s.extract xf xt ++ (⟨#[93]⟩ : ByteArray)) V2.drew HBD.out hzo hszd))).mono ?_
          rintro e V3 ⟨rfl, h1, h2d, h3d⟩
          exact ⟨⟨_, rfl⟩, HRD.out V3 h1 ⟨h2d.os, h2d.tape, h2d.output, h2d.size, h2d.block⟩ h3d⟩
        clear hi2 hX2 hd ho hat HI HX cS cT x0 x1 x2 r1 HRD HBD hzo hlen hpf hxk hN hex hszd hsz2 hBl2 hBl HSA hb2 hm hl hBx HF hI HR I0 hmz
        obtain ⟨e1, he1⟩ : ∃ e, s.extract d xf = e := ⟨_, rfl⟩
        rw [he1] at HWS k1
        generalize s.extract xf xt = e2 at *
        have n1 : ¬ (9223372036854775807 < e1.size + 1) := by omega
        have n2 : ¬ (9223372036854775807 < e1.size + 1 + e2.size) := by omega
        have n3 : ¬ (9223372036854775807 < e1.size + 1 + e2.size + 1) := by omega
        gi_wp2
        refine wpIn_region_still_tail 10 hmix (by kernel_rfl) (by kernel_rfl) ?_
        simp only [List.take_succ_cons, List.take_zero, List.drop_succ_cons, List.drop_zero]
        repeat still_step
        refine wpStill_nil ?_
        gi_wp2_with (refine ⟨trivial, ?_⟩; gi_at_call 22; refine HWS.out.mono ?_; rintro e V3 ⟨⟨nn, rfl⟩, hfin, z1, z2, z3⟩)
        exact hfin
    case done =>
      rintro D V hD hi hK
      have hat := mk_at s ts (wordsOn s 0).length (Nat.le_refl _)
      have hmz := mk_size s ts (wordsOn s 0).length
      have hN := wordsOn_len s s.size 0 (by omega)
      have hz2 : (2 * s.size + 2) * (wordsOn s 0).length ≤ 4194304 * 1048576 := Nat.mul_le_mul (by omega) (by omega)
      have hzo := Nat.le_trans hmz hz2
      have cS := hi.bs.cell
      have cD := hi.bd.cell
      have HBI : Hid (Lib.IsBuilderF 42 5 (w.heap.size + 1 + 1) (w.heap.size + 1 + 1) (Lib.byteCells (mk s ts (wordsOn s 0).length).1.data.toList) V) := hi.bl
      have hDne : w.heap.size + 1 + 1 ≠ D := by omega
      have hszV : w.heap.size + 1 + 1 ≤ V.heap.size := by have := hi.bl.elim (fun h => h.lt) (fun h => h.lt); omega
      have HBE : Hid (Below w.heap.size w V) := hi.be
      have HFA : Hid (markA s ts = (mk s ts (wordsOn s 0).length).1 ++ s.extract (mk s ts (wordsOn s 0).length).2 s.size) := rfl
      have hatd := hat.1
      clear hi hmz hz2 hat
      generalize mk s ts (wordsOn s 0).length = m at *
      obtain ⟨o, d⟩ := m
      simp only at cD HBI HFA hatd hzo
      have i1 : (d : Int) ≤ (s.size : Int) := by omega
      have hol : (Lib.byteCells o.data.toList).length + (s.extract d s.size).size ≤ 140737488355328 := by rw [Lib.byteCells_length, ← Lib.size_eq, ByteArray.size_extract]; omega
      have HW1 : Hid (CallsIn Fence.wide 3 Try.prog 22 #[.pointer (some ⟨w.heap.size + 1 + 1, 0, none⟩), .string (s.extract d s.size)] V fun e V3 => (∃ n : Int, e = .returned (.tuple #[.int .i64 n, .nilIface])) ∧
          Lib.IsBuilderF 42 5 (w.heap.size + 1 + 1) (w.heap.size + 1 + 1) (Lib.byteCells (o ++ s.extract d s.size).data.toList) V3 ∧ V3.heap[D]? = some (.deferred (some [])) ∧ Below (w.heap.size + 1 + 1) V V3) := by
        refine (callsIn_wide.2 (Try.Builder_WriteString_k (w.heap.size + 1 + 1) (w.heap.size + 1 + 1) _ (s.extract d s.size) V HBI.out hol hszV)).mono ?_
        rintro e V3 ⟨rfl, h1, h2, h3⟩
        refine ⟨⟨_, rfl⟩, .inr ?_, h3 D _ hK (fun e => hDne (Option.some.inj e).symm) (fun c fz e => by cases e), h2⟩
        rw [ByteArray.data_append, Array.toList_append, Lib.byteCells_append, ← Lib.strCells_eq (s.extract d s.size)]
        exact h1
      clear HBI
      gi_wp2_with (refine ⟨trivial, ?_⟩; gi_at_call 22; refine HW1.out.mono ?_; rintro e V3 ⟨⟨nn, rfl⟩, hI3, hK3, hb3⟩)
      have hsz3 : w.heap.size + 1 + 1 ≤ V3.heap.size := by have := hb3.size; omega
      refine ⟨trivial, ?_⟩
      refine (callsIn_wide.2 (Try.Builder_String_any_k (w.heap.size + 1 + 1) (w.heap.size + 1 + 1) _ V3 hI3 hsz3)).mono ?_
      rintro e V4 ⟨rfl, _, hb4, ho4⟩
      have hK4 : V4.heap[D]? = some (.deferred (some [])) := ho4 D _ hK3 (fun e => hDne (Option.some.inj e).symm) (fun c fz e => by cases e)
      have HST : Hid ((⟨(o ++ s.extract d s.size).data.toList.toArray⟩ : ByteArray) = markB s ts) := by unfold Hid; rw [HF.out, HFA.out]
      have hbw : Below w.heap.size w V4 := HBE.out.trans ((hb3.trans hb4).mono (by omega))
      clear hI3 HW1 hol
      generalize (⟨(o ++ s.extract d s.size).data.toList.toArray⟩ : ByteArray) = st at *
      gi_wp2
      refine ⟨by simp, .inl ⟨_, _, rfl, run_takeDeferred hK4, ?_⟩⟩
      refine ⟨_, results_tmp rfl _ _ _, ?_, ?_⟩
      · exact ret_string HST.out
      · exact hbw.trans (below_put (by omega) V4 _)
end Go.Proofs.Ytefdbcalfaojgaa
