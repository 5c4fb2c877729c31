/- impl.eachTerm as an iterator over what all words are looked for as; slices.Collect over it; impl.Terms. -/
import Derived.Test.YtjkimadnopeakaaGreatDoorMg0FnExactMeets
import Derived.Test.YtjkimadnopeakaaGreatDoorIter
import Derived.Test.YtjkimadnopeakaaGreatDoorIterLaw
import Derived.Test.YtjkimadnopeakaaGreatDoorStem
import Derived.Shelf.RegionOpen
namespace Go.Proofs.YtjkimadnopeakaaGreatDoor
open Go.RowKit Go.Shelf
attribute [local go_sem] Oper.semAt_some

theorem ownFrom_mono {β : Type} {B B' : Nat} {I : β → World → Prop} (h : OwnFrom B I) (hB : B ≤ B') : OwnFrom B' I := fun s W W' row hs hg hr => h s W W' row hs hg (fun r e => ⟨Nat.le_trans hB (hr r e).1, (hr r e).2⟩)
def termVal (s : ByteArray) (x : Nat × Nat) : Value := .string (stemA (s.extract x.1 x.2))

/-- All words, for a body that never leaves. -/
theorem each1_all (n : Nat) (hn : 1 ≤ n) (l Bn n₀ : Nat) (s : ByteArray) (hs : s.size ≤ 1048576) (hBn : Bn < n₀) (J : List (Nat × Nat) → World → Prop)
    (W : World) (hn0 : n₀ ≤ W.heap.size) (hJ : ∀ pre A B, J pre A → Below A.heap.size A B → J pre B)
    (hY : ∀ pre x W, J pre W → pre.length < (wordsOn s 0).length → YieldAt Fence.wide (n - 1) Tryz.prog l #[wordVal s x] W fun e W' => e = .returned (.bool true) ∧ J (pre ++ [x]) W' ∧ Below n₀ W W')
    (hc : W.cell? ⟨Bn, 0, none⟩ = some (.string s)) (h0 : J [] W) :
    CallsIn Fence.wide n Tryz.prog 112 #[.func (.yield l) #[] #[], .pointer (some ⟨Bn, 0, none⟩)] W fun e W' => (∃ v, e = .returned v) ∧ J (wordsOn s 0) W' := by
  refine (each1_in n hn l Bn n₀ s hs hBn J (fun _ _ => False) W hn0 hJ (fun pre x W1 h hl => ?_) hc h0).mono ?_
  · obtain ⟨fn, tmps, assign, body, hy, hR⟩ := hY pre x W1 h hl
    exact ⟨fn, tmps, assign, body, hy, hR.mono fun e W' h => .inl h⟩
  · rintro e W' ⟨hv, ⟨ys, rfl, hj⟩ | ⟨_, _, h⟩⟩
    · exact ⟨hv, hj⟩
    · exact h.elim

/-- What a round leaves alone: all below n₀, whatever is no cells from B on, and block B. -/
structure Kq (n₀ B : Nat) (X Y : World) : Prop where
  below : Below n₀ X Y
  others : KeepsFrom B X Y
  box : Y.heap[B]? = X.heap[B]?
theorem Kq.trans {n₀ B : Nat} {X Y Z : World} (h : Kq n₀ B X Y) (k : Kq n₀ B Y Z) : Kq n₀ B X Z := ⟨h.below.trans k.below, h.others.trans k.others, k.box.trans h.box⟩
theorem keepsFrom_below {B : Nat} {X Y : World} (h : Below X.heap.size X Y) : KeepsFrom B X Y := ⟨h.size, fun k _ _ hk _ => (h.block k (Array.getElem?_eq_some_iff.1 hk).1).trans hk⟩
theorem keepsFrom_mono {B B' : Nat} {X Y : World} (h : KeepsFrom B X Y) (hB : B ≤ B') : KeepsFrom B' X Y := ⟨h.size, fun k _ hk => h.same k _ (by omega)⟩
theorem term_round {α : Type} {n₀ : Nat} {W W0 V V2 V3 : World} {t : TypeId} {y : Value} {J : List α → World → Prop} {pre : List α} (hb1 : Below n₀ W V) (bY1 : Boxed V W.heap.size t y) (hV : W.heap.size < V.heap.size) (hn0 : n₀ ≤ W.heap.size) (hsz : W0.heap.size = W.heap.size + 1)
    (hb2 : Below V.heap.size V V2) (hj3 : J pre V3) (hk3 : Kq n₀ W.heap.size V2 V3) :
    KeepsFrom W0.heap.size V V3 ∧ Below n₀ V V3 ∧ (J pre V3 ∧ Boxed V3 W.heap.size t y) ∧ Below n₀ W V3 := by
  have hb3 : Below n₀ V V3 := (hb2.mono (by omega)).trans hk3.below
  exact ⟨(keepsFrom_below hb2).trans (keepsFrom_mono hk3.others (by omega)), hb3, ⟨hj3, hk3.box.trans ((hb2.block _ hV).trans bY1)⟩, hb1.trans hb3⟩

set_option maxRecDepth 100000 in
set_option maxHeartbeats 2000000 in
theorem term1_all (l Bf Bn n₀ : Nat) (s : ByteArray) (hs : s.size ≤ 1048576) (hBf : Bf < n₀) (hBn : Bn < n₀) (J : List (Nat × Nat) → World → Prop)
    (W : World) (hn0 : n₀ ≤ W.heap.size) (hJ : OwnFrom W.heap.size J)
    (hY : ∀ pre x W1, J pre W1 → W.heap.size + 1 ≤ W1.heap.size → pre.length < (wordsOn s 0).length → YieldAt Fence.wide 2 Tryz.prog l #[termVal s x] W1 fun e W' => e = .returned (.bool true) ∧ J (pre ++ [x]) W' ∧ Kq n₀ W.heap.size W1 W')
    (hcf : W.cell? ⟨Bf, 0, none⟩ = some (.func (.func 112) #[] #[.pointer (some ⟨Bn, 0, none⟩)]))
    (hc : W.cell? ⟨Bn, 0, none⟩ = some (.string s)) (h0 : J [] W) :
    CallsIn Fence.wide 3 Tryz.prog 110 #[.func (.yield l) #[] #[], .pointer (some ⟨Bf, 0, none⟩)] W fun e W' => (∃ v, e = .returned v) ∧ J (wordsOn s 0) W' := by
  refine callsIn_of_wp_marks Tryz.func110 rfl trivial ?_ rfl
  simp only [Tryz.ntmps110, List.size_toArray, List.length_cons, List.length_nil, Nat.reduceAdd, Nat.reduceSub, Array.replicate_succ, Array.replicate_zero, List.push_toArray, List.append_toArray, List.nil_append, List.cons_append]
  have hcf1 : (W.alloc (.cells #[.func (.yield l) #[] #[]] 118)).cell? ⟨Bf, 0, none⟩ = some (.func (.func 112) #[] #[.pointer (some ⟨Bn, 0, none⟩)]) := by rw [World.cell?_alloc_lt _ _ _ (by show Bf < _; omega)]; exact hcf
  gi_wp2
  have bY := Boxed.new W 118 (.func (.yield l) #[] #[])
  have hB0 : Below W.heap.size W (W.alloc (.cells #[.func (.yield l) #[] #[]] 118)) := (Below.refl _ W).alloc (Nat.le_refl _) _
  have hJ0 : J [] (W.alloc (.cells #[.func (.yield l) #[] #[]] 118)) := hJ.alloc _ h0
  have hsz : (W.alloc (.cells #[.func (.yield l) #[] #[]] 118)).heap.size = W.heap.size + 1 := by simp
  obtain ⟨W0, hW0⟩ : ∃ W0, W.alloc (.cells #[.func (.yield l) #[] #[]] 118) = W0 := ⟨_, rfl⟩
  rw [hW0] at bY hB0 hJ0 hsz ⊢
  clear hW0 hcf1
  have hI : OwnFrom W0.heap.size (fun pre V => (J pre V ∧ Boxed V W.heap.size 118 (.func (.yield l) #[] #[])) ∧ Below n₀ W V) :=
    OwnFrom.and (OwnFrom.and (ownFrom_mono hJ (by omega)) (Own.from (boxed_own _ _ _) _)) (ownFrom_below hn0 (by omega))
  refine rangeAll (W0.heap.size) (n := 3) (encs := fun x => #[wordVal s x]) (Kp := Below n₀) rfl (enters_of Tryz.func112 (by kernel_rfl) rfl) (wordsOn s 0) _ hI
    belowK_t (fun V _ o' _ _ => below_put (by omega) V o') (fun _ => rfl)
    (fun r V hb hVs hY2 hk => each1_all 2 (by omega) (W0.heap.size + 1) Bn n₀ s hs hBn _ V (by omega) (ownFrom_below' (ownFrom_kept hI (by omega) : OwnFrom V.heap.size _)) (fun pre x W1 h hl => hY2 pre x W1 h ?hms hl) (by rw [hb.cell (p := ⟨Bn, 0, none⟩) (by show Bn < _; omega), hB0.cell (p := ⟨Bn, 0, none⟩) (by show Bn < _; omega)]; exact hc) hk)
    ⟨⟨hJ0, bY⟩, hB0.mono hn0⟩
    (fun x a' V => ∃ Bx, W.heap.size < Bx ∧ Word3 V Bx s x ∧ a' = { tmps := #[.func (.yield l) #[] #[], .pointer (some ⟨Bf, 0, none⟩), .pointer (some ⟨W.heap.size, 0, none⟩), .pointer (some ⟨Bx, 0, none⟩), .func (.func 112) #[] #[.pointer (some ⟨Bn, 0, none⟩)], wordVal s x, undef, undef, undef, undef, undef, undef], defers := [] })
    (fun x a' _ X Y row hs hg hr => by obtain ⟨Bx, h1, h2, h3⟩ := hs; exact ⟨Bx, h1, word3_own Bx s x X Y row h2 hg (fun r e => (hr r e).2), h3⟩)
    ?assign ?body ?done
  case hms => exact Nat.le_of_lt (Nat.lt_of_succ_lt (Array.getElem?_eq_some_iff.1 h.2.1).1)
  case assign =>
    rintro l2 pre x V K ⟨⟨hj, bY1⟩, hb1⟩ hm hK
    simp only [wordVal]
    gi_wp2
    exact hK _ _ ((KeepsOthers.alloc _ _).from _) ((Below.refl _ V).alloc (by omega) _) ⟨⟨hJ.alloc _ hj, bY1.alloc _⟩, hb1.alloc (by omega) _⟩ ⟨V.heap.size, by omega, heap_alloc_new V _, rfl⟩
  case body =>
    rintro l2 pre x a' V hl ⟨⟨hj, bY1⟩, hb1⟩ ⟨Bx, hBx, bX, rfl⟩ hm hlt
    have cY := bY1.cell
    have x0 := bX.c0
    simp only [wordVal]
    have hmix : Tryz.prog.follows .mixedOrders = true := by kernel_rfl
    have hxs : (s.extract x.1 x.2).size ≤ maxLen := by simp; unfold maxLen; omega
    clear bX
    gi_wp2
    gi_region_with_o (first | (refine ⟨trivial, ?_⟩; gi_at_call 111; refine (CallsIn.inRound l2 (callsIn_wide.2 (stemI_any _ _ hxs))).mono ?_; rintro e V2 ⟨rfl, hb2d⟩; have hb2 : Below V.heap.size V V2 := ⟨hb2d.os, hb2d.tape, hb2d.output, hb2d.size, hb2d.block⟩; clear hb2d; have cY2 : V2.cell? ⟨W.heap.size, 0, none⟩ = some (.func (.yield l) #[] #[]) := (hb2.cell (p := ⟨W.heap.size, 0, none⟩) bY1.lt).trans cY; have hj2 := ownFrom_below' hJ pre V V2 hj hb2; obtain ⟨fn, tmps, assign, body, hy, hR⟩ := yield_inRound 0 l2 (hY pre x V2 hj2 (by have := hb2.size; omega) hlt); simp only [termVal] at hy) | (refine hR.mono ?_; rintro e V3 ⟨rfl, hj3, hk3⟩))
    all_goals gi_wp2
    all_goals exact term_round hb1 bY1 (by omega) hn0 hsz hb2 hj3 hk3
  case done =>
    rintro D V hD ⟨⟨hj, bY1⟩, hb1⟩ hK
    gi_wp2
    refine ⟨by simp, .inl ⟨_, _, rfl, run_takeDeferred hK, ?_⟩⟩
    exact ⟨_, results_none rfl _ _ _, ⟨_, rfl⟩, hJ.putObj _ hj (by omega) hK rfl⟩

theorem infoStr : (Tryz.prog.info? 9).map (fun i => (i.zero, i.size, i.bytes)) = some (some (.string ⟨#[]⟩), 1, 16) := by kernel_rfl
def termCells (s : ByteArray) (l : List (Nat × Nat)) : List Value := l.map fun x => .string (stemA (s.extract x.1 x.2))
theorem termCells_snoc (s : ByteArray) (l : List (Nat × Nat)) (x : Nat × Nat) : termCells s (l ++ [x]) = termCells s l ++ [.string (stemA (s.extract x.1 x.2))] := by simp [termCells]

/-- Behind 'out = append(out, v)' where out's box lies below the rows' base. -/
theorem appended2 {W w1 : World} {base n₀ B M : Nat} {t e : TypeId} {size : Nat} {v v' : Value} {k m : Nat} {xs ys : List Value} {tmp : Obj}
    (hv : Boxed W B t v) (hte : t ≠ e) (hrow : W.ownsRow base e size v k xs) (hB : n₀ ≤ B) (hBM : B < M) (hMb : M < base) (hbW : base ≤ W.heap.size)
    (hown' : w1.ownsRow base e size v' m ys) (hgrow : (W.alloc tmp).grownBy w1 v.ownBlock) :
    Boxed w1 B t v ∧ Boxed (w1.setCell ⟨B, 0, none⟩ v') B t v' ∧ (w1.setCell ⟨B, 0, none⟩ v').ownsRow base e size v' m ys ∧ KeepsOthers W (w1.setCell ⟨B, 0, none⟩ v') ∧ Kq n₀ M W (w1.setCell ⟨B, 0, none⟩ v') := by
  have hv1 : Boxed w1 B t v := (hv.alloc tmp).kept hgrow (hv.not_row hte hrow)
  have hrl : ∀ j, v.ownBlock = some j → base ≤ j := fun j ej => (hrow.lt j ej).1
  have hko : KeepsOthers W (w1.setCell ⟨B, 0, none⟩ v') := by
    refine ((KeepsOthers.alloc W tmp).trans (KeepsOthers.of_grownBy hgrow fun j o ej hj => ?_)).trans (KeepsOthers.setCell _ _ _)
    rcases (hrow.alloc tmp).2 with ⟨rfl, _⟩ | ⟨g, cap, cur, rfl, _, hgb, _⟩
    · simp [Value.ownBlock] at ej
    · obtain rfl : g = j := by simpa [Value.ownBlock] using ej
      rw [hgb] at hj; cases hj; rfl
  refine ⟨hv1, hv1.set v', hown'.kept (grownBy_setCell' w1 B v') (.inr (hv1.not_row hte hown').symm), hko, ?_, hko.from _, ?_⟩
  · exact (((Below.refl n₀ W).alloc (by omega) tmp).grown hgrow (by simp; omega) fun j ej => by have := hrl j ej; omega).setCell (p := ⟨B, 0, none⟩) hB v'
  · rw [Below.heap_setCell _ _ _ _ (by show M ≠ B; omega), hgrow.block M (by simp; omega) (fun e => by have := hrl M e.symm; omega), Below.heap_alloc _ _ _ (by omega)]

theorem str_one (a : ByteArray) : ∀ u ∈ [Value.string a], u.oneCell' = true := by
  intro u hu
  simp at hu
  subst hu
  rfl

set_option maxRecDepth 100000 in
set_option maxHeartbeats 2000000 in
theorem appendTerms_any (s : ByteArray) (hs : s.size ≤ 1048576) (Bf Bn : Nat) (w : World) (hBf : Bf < w.heap.size) (hBn : Bn < w.heap.size)
    (hcf : w.cell? ⟨Bf, 0, none⟩ = some (.func (.func 112) #[] #[.pointer (some ⟨Bn, 0, none⟩)])) (hc : w.cell? ⟨Bn, 0, none⟩ = some (.string s)) :
    Calls Tryz.prog 109 #[.slice none 0 0, .func (.func 110) #[] #[.pointer (some ⟨Bf, 0, none⟩)]] w fun e W' => ∃ v, e = .returned v ∧
      W'.ownsRow w.heap.size 9 1 v (wordsOn s 0).length (termCells s (wordsOn s 0)) ∧ (v = .slice none 0 0 ↔ wordsOn s 0 = []) ∧ Below w.heap.size w W' := by
  obtain ⟨i0, hi, hz0, hz1, hz2⟩ := info_parts infoStr
  have hN := wordsOn_len s s.size 0 (by omega)
  refine (callsIn_wide (n := 4)).1 ?_
  refine callsIn_of_wp_marks Tryz.func109 rfl trivial ?_ rfl
  simp only [Tryz.ntmps109, List.size_toArray, List.length_cons, List.length_nil, Nat.reduceAdd, Nat.reduceSub, Array.replicate_succ, Array.replicate_zero, List.push_toArray, List.append_toArray, List.nil_append, List.cons_append]
  gi_wp2
  have bO := Boxed.new w 60 (.slice none 0 0)
  have hB0 : Below w.heap.size w (w.alloc (.cells #[.slice none 0 0] 60)) := (Below.refl _ w).alloc (Nat.le_refl _) _
  have hsz : (w.alloc (.cells #[.slice none 0 0] 60)).heap.size = w.heap.size + 1 := by simp
  obtain ⟨W0, hW0⟩ : ∃ W0, w.alloc (.cells #[.slice none 0 0] 60) = W0 := ⟨_, rfl⟩
  rw [hW0] at bO hB0 hsz ⊢
  clear hW0
  have hI : OwnFrom W0.heap.size (fun pre V => (∃ v, Boxed V w.heap.size 60 v ∧ V.ownsRow (w.heap.size + 4) 9 1 v pre.length (termCells s pre) ∧ (v = .slice none 0 0 ↔ pre = [])) ∧ Below w.heap.size w V) :=
    OwnFrom.and (Own.from (holdsRow_own (w.heap.size + 4) w.heap.size 60 9 1 (fun pre => pre.length) (fun pre => termCells s pre) (fun pre v => v = .slice none 0 0 ↔ pre = [])) _) (ownFrom_below (Nat.le_refl _) (by omega))
  refine rangeAll (w.heap.size + 4) (n := 4) (encs := fun x => #[termVal s x]) (Kp := Kq w.heap.size (w.heap.size + 3)) rfl (enters_of Tryz.func110 (by kernel_rfl) rfl) (wordsOn s 0) _ hI
    (fun h k => h.trans k) (fun V _ o' _ _ => ⟨below_put (by omega) V o', ⟨by simp, fun k ob hk h1 _ => (World.putObj_heap_other (by omega)).trans h1⟩, World.putObj_heap_other (by omega)⟩) (fun _ => rfl)
    (fun r V hb hVs hY2 hk => term1_all (W0.heap.size + 1) Bf Bn w.heap.size s hs hBf hBn _ V (by omega) (ownFrom_kept hI (by omega)) (fun pre x W1 h hm hl => by rw [show V.heap.size = w.heap.size + 3 from by omega]; exact hY2 pre x W1 h (by omega) hl)
      (by rw [hb.cell (p := ⟨Bf, 0, none⟩) (by show Bf < _; omega), hB0.cell (p := ⟨Bf, 0, none⟩) hBf]; exact hcf) (by rw [hb.cell (p := ⟨Bn, 0, none⟩) (by show Bn < _; omega), hB0.cell (p := ⟨Bn, 0, none⟩) hBn]; exact hc) hk)
    ⟨⟨_, bO, World.ownsRow_nil _ _ _ _, by simp⟩, hB0⟩
    (fun x a' _ => a' = { tmps := #[.slice none 0 0, .func (.func 110) #[] #[.pointer (some ⟨Bf, 0, none⟩)], .pointer (some ⟨w.heap.size, 0, none⟩), undef, .slice none 0 0, termVal s x, .func (.func 110) #[] #[.pointer (some ⟨Bf, 0, none⟩)], termVal s x, undef, undef, undef, undef, undef], defers := [] })
    (fun _ _ _ _ _ _ hs _ _ => hs)
    ?assign ?body ?done
  case assign =>
    rintro l pre x V K hi' hm hK
    simp only [termVal]
    gi_wp2
    exact hK _ _ (KeepsFrom.refl _ _) ⟨Below.refl _ _, KeepsFrom.refl _ _, rfl⟩ hi' rfl
  case body =>
    rintro l pre x a' V hl ⟨⟨v, bV, hrow, hnil⟩, hB1⟩ rfl hm hlt
    have cV := bV.cell
    have fV := bV.frozen
    simp only [termVal]
    gi_wp2_with (gi_at_builtin; refine wpListIn_append_own _ rfl _ _ 60 rfl (w.heap.size + 4) 9 i0 (.string ⟨#[]⟩) 1 16 Tryz.underlying60 hi hz0 hz1 hz2 rfl (by decide) _ _ _ rfl (hrow.alloc _) ⟨V.heap.size, 0, none⟩ 1 1 [.string (stemA (s.extract x.1 x.2))] rfl rfl (cells_new _ _ _) (str_one _) (by unfold maxLen; omega) (by omega) (by simp; omega) ?_; intro v' w1 hown' hgrow _; obtain ⟨g', cap', rfl⟩ := ownsRow_succ hown'; obtain ⟨hv1, hv2, hr2, hk2, hb2⟩ := appended2 (n₀ := w.heap.size) (M := w.heap.size + 3) bV (by decide) hrow (Nat.le_refl _) (by omega) (by omega) hm hown' hgrow; have hc1 := hv1.cell; have hf1 := hv1.frozen)
    rw [← termCells_snoc] at hr2
    exact ⟨hk2.from _, hb2, ⟨_, hv2, by rw [List.length_append]; exact hr2, by simp⟩, hB1.trans hb2.below⟩
  case done =>
    rintro D V hD ⟨⟨v, bV, hrow, hnil⟩, hB1⟩ hK
    have cV := bV.cell
    gi_wp2
    refine ⟨by simp, .inl ⟨_, _, rfl, run_takeDeferred hK, ?_⟩⟩
    exact ⟨_, results_tmp rfl _ _ _, v, rfl, ownsRow_putObj (ownsRow_mono hrow (by omega)) _ hK rfl, hnil, hB1.trans (below_put (by omega) V _)⟩

theorem eachTerm_any (f : Value) (Bn : Nat) (w : World) (he : f = .func (.func 112) #[] #[.pointer (some ⟨Bn, 0, none⟩)]) :
    Calls Tryz.prog 67 #[f] w fun e w' => e = .returned (.func (.func 110) #[] #[.pointer (some ⟨w.heap.size, 0, none⟩)]) ∧ w' = w.alloc (.cells #[f] 100) := by
  subst he
  go_enter Tryz.func67, Tryz.ntmps67
  go_wp2
  go_ret
  exact ⟨rfl, rfl⟩

theorem termsI_any (s : ByteArray) (w : World) (hs : s.size ≤ 1048576) :
    Calls Tryz.prog 31 #[.string s] w fun e W' => ∃ v, e = .returned v ∧
      W'.ownsRow w.heap.size 9 1 v (wordsOn s 0).length (termCells s (wordsOn s 0)) ∧ (v = .slice none 0 0 ↔ wordsOn s 0 = []) ∧ Below w.heap.size w W' := by
  have HC : ∀ (Bf Bn : Nat) (w : World), Bf < w.heap.size → Bn < w.heap.size → w.cell? ⟨Bf, 0, none⟩ = some (.func (.func 112) #[] #[.pointer (some ⟨Bn, 0, none⟩)]) → w.cell? ⟨Bn, 0, none⟩ = some (.string s) → Calls Tryz.prog 66 #[.func (.func 110) #[] #[.pointer (some ⟨Bf, 0, none⟩)]] w fun e W' => ∃ v, e = .returned v ∧
      W'.ownsRow w.heap.size 9 1 v (wordsOn s 0).length (termCells s (wordsOn s 0)) ∧ (v = .slice none 0 0 ↔ wordsOn s 0 = []) ∧ Below w.heap.size w W' := by
    intro Bf Bn w hBf hBn hcf hc
    go_enter Tryz.func66, Tryz.ntmps66
    go_wp2_with fail
    refine (appendTerms_any s hs Bf Bn _ hBf hBn hcf hc).mono ?_
    rintro e w1 ⟨v, rfl, h1, h2, h3⟩
    have H2 : Hid (v = .slice none 0 0 ↔ wordsOn s 0 = []) := h2
    clear h2
    go_wp2
    go_ret
    exact ⟨v, rfl, h1, H2.out, h3⟩
  go_enter Tryz.func31, Tryz.ntmps31
  go_wp2_with fail
  refine (eachWord_any s _).mono ?_
  rintro e w1 ⟨rfl, rfl⟩
  go_wp2_with fail
  refine (eachTerm_any _ w.heap.size _ rfl).mono ?_
  rintro e w1 ⟨rfl, rfl⟩
  go_wp2_with fail
  refine (HC (w.heap.size + 1) w.heap.size _ (by simp) (by simp; omega) (by simp) (by simp)).mono ?_
  rintro e w2 ⟨v, rfl, h1, h2, h3⟩
  have H2 : Hid (v = .slice none 0 0 ↔ wordsOn s 0 = []) := h2
  have H1 := ownsRow_mono (b' := w.heap.size) h1 (by simp; omega)
  have H3 : Below w.heap.size w w2 := (((Below.refl _ w).alloc (Nat.le_refl _) _).alloc (by simp) _).trans (h3.mono (by simp; omega))
  clear h2 h1 h3 HC
  go_wp2
  go_ret
  exact ⟨v, rfl, H1, H2.out, H3⟩
end Go.Proofs.YtjkimadnopeakaaGreatDoor
