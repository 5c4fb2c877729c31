/- Words in fields, in order: how they are held against each other, and their place. -/
import Derived.Test.YtbifagdcnpnpjaaGreatCmpT
import Derived.Test.YtbifagdcnpnpjaaGreatIdxMath
import Derived.Test.YtbifagdcnpnpjaaGreatQuietOne
import Derived.Test.YtbifagdcnpnpjaaGreatIdxSame2
namespace Go.Proofs.YtbifagdcnpnpjaaGreat
open Go Go.Sort Go.RowKit Go.BigFrame
set_option linter.unusedVariables false

theorem orInts_any (b : Nat) (x y : Int) (w : World) (h0 : w.cell? ⟨b, 0, none⟩ = some (.int .i64 x)) (h1 : w.cell? ⟨b, 1, none⟩ = some (.int .i64 y)) :
    Calls Tryz.prog 160 #[.slice (some ⟨b, 0, none⟩) 2 2] w fun e w' => e = .returned (.int .i64 (if x = 0 then y else x)) ∧ Below w.heap.size w w' := by
  by_cases hx : x = 0
  · rw [if_pos hx]
    subst hx
    by_cases hy : y = 0
    · subst hy
      go_enter Tryz.func160, Tryz.ntmps160
      go_wp2
      refine wp_loop_rounds 3 ?_
      rw [rounds_succ]
      go_wp2
      rw [rounds_succ]
      go_wp2
      rw [rounds_succ]
      go_wp2
      go_ret
      exact ⟨rfl, Below.refl _ _⟩
    · have y1 : (y == 0) = false := by simpa using hy
      have y2 : (y != 0) = true := by simpa using hy
      go_enter Tryz.func160, Tryz.ntmps160
      go_wp2
      refine wp_loop_rounds 2 ?_
      rw [rounds_succ]
      go_wp2
      rw [rounds_succ]
      go_wp2
      go_ret
      exact ⟨rfl, Below.refl _ _⟩
  · have y1 : (x == 0) = false := by simpa using hx
    have y2 : (x != 0) = true := by simpa using hx
    rw [if_neg hx]
    go_enter Tryz.func160, Tryz.ntmps160
    go_wp2
    refine wp_loop_rounds 1 ?_
    rw [rounds_succ]
    go_wp2
    go_ret
    exact ⟨rfl, Below.refl _ _⟩
def spotC (f t f' t' : ByteArray) : Int := if cmpT f f' = 0 then cmpT t t' else cmpT f f'
theorem cmpT_neg {s t : ByteArray} : cmpT s t < 0 ↔ Op.bytesLess s.toList t.toList = true := by
  unfold cmpT
  cases Op.bytesLess s.toList t.toList <;> cases (s.toList == t.toList) <;> simp
theorem cmpT_zero {s t : ByteArray} : cmpT s t = 0 ↔ Op.bytesLess s.toList t.toList = false ∧ (s.toList == t.toList) = true := by
  unfold cmpT
  cases Op.bytesLess s.toList t.toList <;> cases (s.toList == t.toList) <;> simp
theorem bytesLess_self (s : ByteArray) : Op.bytesLess s.toList s.toList = false := by
  rw [less_toL]
  exact decide_eq_false (lt_ir _)
theorem spotC_neg (f t f' t' : ByteArray) : decide (spotC f t f' t' < 0) = kLess f t f' t' := by
  unfold spotC kLess
  by_cases hf : f = f'
  · subst hf
    have h1 : cmpT f f = 0 := cmpT_zero.2 ⟨bytesLess_self f, by simp⟩
    rw [if_pos h1, bytesLess_self]
    simp only [Bool.false_or, beq_self_eq_true, Bool.true_and]
    cases h : Op.bytesLess t.toList t'.toList with
    | true => exact decide_eq_true (cmpT_neg.2 h)
    | false => exact decide_eq_false (fun hh => by rw [cmpT_neg.1 hh] at h; cases h)
  · have h2 : (f.toList == f'.toList) = false := by rw [toL_beq]; simpa using hf
    rw [if_neg (fun e => by have := (cmpT_zero.1 e).2; rw [h2] at this; cases this), h2, Bool.false_and, Bool.or_false]
    cases h : Op.bytesLess f.toList f'.toList with
    | true => exact decide_eq_true (cmpT_neg.2 h)
    | false => exact decide_eq_false (fun hh => by rw [cmpT_neg.1 hh] at h; cases h)
set_option maxRecDepth 100000 in
set_option maxHeartbeats 1000000 in
theorem spotAgainst_any (f t f' t' : ByteArray) (w : World) : Calls Tryz.prog 153 #[.agg #[.string f, .string t], .agg #[.string f', .string t']] w fun e w' => e = .returned (.int .i64 (spotC f t f' t')) ∧ Below w.heap.size w w' := by
  obtain ⟨W0, hW0⟩ : ∃ W0, (w.alloc (.cells #[.string f, .string t] 149)).alloc (.cells #[.string f', .string t'] 149) = W0 := ⟨_, rfl⟩
  have hb0 : Below w.heap.size w W0 := by rw [← hW0]; exact ((Below.refl _ w).alloc (Nat.le_refl _) _).alloc (by simp) _
  have A0 : Blk W0 w.heap.size #[.string f, .string t] 149 := by rw [← hW0]; exact (Blk.new w _ _).alloc _
  have B0 : Blk W0 (w.heap.size + 1) #[.string f', .string t'] 149 := by
    have h := Blk.new (w.alloc (.cells #[.string f, .string t] 149)) #[.string f', .string t'] 149
    rw [hW0] at h
    simpa using h
  have a0 := A0.cell 0
  have a1 := A0.cell 1
  have b0 := B0.cell 0
  have b1 := B0.cell 1
  simp at a0 a1 b0 b1
  have e0 := cellQ a0
  have e1 := cellQ a1
  have f0 := cellQ b0
  have f1 := cellQ b1
  have HC1 : Hid (∀ p : Regrown, Calls Tryz.prog 161 #[.string f, .string f'] (grow (redrawn W0 p.d) p.os) fun e w' => e = .returned (.int .i64 (cmpT f f')) ∧ Below (grow (redrawn W0 p.d) p.os).heap.size (grow (redrawn W0 p.d) p.os) w') := fun p => (compare_any f f' _).mono fun e w' ⟨h1, h2⟩ => ⟨h1, by rw [h2]; exact Below.refl _ _⟩
  have HC2 : Hid (∀ p : Regrown, Calls Tryz.prog 161 #[.string t, .string t'] (grow (redrawn W0 p.d) p.os) fun e w' => e = .returned (.int .i64 (cmpT t t')) ∧ Below (grow (redrawn W0 p.d) p.os).heap.size (grow (redrawn W0 p.d) p.os) w') := fun p => (compare_any t t' _).mono fun e w' ⟨h1, h2⟩ => ⟨h1, by rw [h2]; exact Below.refl _ _⟩
  have HSC : Hid (spotC f t f' t' = if cmpT f f' = 0 then cmpT t t' else cmpT f f') := rfl
  obtain ⟨cc, HCC⟩ : ∃ cc, Hid (spotC f t f' t' = cc) := ⟨_, rfl⟩
  rw [HCC.out]
  rw [HCC.out] at HSC
  clear A0 B0 a0 a1 b0 b1
  go_enter Tryz.func153, Tryz.ntmps153
  go_wp2
  refine wp_region_quiet_one 10 (by kernel_rfl) (by kernel_rfl) rfl ?_
  simp only [List.take_succ_cons, List.take_zero]
  generalize cmpT f f' = x at *
  generalize cmpT t t' = y at *
  repeat (go_big_quiet_step ((first | (go_at_call 161; with_reducible exact Calls.regrown_of (HC1.out _)) | (go_at_call 161; with_reducible exact Calls.regrown_of (HC2.out _)))))
  refine wpQuiet_nil ?_
  intro _ hw'
  obtain ⟨p, hw''⟩ := hw'
  subst hw''
  refine oneQ_want rfl ?_
  go_simp
  have hbp := hb0.trans ((belowQ W0 p).mono hb0.size)
  rw [show (redrawn W0 p.d).heap.size + p.os.size = (grow (redrawn W0 p.d) p.os).heap.size by simp [grow]]
  clear e0 e1 f0 f1 HC1 HC2
  generalize grow (redrawn W0 p.d) p.os = Wg at *
  have hs := hbp.size
  have hb2 := hbp.alloc hbp.size (.cells #[.int .i64 x, .int .i64 y] 3)
  have N0 := Blk.new Wg #[.int .i64 x, .int .i64 y] 3
  generalize Wg.alloc (.cells #[.int .i64 x, .int .i64 y] 3) = W2 at *
  have n0 := N0.cell 0
  have n1 := N0.cell 1
  simp at n0 n1
  have HOR : Hid (∀ p : Regrown, Calls Tryz.prog 160 #[.slice (some ⟨Wg.heap.size, 0, none⟩) 2 2] (grow (redrawn W2 p.d) p.os) fun e w' => e = .returned (.int .i64 cc) ∧ Below (grow (redrawn W2 p.d) p.os).heap.size (grow (redrawn W2 p.d) p.os) w') := fun p => by
    rw [HSC.out]
    exact orInts_any _ x y _ (cellQ n0 _ _) (cellQ n1 _ _)
  clear n0 n1 N0
  unfold RestQ
  simp only [List.drop_succ_cons, List.drop_zero]
  repeat (go_big_quiet_step ((go_at_call 160; with_reducible exact Calls.regrown_of (HOR.out _))))
  refine wpQuiet_nil ?_
  intro _ hw'
  obtain ⟨pq, hw''⟩ := hw'
  subst hw''
  have hbq := hb2.trans ((belowQ W2 pq).mono hb2.size)
  go_wp2
  go_ret
  exact ⟨rfl, hbq⟩
/-- A list of words in fields, as it is read. -/
def SpotRow (w : World) (a : Option Addr) (ks : List Ky) : Prop := 0 < ks.length → ∃ g off, a = some ⟨g, off, none⟩ ∧ g < w.heap.size ∧ ∀ i k, ks[i]? = some k →
  w.cell? ⟨g, off + i * 2, none⟩ = some (.string k.1) ∧ w.cell? ⟨g, off + i * 2 + 1, none⟩ = some (.string k.2)
theorem SpotRow.below {w w' : World} {a : Option Addr} {ks : List Ky} (h : SpotRow w a ks) (hb : Below w.heap.size w w') : SpotRow w' a ks := fun hp => by
  obtain ⟨g, off, e, hg, hc⟩ := h hp
  exact ⟨g, off, e, by have := hb.size; omega, fun i k hi => ⟨(hb.cell (p := ⟨g, off + i * 2, none⟩) hg).trans (hc i k hi).1, (hb.cell (p := ⟨g, off + i * 2 + 1, none⟩) hg).trans (hc i k hi).2⟩⟩
def kyCells (ks : List Ky) : List Value := ks.flatMap fun k => [.string k.1, .string k.2]
theorem kyCells_snoc (cs : List Ky) (c : Ky) : kyCells (cs ++ [c]) = kyCells cs ++ [.string c.1, .string c.2] := by simp [kyCells]
theorem kyCells_cons (c : Ky) (cs : List Ky) : kyCells (c :: cs) = .string c.1 :: .string c.2 :: kyCells cs := by simp [kyCells]
theorem kyCells_app (a b : List Ky) : kyCells (a ++ b) = kyCells a ++ kyCells b := by simp [kyCells]
theorem kyCells_len (cs : List Ky) : (kyCells cs).length = cs.length * 2 := by
  induction cs with
  | nil => rfl
  | cons c cs ih => rw [kyCells_cons]; simp [ih]; omega
theorem kyCells_at : ∀ (cs : List Ky) (i : Nat) (k : Ky), cs[i]? = some k → (kyCells cs)[i * 2]? = some (.string k.1) ∧ (kyCells cs)[i * 2 + 1]? = some (.string k.2)
  | [], i, k, h => by simp at h
  | c :: cs, 0, k, h => by cases h; exact ⟨rfl, rfl⟩
  | c :: cs, i + 1, k, h => by
    have := kyCells_at cs i k (by simpa using h)
    rw [kyCells_cons, show (i + 1) * 2 = i * 2 + 1 + 1 by omega]
    exact this
theorem ky_one (a b : ByteArray) : ∀ u ∈ [Value.string a, Value.string b], u.oneCell' = true := by
  intro u hu
  simp at hu
  rcases hu with rfl | rfl <;> rfl
theorem kys_one (cs : List Ky) : ∀ u ∈ kyCells cs, u.oneCell' = true := by
  intro u hu
  simp only [kyCells, List.mem_flatMap] at hu
  obtain ⟨c, _, hu⟩ := hu
  exact ky_one _ _ u hu
theorem infoKy : (Tryz.prog.info? 149).map (fun i => (i.zero, i.size, i.bytes)) = some (some (.agg #[.string ⟨#[]⟩, .string ⟨#[]⟩]), 2, 32) := by kernel_rfl
theorem owns_spots {w : World} {base : Nat} {v : Value} {ks : List Ky} (h : w.ownsRow base 149 2 v ks.length (kyCells ks)) : ∃ p c, v = .slice p ks.length c ∧ ks.length ≤ c ∧ (p = none → c = 0) ∧ SpotRow w p ks := by
  obtain ⟨p, c, rfl, hc, _, hn, hx⟩ := row_val h
  refine ⟨p, c, rfl, hc, hn, fun h0 => ?_⟩
  cases p with
  | none => have := hn rfl; omega
  | some x =>
    obtain ⟨g, rfl, hB, hg, _⟩ := hx x rfl
    refine ⟨g, 0, rfl, hg, fun i k hi => ?_⟩
    have hil := (List.getElem?_eq_some_iff.1 hi).1
    obtain ⟨h1, h2⟩ := kyCells_at ks i k hi
    exact ⟨by rw [Nat.zero_add, h.cellAt _ (by omega)]; exact h1, by rw [Nat.zero_add, h.cellAt _ (by omega)]; exact h2⟩
end Go.Proofs.YtbifagdcnpnpjaaGreat
