/- formTurn of the program. -/
import Derived.Test.YtfakoalkbcnejaaDoorQyCopyI
import Derived.Test.YtfakoalkbcnejaaDoorQyAsked
namespace Go.Proofs.YtfakoalkbcnejaaDoor
open Go.RowKit
set_option linter.unusedVariables false

/-- What finds all that a question does not. -/
def turnQ : Nat → Qy → Qy
  | 0, q => if q.kind = 9 then qat q.parts 0 else if q.kind = 7 ∨ q.kind = 8 then .mk (15 - q.kind) ⟨#[]⟩ ⟨#[]⟩ 0 0 [] else .mk 9 ⟨#[]⟩ ⟨#[]⟩ 0 0 [q]
  | d + 1, q => if q.kind = 9 then qat q.parts 0 else if q.kind = 7 ∨ q.kind = 8 then .mk (15 - q.kind) ⟨#[]⟩ ⟨#[]⟩ 0 0 ((List.range q.parts.length).map fun i => turnQ d (qat q.parts i)) else .mk 9 ⟨#[]⟩ ⟨#[]⟩ 0 0 [q]
/-- The parts, turned. -/
def turnT (D : Nat) (ps : List Qy) : List Qy := match D with
  | 0 => []
  | d + 1 => (List.range ps.length).map fun i => turnQ d (qat ps i)
theorem turn_9 (D : Nat) (f t : ByteArray) (lo hi : Int) (ps : List Qy) : turnQ D (.mk 9 f t lo hi ps) = qat ps 0 := by cases D <;> exact if_pos rfl
theorem turn_78 (D : Nat) {k : Int} (f t : ByteArray) (lo hi : Int) (ps : List Qy) (h : k = 7 ∨ k = 8) : turnQ D (.mk k f t lo hi ps) = .mk (15 - k) ⟨#[]⟩ ⟨#[]⟩ 0 0 (turnT D ps) := by
  have h9 : ¬ k = 9 := by omega
  cases D with
  | zero => exact (if_neg h9).trans (if_pos h)
  | succ D => exact (if_neg h9).trans (if_pos h)
theorem turn_no (D : Nat) {k : Int} (f t : ByteArray) (lo hi : Int) (ps : List Qy) (h9 : k ≠ 9) (h : ¬ (k = 7 ∨ k = 8)) : turnQ D (.mk k f t lo hi ps) = .mk 9 ⟨#[]⟩ ⟨#[]⟩ 0 0 [.mk k f t lo hi ps] := by
  cases D with
  | zero => exact (if_neg h9).trans (if_neg h)
  | succ D => exact (if_neg h9).trans (if_neg h)
theorem form_not {d : Nat} {f t : ByteArray} {lo hi : Int} {ps : List Qy} (h : qformB d (.mk 9 f t lo hi ps) = true) : ps.length = 1 := by
  cases d with
  | zero => cases h
  | succ d =>
    rw [show qformB (d + 1) (.mk 9 f t lo hi ps) = if ps.length = 0 then leafB 9 f t lo hi else manyPartsB 9 f t lo hi ps.length && allTo (fun i => qformB d (qat ps i)) ps.length from rfl] at h
    split at h
    · exact absurd h (by unfold leafB; rw [if_neg (by decide), if_neg (by decide), if_neg (by decide), if_neg (by decide)]; decide)
    · unfold manyPartsB at h
      rw [if_neg (by decide), if_pos rfl] at h
      simp only [Bool.and_eq_true, beq_iff_eq] at h
      exact h.1.1.1.1
theorem QOwn.mono {w : World} : ∀ {d : Nat} {a : Option Addr} {c : Nat} {ps : List Qy} {fp : List Nat}, QOwn w d a c ps fp → QOwn w (d + 1) a c ps fp
  | 0, _, _, _, _, h => .inl h
  | d + 1, _, _, _, _, h => by
    rcases h with h | ⟨g, xs, fps, h0, ha, ho, hfp, hn, hp⟩
    · exact .inl h
    · refine .inr ⟨g, xs, fps, h0, ha, ho, hfp, hn, fun i hi => ?_⟩
      obtain ⟨p, c', hx, hq⟩ := hp i hi
      exact ⟨p, c', hx, QOwn.mono hq⟩
/-- A row of one question. -/
theorem own_one {w : World} {d c : Nat} {p : Option Addr} {q : Qy} {fp : List Nat} (h : QOwn w d p c q.parts fp) : QOwn (w.alloc (.cells #[.int .i64 q.kind, .string q.field, .string q.text, .int .i64 q.low, .int .i64 q.high, .slice p q.parts.length c] 29)) (d + 1) (some ⟨w.heap.size, 0, none⟩) 1 [q] (w.heap.size :: fp) := by
  have hlt := h.lt
  have h2 := h.below ((Below.refl w.heap.size w).alloc (Nat.le_refl _) (.cells #[.int .i64 q.kind, .string q.field, .string q.text, .int .i64 q.low, .int .i64 q.high, .slice p q.parts.length c] 29))
  refine .inr ⟨w.heap.size, qVal q p c, fun _ => fp, by simp, rfl, World.ownsRow_lit w #[.int .i64 q.kind, .string q.field, .string q.text, .int .i64 q.low, .int .i64 q.high, .slice p q.parts.length c] 1 (Nat.le_refl _) (by decide) rfl, by simp [fpAll], List.nodup_cons.2 ⟨fun hm => by have := hlt _ hm; omega, h.nodup⟩, fun i hi => ?_⟩
  obtain rfl : i = 0 := by simpa using hi
  exact ⟨p, c, fun j hj => by rw [Nat.zero_mul, Nat.zero_add]; rfl, h2⟩
def TurnI (D : Nat) : Prop := ∀ (d : Nat) (q : Qy) (a : Option Addr) (c : Nat) (w : World), qformB d q = true → QAt w 0 D a q.parts → QSz 1048576 D q.parts → q.field.size ≤ 1048576 → q.text.size ≤ 1048576 → Makes (D + 1) 52 q (turnQ D q) a c w
set_option maxRecDepth 100000 in
set_option maxHeartbeats 4000000 in
theorem turnI_of {D : Nat} (hF : ∀ D', D = D' + 1 → TurnI D') : TurnI D := by
  intro d q a c w hfm ha hsz hfs hts
  obtain ⟨k, f, t, lo, hi, ps⟩ := q
  simp only [Qy.field, Qy.text, Qy.parts] at ha hsz hfs hts
  unfold Makes
  simp only [Qy.kind, Qy.field, Qy.text, Qy.low, Qy.high, Qy.parts]
  have hb1 : Below w.heap.size w (w.alloc (.cells #[.int .i64 k, .string f, .string t, .int .i64 lo, .int .i64 hi, .slice a ps.length c] 29)) := (Below.refl _ w).alloc (Nat.le_refl _) _
  have hb2 := hb1.alloc hb1.size (.cells #[.int .i64 0, .string ⟨#[]⟩, .string ⟨#[]⟩, .int .i64 0, .int .i64 0, .slice none 0 0] 29)
  have BO := (Blk.new w #[.int .i64 k, .string f, .string t, .int .i64 lo, .int .i64 hi, .slice a ps.length c] 29).alloc (.cells #[.int .i64 0, .string ⟨#[]⟩, .string ⟨#[]⟩, .int .i64 0, .int .i64 0, .slice none 0 0] 29)
  have BZ := Blk.new (w.alloc (.cells #[.int .i64 k, .string f, .string t, .int .i64 lo, .int .i64 hi, .slice a ps.length c] 29)) #[.int .i64 0, .string ⟨#[]⟩, .string ⟨#[]⟩, .int .i64 0, .int .i64 0, .slice none 0 0] 29
  rw [show (w.alloc (.cells #[.int .i64 k, .string f, .string t, .int .i64 lo, .int .i64 hi, .slice a ps.length c] 29)).heap.size = w.heap.size + 1 by simp] at BZ
  have hsz0 : ((w.alloc (.cells #[.int .i64 k, .string f, .string t, .int .i64 lo, .int .i64 hi, .slice a ps.length c] 29)).alloc (.cells #[.int .i64 0, .string ⟨#[]⟩, .string ⟨#[]⟩, .int .i64 0, .int .i64 0, .slice none 0 0] 29)).heap.size = w.heap.size + 2 := by simp
  obtain ⟨w2, hw2⟩ : ∃ w2, (w.alloc (.cells #[.int .i64 k, .string f, .string t, .int .i64 lo, .int .i64 hi, .slice a ps.length c] 29)).alloc (.cells #[.int .i64 0, .string ⟨#[]⟩, .string ⟨#[]⟩, .int .i64 0, .int .i64 0, .slice none 0 0] 29) = w2 := ⟨_, rfl⟩
  have HW2 : Hid ((w.alloc (.cells #[.int .i64 k, .string f, .string t, .int .i64 lo, .int .i64 hi, .slice a ps.length c] 29)).alloc (.cells #[.int .i64 0, .string ⟨#[]⟩, .string ⟨#[]⟩, .int .i64 0, .int .i64 0, .slice none 0 0] 29) = w2) := hw2
  rw [hw2] at hb2 BO BZ hsz0
  have HB2 : Hid (Below w.heap.size w w2) := hb2
  have HBO : Hid (Blk w2 w.heap.size #[.int .i64 k, .string f, .string t, .int .i64 lo, .int .i64 hi, .slice a ps.length c] 29) := BO
  have HBZ : Hid (Blk w2 (w.heap.size + 1) #[.int .i64 0, .string ⟨#[]⟩, .string ⟨#[]⟩, .int .i64 0, .int .i64 0, .slice none 0 0] 29) := BZ
  have HA : Hid (QAt w2 0 D a ps) := ha.below hb2
  have HF : Hid (∀ D', D = D' + 1 → TurnI D') := hF
  have HS : Hid (QSz 1048576 D ps) := hsz
  have HFM : Hid (qformB d (.mk k f t lo hi ps) = true) := hfm
  have y0 := BO.cell 0
  have y1 := BO.cell 1
  have y2 := BO.cell 2
  have y3 := BO.cell 3
  have y4 := BO.cell 4
  have y5 := BO.cell 5
  simp at y0 y1 y2 y3 y4 y5
  have hz := hsz.len
  clear ha hsz hF hw2 hb1 hb2 BO BZ hfm
  by_cases h9 : k = 9
  · subst h9
    have HE : Hid (turnQ D (.mk 9 f t lo hi ps) = qat ps 0) := turn_9 D f t lo hi ps
    have hn1 := form_not HFM.out
    rw [HE.out]
    obtain ⟨D', hD⟩ : ∃ D', D = D' + 1 := by
      cases D with
      | zero =>
        have e : ps = [] := HS.out
        rw [e] at hn1
        cases hn1
      | succ D' => exact ⟨D', rfl⟩
    subst hD
    obtain ⟨g, off, rfl, _, hg, hc⟩ := HA.out (by omega)
    obtain ⟨p, c', ⟨c0, c1, c2, c3, c4, c5⟩, hq⟩ := hc 0 (by omega)
    obtain ⟨s1, s2, s3⟩ := HS.out.2 0 (by omega)
    have hcp : Makes D' 76 (qat ps 0) (qat ps 0) p c' w2 := copyI_any D' (qat ps 0) p c' w2 hq s3 s1 s2
    have hnl : (0 : Int) < (ps.length : Int) := by omega
    have hnl2 : 0 < ps.length := by omega
    generalize qat ps 0 = q at *
    obtain ⟨kd, f', t', lo', hi', pp⟩ := q
    unfold Makes at hcp
    simp only [Qy.kind, Qy.field, Qy.text, Qy.low, Qy.high, Qy.parts] at c0 c1 c2 c3 c4 c5 hcp ⊢
    simp only [Nat.zero_mul, Nat.add_zero] at c0 c1 c2 c3 c4 c5
    have HCP : Hid (Calls _ _ _ _ _) := hcp
    clear hcp s1 s2 s3
    clear hc hq HE HF HS HFM HA hn1
    go_enter Tryd.func52, Tryd.ntmps52
    go_upto_region 1 with fail
    rw [HW2.out]
    clear HW2
    go_wp2_with fail
    refine HCP.out.mono ?_
    rintro e w7 ⟨p', c2, fp, rfl, ⟨hq7, hf7⟩, hb7⟩
    have BZ7 := HBZ.out.below hb7 (by have := HBZ.out.lt; omega)
    have hw7 := HB2.out.trans (hb7.mono HB2.out.size)
    have HQ : Hid (QOwn w7 (D' + 1 + 1) p' c2 pp fp ∧ ∀ b ∈ fp, w.heap.size + 2 ≤ b) := ⟨hq7.mono.mono, fun b hb => by have := hf7 b hb; omega⟩
    have z0 := BZ7.cell 0
    have z1 := BZ7.cell 1
    have z2 := BZ7.cell 2
    have z3 := BZ7.cell 3
    have z4 := BZ7.cell 4
    have z5 := BZ7.cell 5
    have f0 := BZ7.frozen 0
    have f1 := BZ7.frozen 1
    have f2 := BZ7.frozen 2
    have f3 := BZ7.frozen 3
    have f4 := BZ7.frozen 4
    have f5 := BZ7.frozen 5
    simp at z0 z1 z2 z3 z4 z5
    clear BZ7 HBZ HB2 hb7 hq7 hf7 HCP c0 c1 c3 c4 c5
    go_wp2
    refine bodyPost_ret (v := .agg #[.int .i64 kd, .string f', .string t', .int .i64 lo', .int .i64 hi', .slice p' pp.length c2]) (by simp [results, Tryd.results52, go_sem, z0, z1, z2, z3, z4, z5]) rfl ⟨p', c2, fp, rfl, ?_, ?_⟩
    · refine own_base (B := w.heap.size + 2) (by omega) ?_
      exact own_set (own_set (own_set (own_set (own_set (own_set HQ.out (by simp) _) (by simp) _) (by simp) _) (by simp) _) (by simp) _) (by simp) _
    · exact ((((((hw7.setCell (by simp) _).setCell (by simp) _).setCell (by simp) _).setCell (by simp) _).setCell (by simp) _).setCell (by simp) _)
  have h9b : (k == 9) = false := beq_eq_false_iff_ne.2 h9
  by_cases h78 : k = 7 ∨ k = 8
  · have HE : Hid (turnQ D (.mk k f t lo hi ps) = .mk (15 - k) ⟨#[]⟩ ⟨#[]⟩ 0 0 (turnT D ps)) := turn_78 D f t lo hi ps h78
    rw [HE.out]
    have HPM : Hid (Calls Tryd.prog 77 #[.slice a ps.length c, .func (.func 52) #[] #[]] w2 fun e w' => ∃ p' c' fp, e = .returned (.slice p' (turnT D ps).length c') ∧ (QOwn w' (D + 1) p' c' (turnT D ps) fp ∧ ∀ b ∈ fp, w2.heap.size ≤ b) ∧ Below w2.heap.size w2 w') := by
      cases D with
      | zero =>
        have e : ps = [] := HS.out
        subst e
        refine (partsMade_nil _ a c w2).mono ?_
        rintro e w' ⟨rfl, rfl⟩
        exact ⟨none, 0, [], rfl, ⟨.inl ⟨rfl, rfl⟩, fun b hb => by cases hb⟩, Below.refl _ _⟩
      | succ D' => exact partsMade_any _ (.inl rfl) D' (D' + 1) ps (fun i => turnQ D' (qat ps i)) (turnT (D' + 1) ps) rfl a c w2 HA.out hz (fun i hi p c wy hby hq => by
          obtain ⟨d', _, hf'⟩ := form_part HFM.out (i := i) hi
          exact HF.out D' rfl d' (qat ps i) p c wy hf' hq (HS.out.2 i hi).2.2 (HS.out.2 i hi).1 (HS.out.2 i hi).2.1)
    generalize turnT D ps = rs at *
    clear HE HF HS HFM HA
    rcases h78 with rfl | rfl
    all_goals
      go_enter Tryd.func52, Tryd.ntmps52
      go_upto_region 1 with fail
      rw [HW2.out]
      clear HW2
      go_wp2_with fail
      refine HPM.out.mono ?_
      rintro e w7 ⟨p', c2, fp, rfl, ⟨hq7, hf7⟩, hb7⟩
      have BZ7 := HBZ.out.below hb7 (by have := HBZ.out.lt; omega)
      have hw7 := HB2.out.trans (hb7.mono HB2.out.size)
      have HQ : Hid (QOwn w7 (D + 1) p' c2 rs fp ∧ ∀ b ∈ fp, w.heap.size + 2 ≤ b) := ⟨hq7, fun b hb => by have := hf7 b hb; omega⟩
      have z0 := BZ7.cell 0
      have z1 := BZ7.cell 1
      have z2 := BZ7.cell 2
      have z3 := BZ7.cell 3
      have z4 := BZ7.cell 4
      have z5 := BZ7.cell 5
      have f0 := BZ7.frozen 0
      have f1 := BZ7.frozen 1
      have f2 := BZ7.frozen 2
      have f3 := BZ7.frozen 3
      have f4 := BZ7.frozen 4
      have f5 := BZ7.frozen 5
      simp at z0 z1 z2 z3 z4 z5
      clear BZ7 HBZ HB2 hb7 hq7 hf7 HPM
      go_wp2
    · refine bodyPost_ret (v := .agg #[.int .i64 8, .string ⟨#[]⟩, .string ⟨#[]⟩, .int .i64 0, .int .i64 0, .slice p' rs.length c2]) (by simp [results, Tryd.results52, go_sem, z0, z1, z2, z3, z4, z5]) rfl ⟨p', c2, fp, rfl, ?_, ?_⟩
      · refine own_base (B := w.heap.size + 2) (by omega) ?_
        exact own_set (own_set (own_set (own_set (own_set (own_set HQ.out (by simp) _) (by simp) _) (by simp) _) (by simp) _) (by simp) _) (by simp) _
      · exact ((((((hw7.setCell (by simp) _).setCell (by simp) _).setCell (by simp) _).setCell (by simp) _).setCell (by simp) _).setCell (by simp) _)
    · refine bodyPost_ret (v := .agg #[.int .i64 7, .string ⟨#[]⟩, .string ⟨#[]⟩, .int .i64 0, .int .i64 0, .slice p' rs.length c2]) (by simp [results, Tryd.results52, go_sem, z0, z1, z2, z3, z4, z5]) rfl ⟨p', c2, fp, rfl, ?_, ?_⟩
      · refine own_base (B := w.heap.size + 2) (by omega) ?_
        exact own_set (own_set (own_set (own_set (own_set (own_set HQ.out (by simp) _) (by simp) _) (by simp) _) (by simp) _) (by simp) _) (by simp) _
      · exact ((((((hw7.setCell (by simp) _).setCell (by simp) _).setCell (by simp) _).setCell (by simp) _).setCell (by simp) _).setCell (by simp) _)
  have h7b : (k == 7) = false := beq_eq_false_iff_ne.2 (by omega)
  have h8b : (k == 8) = false := beq_eq_false_iff_ne.2 (by omega)
  have HE : Hid (turnQ D (.mk k f t lo hi ps) = .mk 9 ⟨#[]⟩ ⟨#[]⟩ 0 0 [.mk k f t lo hi ps]) := turn_no D f t lo hi ps h9 h78
  rw [HE.out]
  have hcp := copyI_any D (.mk k f t lo hi ps) a c w2 HA.out HS.out hfs hts
  unfold Makes at hcp
  simp only [Qy.kind, Qy.field, Qy.text, Qy.low, Qy.high, Qy.parts, List.length_singleton] at hcp ⊢
  have HCP : Hid (Calls _ _ _ _ _) := hcp
  clear hcp HE HF HS HFM HA
  go_enter Tryd.func52, Tryd.ntmps52
  go_upto_region 1 with fail
  rw [HW2.out]
  clear HW2
  go_wp2_with fail
  refine HCP.out.mono ?_
  rintro e w6 ⟨p', c2, fp, rfl, ⟨hq6, hf6⟩, hb6⟩
  have BZ6 := HBZ.out.below hb6 (by have := HBZ.out.lt; omega)
  have hw6 := HB2.out.trans (hb6.mono HB2.out.size)
  have HQ : Hid (QOwn w6 D p' c2 ps fp ∧ ∀ b ∈ fp, w.heap.size + 2 ≤ b) := ⟨hq6, fun b hb => by have := hf6 b hb; omega⟩
  have hz6 : w.heap.size + 2 ≤ w6.heap.size := by have := hb6.size; omega
  have z0 := BZ6.cell 0
  have z1 := BZ6.cell 1
  have z2 := BZ6.cell 2
  have z3 := BZ6.cell 3
  have z4 := BZ6.cell 4
  have z5 := BZ6.cell 5
  have f0 := BZ6.frozen 0
  have f1 := BZ6.frozen 1
  have f2 := BZ6.frozen 2
  have f3 := BZ6.frozen 3
  have f4 := BZ6.frozen 4
  have f5 := BZ6.frozen 5
  simp at z0 z1 z2 z3 z4 z5
  have hlt6 : w.heap.size + 1 < w6.heap.size := BZ6.lt
  clear BZ6 HBZ HB2 hb6 hq6 hf6 HCP
  go_wp2
  refine bodyPost_ret (v := .agg #[.int .i64 9, .string ⟨#[]⟩, .string ⟨#[]⟩, .int .i64 0, .int .i64 0, .slice (some ⟨w6.heap.size, 0, none⟩) 1 1]) (by simp [results, Tryd.results52, go_sem, z0, z1, z2, z3, z4, z5, hlt6]) rfl ⟨some ⟨w6.heap.size, 0, none⟩, 1, w6.heap.size :: fp, rfl, ?_, ?_⟩
  · have h1 := own_set (own_set (own_set (own_set (own_set (own_set HQ.out (x := ⟨w.heap.size + 1, 0, none⟩) (by simp) (.int .i64 9)) (x := ⟨w.heap.size + 1, 1, none⟩) (by simp) (.string ⟨#[]⟩)) (x := ⟨w.heap.size + 1, 2, none⟩) (by simp) (.string ⟨#[]⟩)) (x := ⟨w.heap.size + 1, 3, none⟩) (by simp) (.int .i64 0)) (x := ⟨w.heap.size + 1, 4, none⟩) (by simp) (.int .i64 0)) (x := ⟨w.heap.size + 1, 5, none⟩) (by simp) (.slice (some ⟨w6.heap.size, 0, none⟩) 1 1)
    have h2 := own_one (q := .mk k f t lo hi ps) h1.1
    simp only [World.size_setCell] at h2
    exact ⟨h2, fun b hb => by
      rcases List.mem_cons.1 hb with rfl | hb
      · omega
      · have := h1.2 b hb
        omega⟩
  · exact ((((((hw6.setCell (by simp) _).setCell (by simp) _).setCell (by simp) _).setCell (by simp) _).setCell (by simp) _).setCell (by simp) _).alloc (by simp; omega) _
theorem turnI_any : ∀ D, TurnI D
  | 0 => turnI_of (fun D' h => by omega)
  | D + 1 => turnI_of (fun D' h => by obtain rfl : D = D' := by omega
                                      exact turnI_any D)
end Go.Proofs.YtfakoalkbcnejaaDoor
