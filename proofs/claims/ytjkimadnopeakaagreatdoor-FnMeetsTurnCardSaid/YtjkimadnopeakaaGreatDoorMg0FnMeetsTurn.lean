/- DrC, WTurnLaw, in one text. -/
import Derived.Test.YtjkimadnopeakaaGreatDoorDrB
import Derived.Test.YtjkimadnopeakaaGreatDoorQyOk
import Derived.Test.YtjkimadnopeakaaGreatDoorMtS
import Derived.Test.YtjkimadnopeakaaGreatDoorTuB1
import Derived.Deep.RegionLaw
/- QyTurnI, QyOwnS2, QyTurnS, QyTurn, MtTurn: in one text. -/
/- formTurn of the program. -/
namespace Go.Proofs.YtjkimadnopeakaaGreatDoor
open Go.RowKit
set_option linter.unusedVariables false

/-- What finds all that a question does not. -/
def turnQ : Nat → Qy → Qy
  | 0, q => if q.kind = 9 then qat q.parts 0 else if q.kind = 7 ∨ q.kind = 8 then .mk (15 - q.kind) ⟨#[]⟩ ⟨#[]⟩ 0 0 [] else .mk 9 ⟨#[]⟩ ⟨#[]⟩ 0 0 [q]
  | d + 1, q => if q.kind = 9 then qat q.parts 0 else if q.kind = 7 ∨ q.kind = 8 then .mk (15 - q.kind) ⟨#[]⟩ ⟨#[]⟩ 0 0 ((List.range q.parts.length).map fun i => turnQ d (qat q.parts i)) else .mk 9 ⟨#[]⟩ ⟨#[]⟩ 0 0 [q]
/-- The parts, turned. -/
def turnT (D : Nat) (ps : List Qy) : List Qy := match D with
  | 0 => []
  | d + 1 => (List.range ps.length).map fun i => turnQ d (qat ps i)
theorem turn_9 (D : Nat) (f t : ByteArray) (lo hi : Int) (ps : List Qy) : turnQ D (.mk 9 f t lo hi ps) = qat ps 0 := by cases D <;> exact if_pos rfl
theorem turn_78 (D : Nat) {k : Int} (f t : ByteArray) (lo hi : Int) (ps : List Qy) (h : k = 7 ∨ k = 8) : turnQ D (.mk k f t lo hi ps) = .mk (15 - k) ⟨#[]⟩ ⟨#[]⟩ 0 0 (turnT D ps) := by
  have h9 : ¬ k = 9 := by omega
  cases D with
  | zero => exact (if_neg h9).trans (if_pos h)
  | succ D => exact (if_neg h9).trans (if_pos h)
theorem turn_no (D : Nat) {k : Int} (f t : ByteArray) (lo hi : Int) (ps : List Qy) (h9 : k ≠ 9) (h : ¬ (k = 7 ∨ k = 8)) : turnQ D (.mk k f t lo hi ps) = .mk 9 ⟨#[]⟩ ⟨#[]⟩ 0 0 [.mk k f t lo hi ps] := by
  cases D with
  | zero => exact (if_neg h9).trans (if_neg h)
  | succ D => exact (if_neg h9).trans (if_neg h)
theorem form_not {d : Nat} {f t : ByteArray} {lo hi : Int} {ps : List Qy} (h : qformB d (.mk 9 f t lo hi ps) = true) : ps.length = 1 := by
  cases d with
  | zero => cases h
  | succ d =>
    rw [show qformB (d + 1) (.mk 9 f t lo hi ps) = if ps.length = 0 then leafB 9 f t lo hi else manyPartsB 9 f t lo hi ps.length && allTo (fun i => qformB d (qat ps i)) ps.length from rfl] at h
    split at h
    · exact absurd h (by unfold leafB; rw [if_neg (by decide), if_neg (by decide), if_neg (by decide), if_neg (by decide)]; decide)
    · unfold manyPartsB at h
      rw [if_neg (by decide), if_pos rfl] at h
      simp only [Bool.and_eq_true, beq_iff_eq] at h
      exact h.1.1.1.1
theorem QOwn.mono {w : World} : ∀ {d : Nat} {a : Option Addr} {c : Nat} {ps : List Qy} {fp : List Nat}, QOwn w d a c ps fp → QOwn w (d + 1) a c ps fp
  | 0, _, _, _, _, h => .inl h
  | d + 1, _, _, _, _, h => by
    rcases h with h | ⟨g, xs, fps, h0, ha, ho, hfp, hn, hp⟩
    · exact .inl h
    · refine .inr ⟨g, xs, fps, h0, ha, ho, hfp, hn, fun i hi => ?_⟩
      obtain ⟨p, c', hx, hq⟩ := hp i hi
      exact ⟨p, c', hx, QOwn.mono hq⟩
/-- A row of one question. -/
theorem own_one {w : World} {d c : Nat} {p : Option Addr} {q : Qy} {fp : List Nat} (h : QOwn w d p c q.parts fp) : QOwn (w.alloc (.cells #[.int .i64 q.kind, .string q.field, .string q.text, .int .i64 q.low, .int .i64 q.high, .slice p q.parts.length c] 41)) (d + 1) (some ⟨w.heap.size, 0, none⟩) 1 [q] (w.heap.size :: fp) := by
  have hlt := h.lt
  have h2 := h.below ((Below.refl w.heap.size w).alloc (Nat.le_refl _) (.cells #[.int .i64 q.kind, .string q.field, .string q.text, .int .i64 q.low, .int .i64 q.high, .slice p q.parts.length c] 41))
  refine .inr ⟨w.heap.size, qVal q p c, fun _ => fp, by simp, rfl, World.ownsRow_lit w #[.int .i64 q.kind, .string q.field, .string q.text, .int .i64 q.low, .int .i64 q.high, .slice p q.parts.length c] 1 (Nat.le_refl _) (by decide) rfl, by simp [fpAll], List.nodup_cons.2 ⟨fun hm => by have := hlt _ hm; omega, h.nodup⟩, fun i hi => ?_⟩
  obtain rfl : i = 0 := by simpa using hi
  exact ⟨p, c, fun j hj => by rw [Nat.zero_mul, Nat.zero_add]; rfl, h2⟩
def TurnI (D : Nat) : Prop := ∀ (d : Nat) (q : Qy) (a : Option Addr) (c : Nat) (w : World), qformB d q = true → QAt w 0 D a q.parts → QSz 1048576 D q.parts → q.field.size ≤ 1048576 → q.text.size ≤ 1048576 → Makes (D + 1) 58 q (turnQ D q) a c w
set_option maxRecDepth 100000 in
set_option maxHeartbeats 4000000 in
theorem turnI_of {D : Nat} (hF : ∀ D', D = D' + 1 → TurnI D') : TurnI D := by
  intro d q a c w hfm ha hsz hfs hts
  obtain ⟨k, f, t, lo, hi, ps⟩ := q
  simp only [Qy.field, Qy.text, Qy.parts] at ha hsz hfs hts
  unfold Makes
  simp only [Qy.kind, Qy.field, Qy.text, Qy.low, Qy.high, Qy.parts]
  have hb1 : Below w.heap.size w (w.alloc (.cells #[.int .i64 k, .string f, .string t, .int .i64 lo, .int .i64 hi, .slice a ps.length c] 41)) := (Below.refl _ w).alloc (Nat.le_refl _) _
  have hb2 := hb1.alloc hb1.size (.cells #[.int .i64 0, .string ⟨#[]⟩, .string ⟨#[]⟩, .int .i64 0, .int .i64 0, .slice none 0 0] 41)
  have BO := (Blk.new w #[.int .i64 k, .string f, .string t, .int .i64 lo, .int .i64 hi, .slice a ps.length c] 41).alloc (.cells #[.int .i64 0, .string ⟨#[]⟩, .string ⟨#[]⟩, .int .i64 0, .int .i64 0, .slice none 0 0] 41)
  have BZ := Blk.new (w.alloc (.cells #[.int .i64 k, .string f, .string t, .int .i64 lo, .int .i64 hi, .slice a ps.length c] 41)) #[.int .i64 0, .string ⟨#[]⟩, .string ⟨#[]⟩, .int .i64 0, .int .i64 0, .slice none 0 0] 41
  rw [show (w.alloc (.cells #[.int .i64 k, .string f, .string t, .int .i64 lo, .int .i64 hi, .slice a ps.length c] 41)).heap.size = w.heap.size + 1 by simp] at BZ
  have hsz0 : ((w.alloc (.cells #[.int .i64 k, .string f, .string t, .int .i64 lo, .int .i64 hi, .slice a ps.length c] 41)).alloc (.cells #[.int .i64 0, .string ⟨#[]⟩, .string ⟨#[]⟩, .int .i64 0, .int .i64 0, .slice none 0 0] 41)).heap.size = w.heap.size + 2 := by simp
  obtain ⟨w2, hw2⟩ : ∃ w2, (w.alloc (.cells #[.int .i64 k, .string f, .string t, .int .i64 lo, .int .i64 hi, .slice a ps.length c] 41)).alloc (.cells #[.int .i64 0, .string ⟨#[]⟩, .string ⟨#[]⟩, .int .i64 0, .int .i64 0, .slice none 0 0] 41) = w2 := ⟨_, rfl⟩
  have HW2 : Hid ((w.alloc (.cells #[.int .i64 k, .string f, .string t, .int .i64 lo, .int .i64 hi, .slice a ps.length c] 41)).alloc (.cells #[.int .i64 0, .string ⟨#[]⟩, .string ⟨#[]⟩, .int .i64 0, .int .i64 0, .slice none 0 0] 41) = w2) := hw2
  rw [hw2] at hb2 BO BZ hsz0
  have HB2 : Hid (Below w.heap.size w w2) := hb2
  have HBO : Hid (Blk w2 w.heap.size #[.int .i64 k, .string f, .string t, .int .i64 lo, .int .i64 hi, .slice a ps.length c] 41) := BO
  have HBZ : Hid (Blk w2 (w.heap.size + 1) #[.int .i64 0, .string ⟨#[]⟩, .string ⟨#[]⟩, .int .i64 0, .int .i64 0, .slice none 0 0] 41) := BZ
  have HA : Hid (QAt w2 0 D a ps) := ha.below hb2
  have HF : Hid (∀ D', D = D' + 1 → TurnI D') := hF
  have HS : Hid (QSz 1048576 D ps) := hsz
  have HFM : Hid (qformB d (.mk k f t lo hi ps) = true) := hfm
  have y0 := BO.cell 0
  have y1 := BO.cell 1
  have y2 := BO.cell 2
  have y3 := BO.cell 3
  have y4 := BO.cell 4
  have y5 := BO.cell 5
  simp at y0 y1 y2 y3 y4 y5
  have hz := hsz.len
  clear ha hsz hF hw2 hb1 hb2 BO BZ hfm
  by_cases h9 : k = 9
  · subst h9
    have HE : Hid (turnQ D (.mk 9 f t lo hi ps) = qat ps 0) := turn_9 D f t lo hi ps
    have hn1 := form_not HFM.out
    rw [HE.out]
    obtain ⟨D', hD⟩ : ∃ D', D = D' + 1 := by
      cases D with
      | zero =>
        have e : ps = [] := HS.out
        rw [e] at hn1
        cases hn1
      | succ D' => exact ⟨D', rfl⟩
    subst hD
    obtain ⟨g, off, rfl, _, hg, hc⟩ := HA.out (by omega)
    obtain ⟨p, c', ⟨c0, c1, c2, c3, c4, c5⟩, hq⟩ := hc 0 (by omega)
    obtain ⟨s1, s2, s3⟩ := HS.out.2 0 (by omega)
    have hcp : Makes D' 103 (qat ps 0) (qat ps 0) p c' w2 := copyI_any D' (qat ps 0) p c' w2 hq s3 s1 s2
    have hnl : (0 : Int) < (ps.length : Int) := by omega
    have hnl2 : 0 < ps.length := by omega
    generalize qat ps 0 = q at *
    obtain ⟨kd, f', t', lo', hi', pp⟩ := q
    unfold Makes at hcp
    simp only [Qy.kind, Qy.field, Qy.text, Qy.low, Qy.high, Qy.parts] at c0 c1 c2 c3 c4 c5 hcp ⊢
    simp only [Nat.zero_mul, Nat.add_zero] at c0 c1 c2 c3 c4 c5
    have HCP : Hid (Calls _ _ _ _ _) := hcp
    clear hcp s1 s2 s3
    clear hc hq HE HF HS HFM HA hn1
    go_enter Tryz.func58, Tryz.ntmps58
    go_upto_region 1 with fail
    rw [HW2.out]
    clear HW2
    go_wp2_with fail
    refine HCP.out.mono ?_
    rintro e w7 ⟨p', c2, fp, rfl, ⟨hq7, hf7⟩, hb7⟩
    have BZ7 := HBZ.out.below hb7 (by have := HBZ.out.lt; omega)
    have hw7 := HB2.out.trans (hb7.mono HB2.out.size)
    have HQ : Hid (QOwn w7 (D' + 1 + 1) p' c2 pp fp ∧ ∀ b ∈ fp, w.heap.size + 2 ≤ b) := ⟨hq7.mono.mono, fun b hb => by have := hf7 b hb; omega⟩
    have z0 := BZ7.cell 0
    have z1 := BZ7.cell 1
    have z2 := BZ7.cell 2
    have z3 := BZ7.cell 3
    have z4 := BZ7.cell 4
    have z5 := BZ7.cell 5
    have f0 := BZ7.frozen 0
    have f1 := BZ7.frozen 1
    have f2 := BZ7.frozen 2
    have f3 := BZ7.frozen 3
    have f4 := BZ7.frozen 4
    have f5 := BZ7.frozen 5
    simp at z0 z1 z2 z3 z4 z5
    clear BZ7 HBZ HB2 hb7 hq7 hf7 HCP c0 c1 c3 c4 c5
    go_wp2
    refine bodyPost_ret (v := .agg #[.int .i64 kd, .string f', .string t', .int .i64 lo', .int .i64 hi', .slice p' pp.length c2]) (by simp [results, Tryz.results58, go_sem, z0, z1, z2, z3, z4, z5]) rfl ⟨p', c2, fp, rfl, ?_, ?_⟩
    · refine own_base (B := w.heap.size + 2) (by omega) ?_
      exact own_setQ (own_setQ (own_setQ (own_setQ (own_setQ (own_setQ HQ.out (by simp) _) (by simp) _) (by simp) _) (by simp) _) (by simp) _) (by simp) _
    · exact ((((((hw7.setCell (by simp) _).setCell (by simp) _).setCell (by simp) _).setCell (by simp) _).setCell (by simp) _).setCell (by simp) _)
  have h9b : (k == 9) = false := beq_eq_false_iff_ne.2 h9
  by_cases h78 : k = 7 ∨ k = 8
  · have HE : Hid (turnQ D (.mk k f t lo hi ps) = .mk (15 - k) ⟨#[]⟩ ⟨#[]⟩ 0 0 (turnT D ps)) := turn_78 D f t lo hi ps h78
    rw [HE.out]
    have HPM : Hid (Calls Tryz.prog 104 #[.slice a ps.length c, .func (.func 58) #[] #[]] w2 fun e w' => ∃ p' c' fp, e = .returned (.slice p' (turnT D ps).length c') ∧ (QOwn w' (D + 1) p' c' (turnT D ps) fp ∧ ∀ b ∈ fp, w2.heap.size ≤ b) ∧ Below w2.heap.size w2 w') := by
      cases D with
      | zero =>
        have e : ps = [] := HS.out
        subst e
        refine (partsMade_nil _ a c w2).mono ?_
        rintro e w' ⟨rfl, rfl⟩
        exact ⟨none, 0, [], rfl, ⟨.inl ⟨rfl, rfl⟩, fun b hb => by cases hb⟩, Below.refl _ _⟩
      | succ D' => exact partsMade_any _ (.inl rfl) D' (D' + 1) ps (fun i => turnQ D' (qat ps i)) (turnT (D' + 1) ps) rfl a c w2 HA.out hz (fun i hi p c wy hby hq => by
          obtain ⟨d', _, hf'⟩ := form_part HFM.out (i := i) hi
          exact HF.out D' rfl d' (qat ps i) p c wy hf' hq (HS.out.2 i hi).2.2 (HS.out.2 i hi).1 (HS.out.2 i hi).2.1)
    generalize turnT D ps = rs at *
    clear HE HF HS HFM HA
    rcases h78 with rfl | rfl
    all_goals
      go_enter Tryz.func58, Tryz.ntmps58
      go_upto_region 1 with fail
      rw [HW2.out]
      clear HW2
      go_wp2_with fail
      refine HPM.out.mono ?_
      rintro e w7 ⟨p', c2, fp, rfl, ⟨hq7, hf7⟩, hb7⟩
      have BZ7 := HBZ.out.below hb7 (by have := HBZ.out.lt; omega)
      have hw7 := HB2.out.trans (hb7.mono HB2.out.size)
      have HQ : Hid (QOwn w7 (D + 1) p' c2 rs fp ∧ ∀ b ∈ fp, w.heap.size + 2 ≤ b) := ⟨hq7, fun b hb => by have := hf7 b hb; omega⟩
      have z0 := BZ7.cell 0
      have z1 := BZ7.cell 1
      have z2 := BZ7.cell 2
      have z3 := BZ7.cell 3
      have z4 := BZ7.cell 4
      have z5 := BZ7.cell 5
      have f0 := BZ7.frozen 0
      have f1 := BZ7.frozen 1
      have f2 := BZ7.frozen 2
      have f3 := BZ7.frozen 3
      have f4 := BZ7.frozen 4
      have f5 := BZ7.frozen 5
      simp at z0 z1 z2 z3 z4 z5
      clear BZ7 HBZ HB2 hb7 hq7 hf7 HPM
      go_wp2
    · refine bodyPost_ret (v := .agg #[.int .i64 8, .string ⟨#[]⟩, .string ⟨#[]⟩, .int .i64 0, .int .i64 0, .slice p' rs.length c2]) (by simp [results, Tryz.results58, go_sem, z0, z1, z2, z3, z4, z5]) rfl ⟨p', c2, fp, rfl, ?_, ?_⟩
      · refine own_base (B := w.heap.size + 2) (by omega) ?_
        exact own_setQ (own_setQ (own_setQ (own_setQ (own_setQ (own_setQ HQ.out (by simp) _) (by simp) _) (by simp) _) (by simp) _) (by simp) _) (by simp) _
      · exact ((((((hw7.setCell (by simp) _).setCell (by simp) _).setCell (by simp) _).setCell (by simp) _).setCell (by simp) _).setCell (by simp) _)
    · refine bodyPost_ret (v := .agg #[.int .i64 7, .string ⟨#[]⟩, .string ⟨#[]⟩, .int .i64 0, .int .i64 0, .slice p' rs.length c2]) (by simp [results, Tryz.results58, go_sem, z0, z1, z2, z3, z4, z5]) rfl ⟨p', c2, fp, rfl, ?_, ?_⟩
      · refine own_base (B := w.heap.size + 2) (by omega) ?_
        exact own_setQ (own_setQ (own_setQ (own_setQ (own_setQ (own_setQ HQ.out (by simp) _) (by simp) _) (by simp) _) (by simp) _) (by simp) _) (by simp) _
      · exact ((((((hw7.setCell (by simp) _).setCell (by simp) _).setCell (by simp) _).setCell (by simp) _).setCell (by simp) _).setCell (by simp) _)
  have h7b : (k == 7) = false := beq_eq_false_iff_ne.2 (by omega)
  have h8b : (k == 8) = false := beq_eq_false_iff_ne.2 (by omega)
  have HE : Hid (turnQ D (.mk k f t lo hi ps) = .mk 9 ⟨#[]⟩ ⟨#[]⟩ 0 0 [.mk k f t lo hi ps]) := turn_no D f t lo hi ps h9 h78
  rw [HE.out]
  have hcp := copyI_any D (.mk k f t lo hi ps) a c w2 HA.out HS.out hfs hts
  unfold Makes at hcp
  simp only [Qy.kind, Qy.field, Qy.text, Qy.low, Qy.high, Qy.parts, List.length_singleton] at hcp ⊢
  have HCP : Hid (Calls _ _ _ _ _) := hcp
  clear hcp HE HF HS HFM HA
  go_enter Tryz.func58, Tryz.ntmps58
  go_upto_region 1 with fail
  rw [HW2.out]
  clear HW2
  go_wp2_with fail
  refine HCP.out.mono ?_
  rintro e w6 ⟨p', c2, fp, rfl, ⟨hq6, hf6⟩, hb6⟩
  have BZ6 := HBZ.out.below hb6 (by have := HBZ.out.lt; omega)
  have hw6 := HB2.out.trans (hb6.mono HB2.out.size)
  have HQ : Hid (QOwn w6 D p' c2 ps fp ∧ ∀ b ∈ fp, w.heap.size + 2 ≤ b) := ⟨hq6, fun b hb => by have := hf6 b hb; omega⟩
  have hz6 : w.heap.size + 2 ≤ w6.heap.size := by have := hb6.size; omega
  have z0 := BZ6.cell 0
  have z1 := BZ6.cell 1
  have z2 := BZ6.cell 2
  have z3 := BZ6.cell 3
  have z4 := BZ6.cell 4
  have z5 := BZ6.cell 5
  have f0 := BZ6.frozen 0
  have f1 := BZ6.frozen 1
  have f2 := BZ6.frozen 2
  have f3 := BZ6.frozen 3
  have f4 := BZ6.frozen 4
  have f5 := BZ6.frozen 5
  simp at z0 z1 z2 z3 z4 z5
  have hlt6 : w.heap.size + 1 < w6.heap.size := BZ6.lt
  clear BZ6 HBZ HB2 hb6 hq6 hf6 HCP
  go_wp2
  refine bodyPost_ret (v := .agg #[.int .i64 9, .string ⟨#[]⟩, .string ⟨#[]⟩, .int .i64 0, .int .i64 0, .slice (some ⟨w6.heap.size, 0, none⟩) 1 1]) (by simp [results, Tryz.results58, go_sem, z0, z1, z2, z3, z4, z5, hlt6]) rfl ⟨some ⟨w6.heap.size, 0, none⟩, 1, w6.heap.size :: fp, rfl, ?_, ?_⟩
  · have h1 := own_setQ (own_setQ (own_setQ (own_setQ (own_setQ (own_setQ HQ.out (x := ⟨w.heap.size + 1, 0, none⟩) (by simp) (.int .i64 9)) (x := ⟨w.heap.size + 1, 1, none⟩) (by simp) (.string ⟨#[]⟩)) (x := ⟨w.heap.size + 1, 2, none⟩) (by simp) (.string ⟨#[]⟩)) (x := ⟨w.heap.size + 1, 3, none⟩) (by simp) (.int .i64 0)) (x := ⟨w.heap.size + 1, 4, none⟩) (by simp) (.int .i64 0)) (x := ⟨w.heap.size + 1, 5, none⟩) (by simp) (.slice (some ⟨w6.heap.size, 0, none⟩) 1 1)
    have h2 := own_one (q := .mk k f t lo hi ps) h1.1
    simp only [World.size_setCell] at h2
    exact ⟨h2, fun b hb => by
      rcases List.mem_cons.1 hb with rfl | hb
      · omega
      · have := h1.2 b hb
        omega⟩
  · exact ((((((hw6.setCell (by simp) _).setCell (by simp) _).setCell (by simp) _).setCell (by simp) _).setCell (by simp) _).setCell (by simp) _).alloc (by simp; omega) _
theorem turnI_any : ∀ D, TurnI D
  | 0 => turnI_of (fun D' h => by omega)
  | D + 1 => turnI_of (fun D' h => by obtain rfl : D = D' := by omega
                                      exact turnI_any D)
end Go.Proofs.YtjkimadnopeakaaGreatDoor

/- The walk of spec.l5Own. -/
namespace Go.Proofs.YtjkimadnopeakaaGreatDoor
open Go.RowKit
set_option linter.unusedVariables false

theorem qVal_mk (k : Int) (f t : ByteArray) (lo hi : Int) (ps : List Qy) (p : Option Addr) (c : Nat) : qVal (.mk k f t lo hi ps) p c = [.int .i64 k, .string f, .string t, .int .i64 lo, .int .i64 hi, .slice p ps.length c] := rfl
/-- spec.l5Own at trees whose parts are at most D deep. -/
def OwnS (D : Nat) : Prop := ∀ (k : Int) (f t : ByteArray) (lo hi : Int) (ps : List Qy) (a : Option Addr) (c : Nat) (w : World), QAt w 0 D a ps → QSz 1048576 D ps →
  Calls Tryz.prog 59 #[.agg #[.int .i64 k, .string f, .string t, .int .i64 lo, .int .i64 hi, .slice a ps.length c]] w fun e w' => ∃ p' c', e = .returned (.agg #[.int .i64 k, .string f, .string t, .int .i64 lo, .int .i64 hi, .slice p' ps.length c']) ∧ QAt w' w.heap.size D p' ps ∧ Below w.heap.size w w'
set_option maxRecDepth 100000 in
set_option maxHeartbeats 4000000 in
theorem ownS_of {D : Nat} (hF : ∀ D', D = D' + 1 → OwnS D') : OwnS D := by
  intro k f t lo hi ps a c w ha hsz
  obtain ⟨i0, hi0, hz0, hz1, hz2⟩ := info_parts infoQy
  have hb1 : Below w.heap.size w (w.alloc (.cells #[.int .i64 k, .string f, .string t, .int .i64 lo, .int .i64 hi, .slice a ps.length c] 41)) := (Below.refl _ w).alloc (Nat.le_refl _) _
  have hb2 := hb1.alloc hb1.size (.cells #[.int .i64 0, .string ⟨#[]⟩, .string ⟨#[]⟩, .int .i64 0, .int .i64 0, .slice none 0 0] 41)
  have hb3 := hb2.alloc hb2.size (.cells #[.int .i64 k, .string f, .string t, .int .i64 lo, .int .i64 hi, .slice none 0 0] 41)
  have BO := ((Blk.new w #[.int .i64 k, .string f, .string t, .int .i64 lo, .int .i64 hi, .slice a ps.length c] 41).alloc (.cells #[.int .i64 0, .string ⟨#[]⟩, .string ⟨#[]⟩, .int .i64 0, .int .i64 0, .slice none 0 0] 41)).alloc (.cells #[.int .i64 k, .string f, .string t, .int .i64 lo, .int .i64 hi, .slice none 0 0] 41)
  have BZ := (Blk.new (w.alloc (.cells #[.int .i64 k, .string f, .string t, .int .i64 lo, .int .i64 hi, .slice a ps.length c] 41)) #[.int .i64 0, .string ⟨#[]⟩, .string ⟨#[]⟩, .int .i64 0, .int .i64 0, .slice none 0 0] 41).alloc (.cells #[.int .i64 k, .string f, .string t, .int .i64 lo, .int .i64 hi, .slice none 0 0] 41)
  have BX := Blk.new ((w.alloc (.cells #[.int .i64 k, .string f, .string t, .int .i64 lo, .int .i64 hi, .slice a ps.length c] 41)).alloc (.cells #[.int .i64 0, .string ⟨#[]⟩, .string ⟨#[]⟩, .int .i64 0, .int .i64 0, .slice none 0 0] 41)) #[.int .i64 k, .string f, .string t, .int .i64 lo, .int .i64 hi, .slice none 0 0] 41
  rw [show (w.alloc (.cells #[.int .i64 k, .string f, .string t, .int .i64 lo, .int .i64 hi, .slice a ps.length c] 41)).heap.size = w.heap.size + 1 by simp] at BZ
  rw [show ((w.alloc (.cells #[.int .i64 k, .string f, .string t, .int .i64 lo, .int .i64 hi, .slice a ps.length c] 41)).alloc (.cells #[.int .i64 0, .string ⟨#[]⟩, .string ⟨#[]⟩, .int .i64 0, .int .i64 0, .slice none 0 0] 41)).heap.size = w.heap.size + 2 by simp] at BX
  have hs3 : (((w.alloc (.cells #[.int .i64 k, .string f, .string t, .int .i64 lo, .int .i64 hi, .slice a ps.length c] 41)).alloc (.cells #[.int .i64 0, .string ⟨#[]⟩, .string ⟨#[]⟩, .int .i64 0, .int .i64 0, .slice none 0 0] 41)).alloc (.cells #[.int .i64 k, .string f, .string t, .int .i64 lo, .int .i64 hi, .slice none 0 0] 41)).heap.size = w.heap.size + 3 := by simp
  have HA : Hid (∀ wx, Below w.heap.size w wx → QAt wx 0 D a ps) := fun wx h => ha.below h
  have HF : Hid (∀ D', D = D' + 1 → OwnS D') := hF
  have HS : Hid (QSz 1048576 D ps) := hsz
  have hz := hsz.len
  clear ha hsz hF hb1 hb2
  go_enter Tryz.func59, Tryz.ntmps59
  go_wp2
  generalize ((w.alloc (.cells #[.int .i64 k, .string f, .string t, .int .i64 lo, .int .i64 hi, .slice a ps.length c] 41)).alloc (.cells #[.int .i64 0, .string ⟨#[]⟩, .string ⟨#[]⟩, .int .i64 0, .int .i64 0, .slice none 0 0] 41)).alloc (.cells #[.int .i64 k, .string f, .string t, .int .i64 lo, .int .i64 hi, .slice none 0 0] 41) = w3 at *
  have HBO : Hid (∀ wx, Below (w.heap.size + 2) w3 wx → Blk wx w.heap.size #[.int .i64 k, .string f, .string t, .int .i64 lo, .int .i64 hi, .slice a ps.length c] 41) := fun wx h => BO.below h (by omega)
  have HBZ : Hid (∀ wx, Below (w.heap.size + 2) w3 wx → Blk wx (w.heap.size + 1) #[.int .i64 0, .string ⟨#[]⟩, .string ⟨#[]⟩, .int .i64 0, .int .i64 0, .slice none 0 0] 41) := fun wx h => BZ.below h (by omega)
  have HB3 : Hid (Below w.heap.size w w3) := hb3
  clear BO BZ hb3
  go_loopw [4] (fun i wr => ∃ (j : Nat) (v : Value) (xs : List Value), j ≤ ps.length ∧ i = .int .i64 j ∧ Below (w.heap.size + 2) w3 wr ∧ Blk wr (w.heap.size + 2) #[.int .i64 k, .string f, .string t, .int .i64 lo, .int .i64 hi, v] 41 ∧ VList wr (fun b => w.heap.size + 3 ≤ b) (w.heap.size + 3) (D - 1) v xs ((List.range j).map fun i => qat ps i)) (fun i _ => ps.length - (intOf i).toNat)
  case atStart => exact ⟨0, _, [], Nat.zero_le _, rfl, Below.refl _ _, BX, VList.nil _ _ _ _⟩
  case round =>
    clear BX
    obtain ⟨j, v, xs, hj, rfl, hbel, hbx, hvl⟩ := hrel
    have HWR : Hid (Below w.heap.size w wr) := HB3.out.trans ⟨hbel.os, hbel.tape, hbel.output, hbel.size, fun b hb => hbel.block b (by omega)⟩
    have BR := HBO.out wr hbel
    have b5 := BR.cell 5
    have hltx : w.heap.size + 2 < wr.heap.size := hbx.lt
    simp at b5
    by_cases hlt : j < ps.length
    · have hji : (j : Int) < (ps.length : Int) := by omega
      obtain ⟨d, hD⟩ : ∃ d, D = d + 1 := by
        cases D with
        | zero =>
          have e : ps = [] := HS.out
          rw [e] at hlt
          exact absurd hlt (by simp)
        | succ d => exact ⟨d, rfl⟩
      have HF' : Hid (OwnS d) := HF.out d hD
      subst hD
      obtain ⟨g, off, rfl, _, hg, hc⟩ := (HA.out wr HWR.out) (by omega)
      obtain ⟨p, c', ⟨c0, c1, c2, c3, c4, c5⟩, hq⟩ := hc j hlt
      obtain ⟨s1, s2, s3⟩ := HS.out.2 j hlt
      have HSN : Hid ((List.range (j + 1)).map (fun i => qat ps i) = (List.range j).map (fun i => qat ps i) ++ [qat ps j]) := by unfold Hid; rw [List.range_succ, List.map_append]; rfl
      have hlj : ((List.range j).map (fun i => qat ps i)).length = j := by simp
      have HVL : Hid (VList wr (fun b => w.heap.size + 3 ≤ b) (w.heap.size + 3) d v xs ((List.range j).map fun i => qat ps i)) := hvl
      have HBX : Hid (Blk wr (w.heap.size + 2) #[.int .i64 k, .string f, .string t, .int .i64 lo, .int .i64 hi, v] 41) := hbx
      have HBE : Hid (Below (w.heap.size + 2) w3 wr) := hbel
      have x5 := hbx.cell 5
      simp at x5
      have HLQ : Hid (((List.range j).map (fun i => qat ps i)).length ≤ 1048576) := by unfold Hid; omega
      generalize (List.range j).map (fun i => qat ps i) = qs at *
      generalize qat ps j = q at *
      obtain ⟨kd, f', t', lo', hi', pp⟩ := q
      simp only [Qy.kind, Qy.field, Qy.text, Qy.low, Qy.high, Qy.parts] at c0 c1 c2 c3 c4 c5 hq s3
      have hqd := hq.drewQ
      have HCL : Hid (∀ wx, QAt wx 0 d p pp → Calls Tryz.prog 59 #[.agg #[.int .i64 kd, .string f', .string t', .int .i64 lo', .int .i64 hi', .slice p pp.length c']] wx fun e w' => ∃ p' c2, e = .returned (.agg #[.int .i64 kd, .string f', .string t', .int .i64 lo', .int .i64 hi', .slice p' pp.length c2]) ∧ QAt w' wx.heap.size d p' pp ∧ Below wx.heap.size wx w') := fun wx h => HF'.out kd f' t' lo' hi' pp p c' wx h s3
      clear hc hvl hbx hbel BR hq s1 s2 s3 hlj HF HF' HA HS
      have HT2 : Hid (∀ p2 cc2, ∀ u ∈ [Value.int .i64 kd, .string f', .string t', .int .i64 lo', .int .i64 hi', .slice p2 pp.length cc2], u.oneCell' = true) := fun p2 cc2 => six_one (.mk kd f' t' lo' hi' pp) p2 cc2
      have HT6 : Hid (qs.length + 1 ≤ maxLen) := by have := HLQ.out; unfold Hid maxLen; omega
      have HT4 : Hid ((qs.length + 1) * 80 ≤ 140737488355328) := by have := HLQ.out; unfold Hid; omega
      go_wp2
      go_region_law (first
        | (go_simp; go_at_call 59; refine (HCL.out _ (by exact hqd)).mono ?_; rintro e w2 ⟨p2, cc2, rfl, hq2, hb2d⟩; have hb2 : Below wr.heap.size wr w2 := ⟨hb2d.os, hb2d.tape, hb2d.output, hb2d.size, hb2d.block⟩; have hbx2 := HBX.out.below hb2 hltx; have k52 := hbx2.cell 5; have l2 := hbx2.lt; have HVL2 := HVL.out.below hb2; simp at k52; clear hb2d)
        | (refine step_append_lies _ (by rfl) _ _ 39 (by rfl) (w.heap.size + 3) 41 i0 (.agg #[.int .i64 0, .string ⟨#[]⟩, .string ⟨#[]⟩, .int .i64 0, .int .i64 0, .slice none 0 0]) 6 80 Tryz.underlying39 hi0 hz0 hz1 hz2 rfl (by decide) v qs.length xs (by rfl) (HVL2.row.alloc _) ⟨w2.heap.size, 0, none⟩ 1 1 [.int .i64 kd, .string f', .string t', .int .i64 lo', .int .i64 hi', .slice p2 pp.length cc2] (by rfl) rfl (cells_new _ _ _) (HT2.out p2 cc2) (by omega) HT6.out HT4.out (by simp; omega) (w2.heap.size + 1) (by simp) ?_; intro g6 c6 w6 hown' hgrow hat hlt6; have hbx6 := (hbx2.alloc (.cells #[.int .i64 kd, .string f', .string t', .int .i64 lo', .int .i64 hi', .slice p2 pp.length cc2] 41)).grown hgrow (fun e => by have := (HVL2.row.lt _ e.symm).1; omega); have k6 := hbx6.cell 5; have y6 := hbx6.frozen 5; simp at k6))
      all_goals
        have hA : Below w2.heap.size w2 (w2.alloc (.cells #[.int .i64 kd, .string f', .string t', .int .i64 lo', .int .i64 hi', .slice p2 pp.length cc2] 41)) := (Below.refl _ _).alloc (Nat.le_refl _) _
        have hb2A : Below wr.heap.size wr (w2.alloc (.cells #[.int .i64 kd, .string f', .string t', .int .i64 lo', .int .i64 hi', .slice p2 pp.length cc2] 41)) := hb2.trans (hA.mono hb2.size)
        have hq2A : QAv (w2.alloc (.cells #[.int .i64 kd, .string f', .string t', .int .i64 lo', .int .i64 hi', .slice p2 pp.length cc2] 41)) (fun b => wr.heap.size ≤ b) d p2 (Qy.mk kd f' t' lo' hi' pp).parts := QAv.of hA.size (fun b hs hlt => ⟨hA.block b hlt, hs⟩) (QAt.av hq2)
        have hvlt : ∀ b, v.ownBlock = some b → w.heap.size + 3 ≤ b ∧ b < wr.heap.size := fun b e => HVL.out.row.lt b e
        have HN6 : VList w6 (fun b => w.heap.size + 3 ≤ b) (w.heap.size + 3) d (.slice (some ⟨g6, 0, none⟩) (qs.length + 1) c6) (xs ++ qVal (.mk kd f' t' lo' hi' pp) p2 cc2) (qs ++ [.mk kd f' t' lo' hi' pp]) := HVL.out.snoc hb2A hq2A (fun b hb => ⟨by omega, fun e => by have := hvlt b e; omega⟩) hown' hgrow (by
          rcases hat with e | e
          · exact .inl e.symm
          · refine .inr ?_
            rw [e, World.size_alloc]
            rfl)
        have HN : Hid (VList (w6.setCell ⟨w.heap.size + 2, 5, none⟩ (.slice (some ⟨g6, 0, none⟩) (qs.length + 1) c6)) (fun b => w.heap.size + 3 ≤ b) (w.heap.size + 3) d (.slice (some ⟨g6, 0, none⟩) (qs.length + 1) c6) (xs ++ qVal (.mk kd f' t' lo' hi' pp) p2 cc2) (qs ++ [.mk kd f' t' lo' hi' pp])) := HN6.set (by show ¬ (w.heap.size + 3 ≤ w.heap.size + 2); omega) (by show w.heap.size + 2 < w.heap.size + 3; omega) _
        have HBN : Hid (Blk (w6.setCell ⟨w.heap.size + 2, 5, none⟩ (.slice (some ⟨g6, 0, none⟩) (qs.length + 1) c6)) (w.heap.size + 2) #[.int .i64 k, .string f, .string t, .int .i64 lo, .int .i64 hi, .slice (some ⟨g6, 0, none⟩) (qs.length + 1) c6] 41) := hbx6.set 5 _
        have hwA : Below (w.heap.size + 2) w3 (w2.alloc (.cells #[.int .i64 kd, .string f', .string t', .int .i64 lo', .int .i64 hi', .slice p2 pp.length cc2] 41)) := HBE.out.trans ⟨hb2A.os, hb2A.tape, hb2A.output, hb2A.size, fun b hb => hb2A.block b (by omega)⟩
        have HWN : Hid (Below (w.heap.size + 2) w3 (w6.setCell ⟨w.heap.size + 2, 5, none⟩ (.slice (some ⟨g6, 0, none⟩) (qs.length + 1) c6))) := (hwA.grown hgrow (by have := hA.size; have := hb2.size; omega) (fun b e => by have := hvlt b e; omega)).setCell (Nat.le_refl _) _
        clear hA hb2A hq2A hvlt HN6 hwA hown' hgrow hat hbx6 hbx2 HVL2 hb2 hq2 k52 k6 y6 HVL HBX HBE HCL HT2 HT6 HT4 hqd x5 b5 c0 c1 c2 c3 c4 c5
        go_wp2
        go_roundw
        case rel => exact ⟨j + 1, _, _, by omega, by go_num, HWN.out, HBN.out, by rw [HSN.out]; exact HN.out⟩
        case measure => simp [intOf]; omega
    · have hjl : j = ps.length := by omega
      subst hjl
      rw [range_qat] at hvl
      obtain ⟨p', c2, hv, hav⟩ := hvl.av (fun b hb => hb)
      subst hv
      have HQ : Hid (QAt wr (w.heap.size + 3) D p' ps) := by
        cases D with
        | zero => exact HS.out
        | succ d => exact hav.at
      have BZR := HBZ.out wr hbel
      have x0 := hbx.cell 0
      have x1 := hbx.cell 1
      have x2 := hbx.cell 2
      have x3 := hbx.cell 3
      have x4 := hbx.cell 4
      have x5 := hbx.cell 5
      have z0 := BZR.cell 0
      have z1 := BZR.cell 1
      have z2 := BZR.cell 2
      have z3 := BZR.cell 3
      have z4 := BZR.cell 4
      have z5 := BZR.cell 5
      have f0 := BZR.frozen 0
      have f1 := BZR.frozen 1
      have f2 := BZR.frozen 2
      have f3 := BZR.frozen 3
      have f4 := BZR.frozen 4
      have f5 := BZR.frozen 5
      simp at x0 x1 x2 x3 x4 x5 z0 z1 z2 z3 z4 z5
      clear hvl hav BZR BR hbx hbel HA HF HS HBO HBZ
      go_wp2
      refine bodyPost_ret (v := .agg #[.int .i64 k, .string f, .string t, .int .i64 lo, .int .i64 hi, .slice p' ps.length c2]) (by simp [results, Tryz.results59, go_sem, z0, z1, z2, z3, z4, z5]) rfl ⟨p', c2, rfl, ?_, ?_⟩
      · refine QAt.base (B := w.heap.size + 3) (by omega) ?_
        exact ((((((HQ.out.set (by simp) _).set (by simp) _).set (by simp) _).set (by simp) _).set (by simp) _).set (by simp) _)
      · exact ((((((HWR.out.setCell (by simp) _).setCell (by simp) _).setCell (by simp) _).setCell (by simp) _).setCell (by simp) _).setCell (by simp) _)
theorem ownS_any : ∀ D, OwnS D
  | 0 => ownS_of (fun D' h => by omega)
  | D + 1 => ownS_of (fun D' h => by obtain rfl : D = D' := by omega
                                     exact ownS_any D)
end Go.Proofs.YtjkimadnopeakaaGreatDoor

/- The walk of spec.l5Turn. -/
namespace Go.Proofs.YtjkimadnopeakaaGreatDoor
open Go.RowKit
set_option linter.unusedVariables false

theorem QAv.mono {w : World} {S : Nat → Prop} : ∀ {d : Nat} {a : Option Addr} {ps : List Qy}, QAv w S d a ps → QAv w S (d + 1) a ps
  | 0, _, ps, h => fun hp => by
    have e : ps = [] := h
    rw [e] at hp
    exact absurd hp (by simp)
  | d + 1, a, ps, h => fun hp => by
    obtain ⟨g, off, e, h1, h2, hc⟩ := h hp
    refine ⟨g, off, e, h1, h2, fun i hi => ?_⟩
    obtain ⟨p, c, hq, hr⟩ := hc i hi
    exact ⟨p, c, hq, QAv.mono hr⟩
theorem QAv.drew {w : World} {S : Nat → Prop} {d : Nat} {a : Option Addr} {ps : List Qy} (h : QAv w S d a ps) : QAv w.drew S d a ps := QAv.of (w := w) (w' := w.drew) (Nat.le_refl _) (fun b hs _ => ⟨rfl, hs⟩) h
theorem avs {w : World} {S : Nat → Prop} {d : Nat} {a : Option Addr} {ps : List Qy} (h : QAv w S d a ps) {x : Addr} (hx : ¬ S x.block) (v : Value) : QAv (w.setCell x v) S d a ps := h.of (by simp [World.setCell]) fun b hs _ => ⟨Below.heap_setCell _ _ _ _ (fun e => hx (e ▸ hs)), hs⟩
theorem av_one {w : World} {S : Nat → Prop} {d c : Nat} {p : Option Addr} {q : Qy} (h : QAv w S d p q.parts) : QAv (w.alloc (.cells #[.int .i64 q.kind, .string q.field, .string q.text, .int .i64 q.low, .int .i64 q.high, .slice p q.parts.length c] 41)) (fun b => S b ∨ w.heap.size ≤ b) (d + 1) (some ⟨w.heap.size, 0, none⟩) [q] := fun _ => by
  refine ⟨w.heap.size, 0, rfl, .inr (Nat.le_refl _), by simp, fun i hi => ?_⟩
  obtain rfl : i = 0 := by simpa using hi
  have B := Blk.new w #[.int .i64 q.kind, .string q.field, .string q.text, .int .i64 q.low, .int .i64 q.high, .slice p q.parts.length c] 41
  refine ⟨p, c, ⟨B.cell 0, B.cell 1, B.cell 2, B.cell 3, B.cell 4, B.cell 5⟩, ?_⟩
  have hA : Below w.heap.size w (w.alloc (.cells #[.int .i64 q.kind, .string q.field, .string q.text, .int .i64 q.low, .int .i64 q.high, .slice p q.parts.length c] 41)) := (Below.refl _ _).alloc (Nat.le_refl _) _
  exact h.of hA.size fun b hs hlt => ⟨hA.block b hlt, .inl hs⟩
/-- spec.l5Turn at trees whose parts are at most D deep. -/
def TurnS (D : Nat) : Prop := ∀ (L d : Nat) (k : Int) (f t : ByteArray) (lo hi : Int) (ps : List Qy) (a : Option Addr) (c : Nat) (w : World), qformB d (.mk k f t lo hi ps) = true → QAv w (fun b => b < L) D a ps → L ≤ w.heap.size → QSz 1048576 D ps →
  Calls Tryz.prog 60 #[.agg #[.int .i64 k, .string f, .string t, .int .i64 lo, .int .i64 hi, .slice a ps.length c]] w fun e w' => ∃ p' c', e = .returned (.agg #[.int .i64 (turnQ D (.mk k f t lo hi ps)).kind, .string (turnQ D (.mk k f t lo hi ps)).field, .string (turnQ D (.mk k f t lo hi ps)).text, .int .i64 (turnQ D (.mk k f t lo hi ps)).low, .int .i64 (turnQ D (.mk k f t lo hi ps)).high, .slice p' (turnQ D (.mk k f t lo hi ps)).parts.length c']) ∧ QAv w' (fun b => b < L ∨ w.heap.size ≤ b) (D + 1) p' (turnQ D (.mk k f t lo hi ps)).parts ∧ Below w.heap.size w w'
set_option maxRecDepth 100000 in
set_option maxHeartbeats 8000000 in
theorem turnS_of {D : Nat} (hF : ∀ D', D = D' + 1 → TurnS D') : TurnS D := by
  intro L d k f t lo hi ps a c w hfm ha hL hsz
  obtain ⟨i0, hi0, hz0, hz1, hz2⟩ := info_parts infoQy
  have hb1 : Below w.heap.size w (w.alloc (.cells #[.int .i64 k, .string f, .string t, .int .i64 lo, .int .i64 hi, .slice a ps.length c] 41)) := (Below.refl _ w).alloc (Nat.le_refl _) _
  have hb2 := hb1.alloc hb1.size (.cells #[.int .i64 0, .string ⟨#[]⟩, .string ⟨#[]⟩, .int .i64 0, .int .i64 0, .slice none 0 0] 41)
  have BO := (Blk.new w #[.int .i64 k, .string f, .string t, .int .i64 lo, .int .i64 hi, .slice a ps.length c] 41).alloc (.cells #[.int .i64 0, .string ⟨#[]⟩, .string ⟨#[]⟩, .int .i64 0, .int .i64 0, .slice none 0 0] 41)
  have BZ := Blk.new (w.alloc (.cells #[.int .i64 k, .string f, .string t, .int .i64 lo, .int .i64 hi, .slice a ps.length c] 41)) #[.int .i64 0, .string ⟨#[]⟩, .string ⟨#[]⟩, .int .i64 0, .int .i64 0, .slice none 0 0] 41
  rw [show (w.alloc (.cells #[.int .i64 k, .string f, .string t, .int .i64 lo, .int .i64 hi, .slice a ps.length c] 41)).heap.size = w.heap.size + 1 by simp] at BZ
  have hs2 : ((w.alloc (.cells #[.int .i64 k, .string f, .string t, .int .i64 lo, .int .i64 hi, .slice a ps.length c] 41)).alloc (.cells #[.int .i64 0, .string ⟨#[]⟩, .string ⟨#[]⟩, .int .i64 0, .int .i64 0, .slice none 0 0] 41)).heap.size = w.heap.size + 2 := by simp
  obtain ⟨w2, hw2⟩ : ∃ w2, (w.alloc (.cells #[.int .i64 k, .string f, .string t, .int .i64 lo, .int .i64 hi, .slice a ps.length c] 41)).alloc (.cells #[.int .i64 0, .string ⟨#[]⟩, .string ⟨#[]⟩, .int .i64 0, .int .i64 0, .slice none 0 0] 41) = w2 := ⟨_, rfl⟩
  have HW2 : Hid ((w.alloc (.cells #[.int .i64 k, .string f, .string t, .int .i64 lo, .int .i64 hi, .slice a ps.length c] 41)).alloc (.cells #[.int .i64 0, .string ⟨#[]⟩, .string ⟨#[]⟩, .int .i64 0, .int .i64 0, .slice none 0 0] 41) = w2) := hw2
  rw [hw2] at hb2 BO BZ hs2
  have HB2 : Hid (Below w.heap.size w w2) := hb2
  have HBO2 : Hid (Blk w2 w.heap.size #[.int .i64 k, .string f, .string t, .int .i64 lo, .int .i64 hi, .slice a ps.length c] 41) := BO
  have HBZ2 : Hid (Blk w2 (w.heap.size + 1) #[.int .i64 0, .string ⟨#[]⟩, .string ⟨#[]⟩, .int .i64 0, .int .i64 0, .slice none 0 0] 41) := BZ
  have HA : Hid (∀ wx, Below w.heap.size w wx → QAv wx (fun b => b < L) D a ps) := fun wx h => ha.of h.size fun b hs hlt => ⟨h.block b hlt, hs⟩
  have HF : Hid (∀ D', D = D' + 1 → TurnS D') := hF
  have HS : Hid (QSz 1048576 D ps) := hsz
  have HFM : Hid (qformB d (.mk k f t lo hi ps) = true) := hfm
  have y0 := BO.cell 0
  have y1 := BO.cell 1
  have y2 := BO.cell 2
  have y3 := BO.cell 3
  have y4 := BO.cell 4
  have y5 := BO.cell 5
  simp at y0 y1 y2 y3 y4 y5
  have hz := hsz.len
  have z0 := BZ.cell 0
  have z1 := BZ.cell 1
  have z2 := BZ.cell 2
  have z3 := BZ.cell 3
  have z4 := BZ.cell 4
  have z5 := BZ.cell 5
  have f0 := BZ.frozen 0
  have f1 := BZ.frozen 1
  have f2 := BZ.frozen 2
  have f3 := BZ.frozen 3
  have f4 := BZ.frozen 4
  have f5 := BZ.frozen 5
  simp at z0 z1 z2 z3 z4 z5
  clear ha hsz hF hw2 hb1 hb2 BO BZ hfm
  by_cases h9 : k = 9
  · subst h9
    have HE : Hid (turnQ D (.mk 9 f t lo hi ps) = qat ps 0) := turn_9 D f t lo hi ps
    have hn1 := form_not HFM.out
    rw [HE.out]
    obtain ⟨D', hD⟩ : ∃ D', D = D' + 1 := by
      cases D with
      | zero =>
        have e : ps = [] := HS.out
        rw [e] at hn1
        cases hn1
      | succ D' => exact ⟨D', rfl⟩
    subst hD
    obtain ⟨g, off, rfl, hgL, hg, hc⟩ := (HA.out w2 HB2.out) (by omega)
    obtain ⟨p, c', ⟨c0, c1, c2, c3, c4, c5⟩, hq⟩ := hc 0 (by omega)
    have hnl : (0 : Int) < (ps.length : Int) := by omega
    have hnl2 : 0 < ps.length := by omega
    have HQ : Hid (QAv w2 (fun b => b < L) D' p (qat ps 0).parts) := hq
    generalize qat ps 0 = q at *
    obtain ⟨kd, f', t', lo', hi', pp⟩ := q
    simp only [Qy.kind, Qy.field, Qy.text, Qy.low, Qy.high, Qy.parts] at c0 c1 c2 c3 c4 c5 ⊢
    simp only [Nat.zero_mul, Nat.add_zero] at c0 c1 c2 c3 c4 c5
    clear hc hq HE HF HS HFM HA hn1
    go_enter Tryz.func60, Tryz.ntmps60
    go_upto_region 1 with fail
    rw [HW2.out]
    clear HW2
    go_wp2
    refine bodyPost_ret (v := .agg #[.int .i64 kd, .string f', .string t', .int .i64 lo', .int .i64 hi', .slice p pp.length c']) (by simp [results, Tryz.results60, go_sem, z0, z1, z2, z3, z4, z5]) rfl ⟨p, c', rfl, ?_, ?_⟩
    · exact (avs (avs (avs (avs (avs (avs HQ.out (x := ⟨w.heap.size + 1, 0, none⟩) (by show ¬ (w.heap.size + 1 < L); omega) _) (x := ⟨w.heap.size + 1, 1, none⟩) (by show ¬ (w.heap.size + 1 < L); omega) _) (x := ⟨w.heap.size + 1, 2, none⟩) (by show ¬ (w.heap.size + 1 < L); omega) _) (x := ⟨w.heap.size + 1, 3, none⟩) (by show ¬ (w.heap.size + 1 < L); omega) _) (x := ⟨w.heap.size + 1, 4, none⟩) (by show ¬ (w.heap.size + 1 < L); omega) _) (x := ⟨w.heap.size + 1, 5, none⟩) (by show ¬ (w.heap.size + 1 < L); omega) _).mono.mono.of (Nat.le_refl _) fun b hs _ => ⟨rfl, .inl hs⟩
    · exact ((((((HB2.out.setCell (by simp) _).setCell (by simp) _).setCell (by simp) _).setCell (by simp) _).setCell (by simp) _).setCell (by simp) _)
  have h9b : (k == 9) = false := beq_eq_false_iff_ne.2 h9
  by_cases h78 : k = 7 ∨ k = 8
  · have HE : Hid (turnQ D (.mk k f t lo hi ps) = .mk (15 - k) ⟨#[]⟩ ⟨#[]⟩ 0 0 (turnT D ps)) := turn_78 D f t lo hi ps h78
    rw [HE.out]
    clear HE
    obtain ⟨rs, hrs0⟩ : ∃ rs, turnT D ps = rs := ⟨_, rfl⟩
    rw [hrs0]
    have HRS : Hid (turnT D ps = rs) := hrs0
    clear hrs0
    rcases h78 with rfl | rfl
    · have hb3 := HB2.out.alloc HB2.out.size (.cells #[.int .i64 8, .string ⟨#[]⟩, .string ⟨#[]⟩, .int .i64 0, .int .i64 0, .slice none 0 0] 41)
      have BO := HBO2.out.alloc (.cells #[.int .i64 8, .string ⟨#[]⟩, .string ⟨#[]⟩, .int .i64 0, .int .i64 0, .slice none 0 0] 41)
      have BZ := HBZ2.out.alloc (.cells #[.int .i64 8, .string ⟨#[]⟩, .string ⟨#[]⟩, .int .i64 0, .int .i64 0, .slice none 0 0] 41)
      have BX := Blk.new w2 #[.int .i64 8, .string ⟨#[]⟩, .string ⟨#[]⟩, .int .i64 0, .int .i64 0, .slice none 0 0] 41
      rw [hs2] at BX
      have hs3 : (w2.alloc (.cells #[.int .i64 8, .string ⟨#[]⟩, .string ⟨#[]⟩, .int .i64 0, .int .i64 0, .slice none 0 0] 41)).heap.size = w.heap.size + 3 := by rw [World.size_alloc, hs2]
      clear HBO2 HBZ2 HB2 z0 z1 z2 z3 z4 z5 f0 f1 f2 f3 f4 f5
      go_enter Tryz.func60, Tryz.ntmps60
      go_upto_region 1 with fail
      rw [HW2.out]
      clear HW2
      go_wp2
      generalize w2.alloc (.cells #[.int .i64 8, .string ⟨#[]⟩, .string ⟨#[]⟩, .int .i64 0, .int .i64 0, .slice none 0 0] 41) = w3 at *
      have HBO : Hid (∀ wx, Below (w.heap.size + 2) w3 wx → Blk wx w.heap.size #[.int .i64 7, .string f, .string t, .int .i64 lo, .int .i64 hi, .slice a ps.length c] 41) := fun wx h => BO.below h (by omega)
      have HBZ : Hid (∀ wx, Below (w.heap.size + 2) w3 wx → Blk wx (w.heap.size + 1) #[.int .i64 0, .string ⟨#[]⟩, .string ⟨#[]⟩, .int .i64 0, .int .i64 0, .slice none 0 0] 41) := fun wx h => BZ.below h (by omega)
      have HB3 : Hid (Below w.heap.size w w3) := hb3
      clear BO BZ hb3 y0 y1 y2 y3 y4 y5 hs2
      go_loopw [4] (fun i wr => ∃ (j : Nat) (v : Value) (xs : List Value), j ≤ ps.length ∧ i = .int .i64 j ∧ Below (w.heap.size + 2) w3 wr ∧ Blk wr (w.heap.size + 2) #[.int .i64 8, .string ⟨#[]⟩, .string ⟨#[]⟩, .int .i64 0, .int .i64 0, v] 41 ∧ VList wr (fun b => b < L ∨ w.heap.size + 3 ≤ b) (w.heap.size + 3) D v xs ((List.range j).map fun i => turnQ (D - 1) (qat ps i))) (fun i _ => ps.length - (intOf i).toNat)
      case atStart => exact ⟨0, _, [], Nat.zero_le _, rfl, Below.refl _ _, BX, VList.nil _ _ _ _⟩
      case round =>
        clear BX
        obtain ⟨j, v, xs, hj, rfl, hbel, hbx, hvl⟩ := hrel
        have HWR : Hid (Below w.heap.size w wr) := HB3.out.trans ⟨hbel.os, hbel.tape, hbel.output, hbel.size, fun b hb => hbel.block b (by omega)⟩
        have BR := HBO.out wr hbel
        have b5 := BR.cell 5
        have hltx : w.heap.size + 2 < wr.heap.size := hbx.lt
        simp at b5
        by_cases hlt : j < ps.length
        · have hji : (j : Int) < (ps.length : Int) := by omega
          obtain ⟨d1, hD⟩ : ∃ d1, D = d1 + 1 := by
            cases D with
            | zero =>
              have e : ps = [] := HS.out
              rw [e] at hlt
              exact absurd hlt (by simp)
            | succ d1 => exact ⟨d1, rfl⟩
          have HF' : Hid (TurnS d1) := HF.out d1 hD
          subst hD
          obtain ⟨dj, _, hfj⟩ := form_part HFM.out (i := j) hlt
          obtain ⟨g, off, rfl, hgL, hg, hc⟩ := (HA.out wr HWR.out) (by omega)
          obtain ⟨p, c', ⟨c0, c1, c2, c3, c4, c5⟩, hq⟩ := hc j hlt
          obtain ⟨s1, s2, s3⟩ := HS.out.2 j hlt
          have HSN : Hid ((List.range (j + 1)).map (fun i => turnQ d1 (qat ps i)) = (List.range j).map (fun i => turnQ d1 (qat ps i)) ++ [turnQ d1 (qat ps j)]) := by unfold Hid; rw [List.range_succ, List.map_append]; rfl
          have hlj : ((List.range j).map (fun i => turnQ d1 (qat ps i))).length = j := by simp
          have HVL : Hid (VList wr (fun b => b < L ∨ w.heap.size + 3 ≤ b) (w.heap.size + 3) (d1 + 1) v xs ((List.range j).map fun i => turnQ d1 (qat ps i))) := hvl
          have HBX : Hid (Blk wr (w.heap.size + 2) #[.int .i64 8, .string ⟨#[]⟩, .string ⟨#[]⟩, .int .i64 0, .int .i64 0, v] 41) := hbx
          have HBE : Hid (Below (w.heap.size + 2) w3 wr) := hbel
          have x5 := hbx.cell 5
          simp at x5
          have HLQ : Hid (((List.range j).map (fun i => turnQ d1 (qat ps i))).length ≤ 1048576) := by unfold Hid; omega
          have hLr : L ≤ wr.heap.size := by omega
          have hcl := fun wx h1 h2 => HF'.out L dj (qat ps j).kind (qat ps j).field (qat ps j).text (qat ps j).low (qat ps j).high (qat ps j).parts p c' wx (by rw [Qy.eta]; exact hfj) h1 h2 s3
          rw [Qy.eta] at hcl
          generalize (List.range j).map (fun i => turnQ d1 (qat ps i)) = qs at *
          generalize turnQ d1 (qat ps j) = q2 at *
          generalize qat ps j = q at *
          obtain ⟨k1, f1, t1, lo1, hi1, p1⟩ := q
          obtain ⟨kd, f', t', lo', hi', pp⟩ := q2
          simp only [Qy.kind, Qy.field, Qy.text, Qy.low, Qy.high, Qy.parts] at c0 c1 c2 c3 c4 c5 hq s3 hcl
          have hqd := hq.drew
          have HCL : Hid (∀ wx, QAv wx (fun b => b < L) d1 p p1 → L ≤ wx.heap.size → Calls Tryz.prog 60 #[.agg #[.int .i64 k1, .string f1, .string t1, .int .i64 lo1, .int .i64 hi1, .slice p p1.length c']] wx fun e w' => ∃ p' c2, e = .returned (.agg #[.int .i64 kd, .string f', .string t', .int .i64 lo', .int .i64 hi', .slice p' pp.length c2]) ∧ QAv w' (fun b => b < L ∨ wx.heap.size ≤ b) (d1 + 1) p' pp ∧ Below wx.heap.size wx w') := hcl
          clear hc hvl hbx hbel BR hq s1 s2 s3 hlj HF HF' HA HS hcl hfj
          have HT2 : Hid (∀ p2 cc2, ∀ u ∈ [Value.int .i64 kd, .string f', .string t', .int .i64 lo', .int .i64 hi', .slice p2 pp.length cc2], u.oneCell' = true) := fun p2 cc2 => six_one (.mk kd f' t' lo' hi' pp) p2 cc2
          have HT6 : Hid (qs.length + 1 ≤ maxLen) := by have := HLQ.out; unfold Hid maxLen; omega
          have HT4 : Hid ((qs.length + 1) * 80 ≤ 140737488355328) := by have := HLQ.out; unfold Hid; omega
          go_wp2
          go_region_law (first
            | (go_simp; go_at_call 60; refine (HCL.out _ (by exact hqd) (by exact hLr)).mono ?_; rintro e wq ⟨p2, cc2, rfl, hq2, hb2d⟩; have hb2 : Below wr.heap.size wr wq := ⟨hb2d.os, hb2d.tape, hb2d.output, hb2d.size, hb2d.block⟩; have hbx2 := HBX.out.below hb2 hltx; have k52 := hbx2.cell 5; have l2 := hbx2.lt; have HVL2 := HVL.out.below hb2; simp at k52; clear hb2d)
            | (refine step_append_lies _ (by rfl) _ _ 39 (by rfl) (w.heap.size + 3) 41 i0 (.agg #[.int .i64 0, .string ⟨#[]⟩, .string ⟨#[]⟩, .int .i64 0, .int .i64 0, .slice none 0 0]) 6 80 Tryz.underlying39 hi0 hz0 hz1 hz2 rfl (by decide) v qs.length xs (by rfl) (HVL2.row.alloc _) ⟨wq.heap.size, 0, none⟩ 1 1 [.int .i64 kd, .string f', .string t', .int .i64 lo', .int .i64 hi', .slice p2 pp.length cc2] (by rfl) rfl (cells_new _ _ _) (HT2.out p2 cc2) (by omega) HT6.out HT4.out (by simp; omega) (wq.heap.size + 1) (by simp) ?_; intro g6 c6 w6 hown' hgrow hat hlt6; have hbx6 := (hbx2.alloc (.cells #[.int .i64 kd, .string f', .string t', .int .i64 lo', .int .i64 hi', .slice p2 pp.length cc2] 41)).grown hgrow (fun e => by have := (HVL2.row.lt _ e.symm).1; omega); have k6 := hbx6.cell 5; have y6 := hbx6.frozen 5; simp at k6))
          all_goals
            have hA : Below wq.heap.size wq (wq.alloc (.cells #[.int .i64 kd, .string f', .string t', .int .i64 lo', .int .i64 hi', .slice p2 pp.length cc2] 41)) := (Below.refl _ _).alloc (Nat.le_refl _) _
            have hb2A : Below wr.heap.size wr (wq.alloc (.cells #[.int .i64 kd, .string f', .string t', .int .i64 lo', .int .i64 hi', .slice p2 pp.length cc2] 41)) := hb2.trans (hA.mono hb2.size)
            have hq2A : QAv (wq.alloc (.cells #[.int .i64 kd, .string f', .string t', .int .i64 lo', .int .i64 hi', .slice p2 pp.length cc2] 41)) (fun b => b < L ∨ wr.heap.size ≤ b) (d1 + 1) p2 (Qy.mk kd f' t' lo' hi' pp).parts := QAv.of hA.size (fun b hs hlt => ⟨hA.block b hlt, hs⟩) hq2
            have hvlt : ∀ b, v.ownBlock = some b → w.heap.size + 3 ≤ b ∧ b < wr.heap.size := fun b e => HVL.out.row.lt b e
            have HN6 : VList w6 (fun b => b < L ∨ w.heap.size + 3 ≤ b) (w.heap.size + 3) (d1 + 1) (.slice (some ⟨g6, 0, none⟩) (qs.length + 1) c6) (xs ++ qVal (.mk kd f' t' lo' hi' pp) p2 cc2) (qs ++ [.mk kd f' t' lo' hi' pp]) := HVL.out.snoc hb2A hq2A (fun b hb => ⟨hb.elim .inl (fun h => .inr (by omega)), fun e => by have := hvlt b e; rcases hb with hb | hb <;> omega⟩) hown' hgrow (by
              rcases hat with e | e
              · exact .inl e.symm
              · refine .inr ?_
                rw [e, World.size_alloc]
                rfl)
            have HN : Hid (VList (w6.setCell ⟨w.heap.size + 2, 5, none⟩ (.slice (some ⟨g6, 0, none⟩) (qs.length + 1) c6)) (fun b => b < L ∨ w.heap.size + 3 ≤ b) (w.heap.size + 3) (d1 + 1) (.slice (some ⟨g6, 0, none⟩) (qs.length + 1) c6) (xs ++ qVal (.mk kd f' t' lo' hi' pp) p2 cc2) (qs ++ [.mk kd f' t' lo' hi' pp])) := HN6.set (by show ¬ (w.heap.size + 2 < L ∨ w.heap.size + 3 ≤ w.heap.size + 2); omega) (by show w.heap.size + 2 < w.heap.size + 3; omega) _
            have HBN : Hid (Blk (w6.setCell ⟨w.heap.size + 2, 5, none⟩ (.slice (some ⟨g6, 0, none⟩) (qs.length + 1) c6)) (w.heap.size + 2) #[.int .i64 8, .string ⟨#[]⟩, .string ⟨#[]⟩, .int .i64 0, .int .i64 0, .slice (some ⟨g6, 0, none⟩) (qs.length + 1) c6] 41) := hbx6.set 5 _
            have hwA : Below (w.heap.size + 2) w3 (wq.alloc (.cells #[.int .i64 kd, .string f', .string t', .int .i64 lo', .int .i64 hi', .slice p2 pp.length cc2] 41)) := HBE.out.trans ⟨hb2A.os, hb2A.tape, hb2A.output, hb2A.size, fun b hb => hb2A.block b (by omega)⟩
            have HWN : Hid (Below (w.heap.size + 2) w3 (w6.setCell ⟨w.heap.size + 2, 5, none⟩ (.slice (some ⟨g6, 0, none⟩) (qs.length + 1) c6))) := (hwA.grown hgrow (by have := hA.size; have := hb2.size; omega) (fun b e => by have := hvlt b e; omega)).setCell (Nat.le_refl _) _
            clear hA hb2A hq2A hvlt HN6 hwA hown' hgrow hat hbx6 hbx2 HVL2 hb2 hq2 k52 k6 y6 HVL HBX HBE HCL HT2 HT6 HT4 hqd x5 b5 c0 c1 c2 c3 c4 c5
            go_wp2
            go_roundw
            case rel => exact ⟨j + 1, _, _, by omega, by go_num, HWN.out, HBN.out, by rw [Nat.add_sub_cancel, HSN.out]; exact HN.out⟩
            case measure => simp [intOf]; omega
        · have hjl : j = ps.length := by omega
          subst hjl
          have hrs : (List.range ps.length).map (fun i => turnQ (D - 1) (qat ps i)) = turnT D ps := by
            cases D with
            | zero =>
              have e : ps = [] := HS.out
              subst e
              rfl
            | succ d1 => rfl
          rw [hrs, HRS.out] at hvl
          obtain ⟨p', c2, hv, hav⟩ := hvl.av (fun b hb => .inr hb)
          subst hv
          have HQ : Hid (QAv wr (fun b => b < L ∨ w.heap.size + 3 ≤ b) (D + 1) p' rs) := hav
          have BZR := HBZ.out wr hbel
          have x0 := hbx.cell 0
          have x1 := hbx.cell 1
          have x2 := hbx.cell 2
          have x3 := hbx.cell 3
          have x4 := hbx.cell 4
          have x5 := hbx.cell 5
          have z0 := BZR.cell 0
          have z1 := BZR.cell 1
          have z2 := BZR.cell 2
          have z3 := BZR.cell 3
          have z4 := BZR.cell 4
          have z5 := BZR.cell 5
          have f0 := BZR.frozen 0
          have f1 := BZR.frozen 1
          have f2 := BZR.frozen 2
          have f3 := BZR.frozen 3
          have f4 := BZR.frozen 4
          have f5 := BZR.frozen 5
          simp at x0 x1 x2 x3 x4 x5 z0 z1 z2 z3 z4 z5
          clear hvl hav BZR BR hbx hbel HA HF HS HBO HBZ
          go_wp2
          refine bodyPost_ret (v := .agg #[.int .i64 8, .string ⟨#[]⟩, .string ⟨#[]⟩, .int .i64 0, .int .i64 0, .slice p' rs.length c2]) (by simp [results, Tryz.results60, go_sem, z0, z1, z2, z3, z4, z5]) rfl ⟨p', c2, rfl, ?_, ?_⟩
          · exact (avs (avs (avs (avs (avs (avs HQ.out (x := ⟨w.heap.size + 1, 0, none⟩) (by show ¬ (w.heap.size + 1 < L ∨ w.heap.size + 3 ≤ w.heap.size + 1); omega) _) (x := ⟨w.heap.size + 1, 1, none⟩) (by show ¬ (w.heap.size + 1 < L ∨ w.heap.size + 3 ≤ w.heap.size + 1); omega) _) (x := ⟨w.heap.size + 1, 2, none⟩) (by show ¬ (w.heap.size + 1 < L ∨ w.heap.size + 3 ≤ w.heap.size + 1); omega) _) (x := ⟨w.heap.size + 1, 3, none⟩) (by show ¬ (w.heap.size + 1 < L ∨ w.heap.size + 3 ≤ w.heap.size + 1); omega) _) (x := ⟨w.heap.size + 1, 4, none⟩) (by show ¬ (w.heap.size + 1 < L ∨ w.heap.size + 3 ≤ w.heap.size + 1); omega) _) (x := ⟨w.heap.size + 1, 5, none⟩) (by show ¬ (w.heap.size + 1 < L ∨ w.heap.size + 3 ≤ w.heap.size + 1); omega) _).of (Nat.le_refl _) fun b hs _ => ⟨rfl, hs.elim .inl (fun h => .inr (by omega))⟩
          · exact ((((((HWR.out.setCell (by simp) _).setCell (by simp) _).setCell (by simp) _).setCell (by simp) _).setCell (by simp) _).setCell (by simp) _)
    · have hb3 := HB2.out.alloc HB2.out.size (.cells #[.int .i64 7, .string ⟨#[]⟩, .string ⟨#[]⟩, .int .i64 0, .int .i64 0, .slice none 0 0] 41)
      have BO := HBO2.out.alloc (.cells #[.int .i64 7, .string ⟨#[]⟩, .string ⟨#[]⟩, .int .i64 0, .int .i64 0, .slice none 0 0] 41)
      have BZ := HBZ2.out.alloc (.cells #[.int .i64 7, .string ⟨#[]⟩, .string ⟨#[]⟩, .int .i64 0, .int .i64 0, .slice none 0 0] 41)
      have BX := Blk.new w2 #[.int .i64 7, .string ⟨#[]⟩, .string ⟨#[]⟩, .int .i64 0, .int .i64 0, .slice none 0 0] 41
      rw [hs2] at BX
      have hs3 : (w2.alloc (.cells #[.int .i64 7, .string ⟨#[]⟩, .string ⟨#[]⟩, .int .i64 0, .int .i64 0, .slice none 0 0] 41)).heap.size = w.heap.size + 3 := by rw [World.size_alloc, hs2]
      clear HBO2 HBZ2 HB2 z0 z1 z2 z3 z4 z5 f0 f1 f2 f3 f4 f5
      go_enter Tryz.func60, Tryz.ntmps60
      go_upto_region 1 with fail
      rw [HW2.out]
      clear HW2
      go_wp2
      generalize w2.alloc (.cells #[.int .i64 7, .string ⟨#[]⟩, .string ⟨#[]⟩, .int .i64 0, .int .i64 0, .slice none 0 0] 41) = w3 at *
      have HBO : Hid (∀ wx, Below (w.heap.size + 2) w3 wx → Blk wx w.heap.size #[.int .i64 8, .string f, .string t, .int .i64 lo, .int .i64 hi, .slice a ps.length c] 41) := fun wx h => BO.below h (by omega)
      have HBZ : Hid (∀ wx, Below (w.heap.size + 2) w3 wx → Blk wx (w.heap.size + 1) #[.int .i64 0, .string ⟨#[]⟩, .string ⟨#[]⟩, .int .i64 0, .int .i64 0, .slice none 0 0] 41) := fun wx h => BZ.below h (by omega)
      have HB3 : Hid (Below w.heap.size w w3) := hb3
      clear BO BZ hb3 y0 y1 y2 y3 y4 y5 hs2
      go_loopw [4] (fun i wr => ∃ (j : Nat) (v : Value) (xs : List Value), j ≤ ps.length ∧ i = .int .i64 j ∧ Below (w.heap.size + 2) w3 wr ∧ Blk wr (w.heap.size + 2) #[.int .i64 7, .string ⟨#[]⟩, .string ⟨#[]⟩, .int .i64 0, .int .i64 0, v] 41 ∧ VList wr (fun b => b < L ∨ w.heap.size + 3 ≤ b) (w.heap.size + 3) D v xs ((List.range j).map fun i => turnQ (D - 1) (qat ps i))) (fun i _ => ps.length - (intOf i).toNat)
      case atStart => exact ⟨0, _, [], Nat.zero_le _, rfl, Below.refl _ _, BX, VList.nil _ _ _ _⟩
      case round =>
        clear BX
        obtain ⟨j, v, xs, hj, rfl, hbel, hbx, hvl⟩ := hrel
        have HWR : Hid (Below w.heap.size w wr) := HB3.out.trans ⟨hbel.os, hbel.tape, hbel.output, hbel.size, fun b hb => hbel.block b (by omega)⟩
        have BR := HBO.out wr hbel
        have b5 := BR.cell 5
        have hltx : w.heap.size + 2 < wr.heap.size := hbx.lt
        simp at b5
        by_cases hlt : j < ps.length
        · have hji : (j : Int) < (ps.length : Int) := by omega
          obtain ⟨d1, hD⟩ : ∃ d1, D = d1 + 1 := by
            cases D with
            | zero =>
              have e : ps = [] := HS.out
              rw [e] at hlt
              exact absurd hlt (by simp)
            | succ d1 => exact ⟨d1, rfl⟩
          have HF' : Hid (TurnS d1) := HF.out d1 hD
          subst hD
          obtain ⟨dj, _, hfj⟩ := form_part HFM.out (i := j) hlt
          obtain ⟨g, off, rfl, hgL, hg, hc⟩ := (HA.out wr HWR.out) (by omega)
          obtain ⟨p, c', ⟨c0, c1, c2, c3, c4, c5⟩, hq⟩ := hc j hlt
          obtain ⟨s1, s2, s3⟩ := HS.out.2 j hlt
          have HSN : Hid ((List.range (j + 1)).map (fun i => turnQ d1 (qat ps i)) = (List.range j).map (fun i => turnQ d1 (qat ps i)) ++ [turnQ d1 (qat ps j)]) := by unfold Hid; rw [List.range_succ, List.map_append]; rfl
          have hlj : ((List.range j).map (fun i => turnQ d1 (qat ps i))).length = j := by simp
          have HVL : Hid (VList wr (fun b => b < L ∨ w.heap.size + 3 ≤ b) (w.heap.size + 3) (d1 + 1) v xs ((List.range j).map fun i => turnQ d1 (qat ps i))) := hvl
          have HBX : Hid (Blk wr (w.heap.size + 2) #[.int .i64 7, .string ⟨#[]⟩, .string ⟨#[]⟩, .int .i64 0, .int .i64 0, v] 41) := hbx
          have HBE : Hid (Below (w.heap.size + 2) w3 wr) := hbel
          have x5 := hbx.cell 5
          simp at x5
          have HLQ : Hid (((List.range j).map (fun i => turnQ d1 (qat ps i))).length ≤ 1048576) := by unfold Hid; omega
          have hLr : L ≤ wr.heap.size := by omega
          have hcl := fun wx h1 h2 => HF'.out L dj (qat ps j).kind (qat ps j).field (qat ps j).text (qat ps j).low (qat ps j).high (qat ps j).parts p c' wx (by rw [Qy.eta]; exact hfj) h1 h2 s3
          rw [Qy.eta] at hcl
          generalize (List.range j).map (fun i => turnQ d1 (qat ps i)) = qs at *
          generalize turnQ d1 (qat ps j) = q2 at *
          generalize qat ps j = q at *
          obtain ⟨k1, f1, t1, lo1, hi1, p1⟩ := q
          obtain ⟨kd, f', t', lo', hi', pp⟩ := q2
          simp only [Qy.kind, Qy.field, Qy.text, Qy.low, Qy.high, Qy.parts] at c0 c1 c2 c3 c4 c5 hq s3 hcl
          have hqd := hq.drew
          have HCL : Hid (∀ wx, QAv wx (fun b => b < L) d1 p p1 → L ≤ wx.heap.size → Calls Tryz.prog 60 #[.agg #[.int .i64 k1, .string f1, .string t1, .int .i64 lo1, .int .i64 hi1, .slice p p1.length c']] wx fun e w' => ∃ p' c2, e = .returned (.agg #[.int .i64 kd, .string f', .string t', .int .i64 lo', .int .i64 hi', .slice p' pp.length c2]) ∧ QAv w' (fun b => b < L ∨ wx.heap.size ≤ b) (d1 + 1) p' pp ∧ Below wx.heap.size wx w') := hcl
          clear hc hvl hbx hbel BR hq s1 s2 s3 hlj HF HF' HA HS hcl hfj
          have HT2 : Hid (∀ p2 cc2, ∀ u ∈ [Value.int .i64 kd, .string f', .string t', .int .i64 lo', .int .i64 hi', .slice p2 pp.length cc2], u.oneCell' = true) := fun p2 cc2 => six_one (.mk kd f' t' lo' hi' pp) p2 cc2
          have HT6 : Hid (qs.length + 1 ≤ maxLen) := by have := HLQ.out; unfold Hid maxLen; omega
          have HT4 : Hid ((qs.length + 1) * 80 ≤ 140737488355328) := by have := HLQ.out; unfold Hid; omega
          go_wp2
          go_region_law (first
            | (go_simp; go_at_call 60; refine (HCL.out _ (by exact hqd) (by exact hLr)).mono ?_; rintro e wq ⟨p2, cc2, rfl, hq2, hb2d⟩; have hb2 : Below wr.heap.size wr wq := ⟨hb2d.os, hb2d.tape, hb2d.output, hb2d.size, hb2d.block⟩; have hbx2 := HBX.out.below hb2 hltx; have k52 := hbx2.cell 5; have l2 := hbx2.lt; have HVL2 := HVL.out.below hb2; simp at k52; clear hb2d)
            | (refine step_append_lies _ (by rfl) _ _ 39 (by rfl) (w.heap.size + 3) 41 i0 (.agg #[.int .i64 0, .string ⟨#[]⟩, .string ⟨#[]⟩, .int .i64 0, .int .i64 0, .slice none 0 0]) 6 80 Tryz.underlying39 hi0 hz0 hz1 hz2 rfl (by decide) v qs.length xs (by rfl) (HVL2.row.alloc _) ⟨wq.heap.size, 0, none⟩ 1 1 [.int .i64 kd, .string f', .string t', .int .i64 lo', .int .i64 hi', .slice p2 pp.length cc2] (by rfl) rfl (cells_new _ _ _) (HT2.out p2 cc2) (by omega) HT6.out HT4.out (by simp; omega) (wq.heap.size + 1) (by simp) ?_; intro g6 c6 w6 hown' hgrow hat hlt6; have hbx6 := (hbx2.alloc (.cells #[.int .i64 kd, .string f', .string t', .int .i64 lo', .int .i64 hi', .slice p2 pp.length cc2] 41)).grown hgrow (fun e => by have := (HVL2.row.lt _ e.symm).1; omega); have k6 := hbx6.cell 5; have y6 := hbx6.frozen 5; simp at k6))
          all_goals
            have hA : Below wq.heap.size wq (wq.alloc (.cells #[.int .i64 kd, .string f', .string t', .int .i64 lo', .int .i64 hi', .slice p2 pp.length cc2] 41)) := (Below.refl _ _).alloc (Nat.le_refl _) _
            have hb2A : Below wr.heap.size wr (wq.alloc (.cells #[.int .i64 kd, .string f', .string t', .int .i64 lo', .int .i64 hi', .slice p2 pp.length cc2] 41)) := hb2.trans (hA.mono hb2.size)
            have hq2A : QAv (wq.alloc (.cells #[.int .i64 kd, .string f', .string t', .int .i64 lo', .int .i64 hi', .slice p2 pp.length cc2] 41)) (fun b => b < L ∨ wr.heap.size ≤ b) (d1 + 1) p2 (Qy.mk kd f' t' lo' hi' pp).parts := QAv.of hA.size (fun b hs hlt => ⟨hA.block b hlt, hs⟩) hq2
            have hvlt : ∀ b, v.ownBlock = some b → w.heap.size + 3 ≤ b ∧ b < wr.heap.size := fun b e => HVL.out.row.lt b e
            have HN6 : VList w6 (fun b => b < L ∨ w.heap.size + 3 ≤ b) (w.heap.size + 3) (d1 + 1) (.slice (some ⟨g6, 0, none⟩) (qs.length + 1) c6) (xs ++ qVal (.mk kd f' t' lo' hi' pp) p2 cc2) (qs ++ [.mk kd f' t' lo' hi' pp]) := HVL.out.snoc hb2A hq2A (fun b hb => ⟨hb.elim .inl (fun h => .inr (by omega)), fun e => by have := hvlt b e; rcases hb with hb | hb <;> omega⟩) hown' hgrow (by
              rcases hat with e | e
              · exact .inl e.symm
              · refine .inr ?_
                rw [e, World.size_alloc]
                rfl)
            have HN : Hid (VList (w6.setCell ⟨w.heap.size + 2, 5, none⟩ (.slice (some ⟨g6, 0, none⟩) (qs.length + 1) c6)) (fun b => b < L ∨ w.heap.size + 3 ≤ b) (w.heap.size + 3) (d1 + 1) (.slice (some ⟨g6, 0, none⟩) (qs.length + 1) c6) (xs ++ qVal (.mk kd f' t' lo' hi' pp) p2 cc2) (qs ++ [.mk kd f' t' lo' hi' pp])) := HN6.set (by show ¬ (w.heap.size + 2 < L ∨ w.heap.size + 3 ≤ w.heap.size + 2); omega) (by show w.heap.size + 2 < w.heap.size + 3; omega) _
            have HBN : Hid (Blk (w6.setCell ⟨w.heap.size + 2, 5, none⟩ (.slice (some ⟨g6, 0, none⟩) (qs.length + 1) c6)) (w.heap.size + 2) #[.int .i64 7, .string ⟨#[]⟩, .string ⟨#[]⟩, .int .i64 0, .int .i64 0, .slice (some ⟨g6, 0, none⟩) (qs.length + 1) c6] 41) := hbx6.set 5 _
            have hwA : Below (w.heap.size + 2) w3 (wq.alloc (.cells #[.int .i64 kd, .string f', .string t', .int .i64 lo', .int .i64 hi', .slice p2 pp.length cc2] 41)) := HBE.out.trans ⟨hb2A.os, hb2A.tape, hb2A.output, hb2A.size, fun b hb => hb2A.block b (by omega)⟩
            have HWN : Hid (Below (w.heap.size + 2) w3 (w6.setCell ⟨w.heap.size + 2, 5, none⟩ (.slice (some ⟨g6, 0, none⟩) (qs.length + 1) c6))) := (hwA.grown hgrow (by have := hA.size; have := hb2.size; omega) (fun b e => by have := hvlt b e; omega)).setCell (Nat.le_refl _) _
            clear hA hb2A hq2A hvlt HN6 hwA hown' hgrow hat hbx6 hbx2 HVL2 hb2 hq2 k52 k6 y6 HVL HBX HBE HCL HT2 HT6 HT4 hqd x5 b5 c0 c1 c2 c3 c4 c5
            go_wp2
            go_roundw
            case rel => exact ⟨j + 1, _, _, by omega, by go_num, HWN.out, HBN.out, by rw [Nat.add_sub_cancel, HSN.out]; exact HN.out⟩
            case measure => simp [intOf]; omega
        · have hjl : j = ps.length := by omega
          subst hjl
          have hrs : (List.range ps.length).map (fun i => turnQ (D - 1) (qat ps i)) = turnT D ps := by
            cases D with
            | zero =>
              have e : ps = [] := HS.out
              subst e
              rfl
            | succ d1 => rfl
          rw [hrs, HRS.out] at hvl
          obtain ⟨p', c2, hv, hav⟩ := hvl.av (fun b hb => .inr hb)
          subst hv
          have HQ : Hid (QAv wr (fun b => b < L ∨ w.heap.size + 3 ≤ b) (D + 1) p' rs) := hav
          have BZR := HBZ.out wr hbel
          have x0 := hbx.cell 0
          have x1 := hbx.cell 1
          have x2 := hbx.cell 2
          have x3 := hbx.cell 3
          have x4 := hbx.cell 4
          have x5 := hbx.cell 5
          have z0 := BZR.cell 0
          have z1 := BZR.cell 1
          have z2 := BZR.cell 2
          have z3 := BZR.cell 3
          have z4 := BZR.cell 4
          have z5 := BZR.cell 5
          have f0 := BZR.frozen 0
          have f1 := BZR.frozen 1
          have f2 := BZR.frozen 2
          have f3 := BZR.frozen 3
          have f4 := BZR.frozen 4
          have f5 := BZR.frozen 5
          simp at x0 x1 x2 x3 x4 x5 z0 z1 z2 z3 z4 z5
          clear hvl hav BZR BR hbx hbel HA HF HS HBO HBZ
          go_wp2
          refine bodyPost_ret (v := .agg #[.int .i64 7, .string ⟨#[]⟩, .string ⟨#[]⟩, .int .i64 0, .int .i64 0, .slice p' rs.length c2]) (by simp [results, Tryz.results60, go_sem, z0, z1, z2, z3, z4, z5]) rfl ⟨p', c2, rfl, ?_, ?_⟩
          · exact (avs (avs (avs (avs (avs (avs HQ.out (x := ⟨w.heap.size + 1, 0, none⟩) (by show ¬ (w.heap.size + 1 < L ∨ w.heap.size + 3 ≤ w.heap.size + 1); omega) _) (x := ⟨w.heap.size + 1, 1, none⟩) (by show ¬ (w.heap.size + 1 < L ∨ w.heap.size + 3 ≤ w.heap.size + 1); omega) _) (x := ⟨w.heap.size + 1, 2, none⟩) (by show ¬ (w.heap.size + 1 < L ∨ w.heap.size + 3 ≤ w.heap.size + 1); omega) _) (x := ⟨w.heap.size + 1, 3, none⟩) (by show ¬ (w.heap.size + 1 < L ∨ w.heap.size + 3 ≤ w.heap.size + 1); omega) _) (x := ⟨w.heap.size + 1, 4, none⟩) (by show ¬ (w.heap.size + 1 < L ∨ w.heap.size + 3 ≤ w.heap.size + 1); omega) _) (x := ⟨w.heap.size + 1, 5, none⟩) (by show ¬ (w.heap.size + 1 < L ∨ w.heap.size + 3 ≤ w.heap.size + 1); omega) _).of (Nat.le_refl _) fun b hs _ => ⟨rfl, hs.elim .inl (fun h => .inr (by omega))⟩
          · exact ((((((HWR.out.setCell (by simp) _).setCell (by simp) _).setCell (by simp) _).setCell (by simp) _).setCell (by simp) _).setCell (by simp) _)
  have h7b : (k == 7) = false := beq_eq_false_iff_ne.2 (by omega)
  have h8b : (k == 8) = false := beq_eq_false_iff_ne.2 (by omega)
  have HE : Hid (turnQ D (.mk k f t lo hi ps) = .mk 9 ⟨#[]⟩ ⟨#[]⟩ 0 0 [.mk k f t lo hi ps]) := turn_no D f t lo hi ps h9 h78
  rw [HE.out]
  have HQ : Hid (QAv w2 (fun b => b < L) D a ps) := HA.out w2 HB2.out
  clear HE HF HS HFM HA
  go_enter Tryz.func60, Tryz.ntmps60
  go_upto_region 1 with fail
  rw [HW2.out]
  clear HW2
  go_wp2
  refine bodyPost_ret (v := .agg #[.int .i64 9, .string ⟨#[]⟩, .string ⟨#[]⟩, .int .i64 0, .int .i64 0, .slice (some ⟨w.heap.size + 2, 0, none⟩) 1 1]) (by simp [results, Tryz.results60, go_sem, z0, z1, z2, z3, z4, z5, hs2]) rfl ⟨some ⟨w.heap.size + 2, 0, none⟩, 1, rfl, ?_, ?_⟩
  · have h1 := (avs (avs (avs (avs (avs (avs HQ.out (x := ⟨w.heap.size + 1, 0, none⟩) (by show ¬ (w.heap.size + 1 < L); omega) (.int .i64 9)) (x := ⟨w.heap.size + 1, 1, none⟩) (by show ¬ (w.heap.size + 1 < L); omega) (.string ⟨#[]⟩)) (x := ⟨w.heap.size + 1, 2, none⟩) (by show ¬ (w.heap.size + 1 < L); omega) (.string ⟨#[]⟩)) (x := ⟨w.heap.size + 1, 3, none⟩) (by show ¬ (w.heap.size + 1 < L); omega) (.int .i64 0)) (x := ⟨w.heap.size + 1, 4, none⟩) (by show ¬ (w.heap.size + 1 < L); omega) (.int .i64 0)) (x := ⟨w.heap.size + 1, 5, none⟩) (by show ¬ (w.heap.size + 1 < L); omega) (.slice (some ⟨w.heap.size + 2, 0, none⟩) 1 1))
    have h2 := av_one (q := .mk k f t lo hi ps) (c := c) h1
    simp only [World.size_setCell, hs2] at h2
    exact h2.of (Nat.le_refl _) fun b hs _ => ⟨rfl, hs.elim .inl (fun h => .inr (by omega))⟩
  · exact ((((((HB2.out.setCell (by simp) _).setCell (by simp) _).setCell (by simp) _).setCell (by simp) _).setCell (by simp) _).setCell (by simp) _).alloc (by simp; omega) _
theorem turnS_any : ∀ D, TurnS D
  | 0 => turnS_of (fun D' h => by omega)
  | D + 1 => turnS_of (fun D' h => by obtain rfl : D = D' := by omega
                                      exact turnS_any D)
end Go.Proofs.YtjkimadnopeakaaGreatDoor

/- QueryTurn of both sides. -/
namespace Go.Proofs.YtjkimadnopeakaaGreatDoor
open Go.RowKit
set_option linter.unusedVariables false

theorem qat_made (g : Nat → Qy) (n i : Nat) (h : i < n) : qat ((List.range n).map g) i = g i := by
  unfold qat
  rw [List.getD_eq_getElem?_getD]
  simp [h]
theorem turn_sz {n : Nat} (hn : 1 ≤ n) : ∀ (D d : Nat) (q : Qy), qformB d q = true → QSz n D q.parts → q.field.size ≤ n → q.text.size ≤ n → QSz n (D + 1) (turnQ D q).parts ∧ (turnQ D q).field.size ≤ n ∧ (turnQ D q).text.size ≤ n
  | D, d, q, h, hs, hf, ht => by
    obtain ⟨k, f, t, lo, hi, ps⟩ := q
    by_cases h9 : k = 9
    · subst h9
      have h1 := form_not h
      rw [turn_9]
      cases D with
      | zero =>
        have e : ps = [] := hs
        rw [e] at h1
        cases h1
      | succ D =>
        obtain ⟨s1, s2, s3⟩ := hs.2 0 (by show 0 < ps.length; omega)
        exact ⟨s3.mono.mono, s1, s2⟩
    by_cases h78 : k = 7 ∨ k = 8
    · rw [turn_78 D f t lo hi ps h78]
      refine ⟨?_, Nat.zero_le _, Nat.zero_le _⟩
      cases D with
      | zero => exact ⟨Nat.zero_le _, fun i hi => absurd hi (Nat.not_lt_zero _)⟩
      | succ D =>
        have hl : (turnT (D + 1) ps).length = ps.length := by show ((List.range ps.length).map _).length = _; simp
        refine ⟨by show (turnT (D + 1) ps).length ≤ n; rw [hl]; exact hs.1, fun i hi => ?_⟩
        have hi2 : i < ps.length := by rw [← hl]; exact hi
        have e : qat (turnT (D + 1) ps) i = turnQ D (qat ps i) := qat_made _ _ _ hi2
        obtain ⟨d', _, h'⟩ := form_part h (i := i) hi2
        obtain ⟨s1, s2, s3⟩ := hs.2 i hi2
        have := turn_sz hn D d' (qat ps i) h' s3 s1 s2
        show (qat (turnT (D + 1) ps) i).field.size ≤ n ∧ (qat (turnT (D + 1) ps) i).text.size ≤ n ∧ QSz n (D + 1) (qat (turnT (D + 1) ps) i).parts
        rw [e]
        exact ⟨this.2.1, this.2.2, this.1⟩
    · rw [turn_no D f t lo hi ps h9 h78]
      refine ⟨⟨hn, fun i hi => ?_⟩, Nat.zero_le _, Nat.zero_le _⟩
      obtain rfl : i = 0 := by
        have : i < 1 := hi
        omega
      exact ⟨hf, ht, hs⟩
def Qy.agg (q : Qy) (p : Option Addr) (c : Nat) : Value := .agg #[.int .i64 q.kind, .string q.field, .string q.text, .int .i64 q.low, .int .i64 q.high, .slice p q.parts.length c]
def qyOk (q : Qy) : Bool := queryB q.kind q.field q.text q.low q.high q.parts
def qyNone : Qy := .mk 0 ⟨#[]⟩ ⟨#[]⟩ 0 0 []
/-- A question can be turned; what it is then. -/
def turnB (D : Nat) (q : Qy) : Bool := qyOk q && qyOk (turnQ D q)
def turnV (D : Nat) (q : Qy) : Qy := if turnB D q = true then turnQ D q else qyNone
set_option maxRecDepth 100000 in
set_option maxHeartbeats 4000000 in
theorem queryTurnI_any (k : Int) (f t : ByteArray) (lo hi : Int) (ps : List Qy) (a : Option Addr) (c D : Nat) (w : World) (ha : QAt w 0 D a ps) (hsz : QSz 1048576 D ps) (hfs : f.size ≤ 1048576) (hts : t.size ≤ 1048576) (hm : MaxL w) :
    Calls Tryz.prog 24 #[.agg #[.int .i64 k, .string f, .string t, .int .i64 lo, .int .i64 hi, .slice a ps.length c]] w fun e w' => ∃ p' c' fp, e = .returned (.tuple #[(turnV D (.mk k f t lo hi ps)).agg p' c', .bool (turnB D (.mk k f t lo hi ps))]) ∧ (QOwn w' (D + 1) p' c' (turnV D (.mk k f t lo hi ps)).parts fp ∧ ∀ b ∈ fp, w.heap.size ≤ b) ∧ Below w.heap.size w w' := by
  have hb1 : Below w.heap.size w (w.alloc (.cells #[.int .i64 k, .string f, .string t, .int .i64 lo, .int .i64 hi, .slice a ps.length c] 41)) := (Below.refl _ w).alloc (Nat.le_refl _) _
  have hb2 := hb1.alloc hb1.size (.cells #[.int .i64 0, .string ⟨#[]⟩, .string ⟨#[]⟩, .int .i64 0, .int .i64 0, .slice none 0 0] 41)
  have BO := (Blk.new w #[.int .i64 k, .string f, .string t, .int .i64 lo, .int .i64 hi, .slice a ps.length c] 41).alloc (.cells #[.int .i64 0, .string ⟨#[]⟩, .string ⟨#[]⟩, .int .i64 0, .int .i64 0, .slice none 0 0] 41)
  have BZ := Blk.new (w.alloc (.cells #[.int .i64 k, .string f, .string t, .int .i64 lo, .int .i64 hi, .slice a ps.length c] 41)) #[.int .i64 0, .string ⟨#[]⟩, .string ⟨#[]⟩, .int .i64 0, .int .i64 0, .slice none 0 0] 41
  rw [show (w.alloc (.cells #[.int .i64 k, .string f, .string t, .int .i64 lo, .int .i64 hi, .slice a ps.length c] 41)).heap.size = w.heap.size + 1 by simp] at BZ
  have hs2 : ((w.alloc (.cells #[.int .i64 k, .string f, .string t, .int .i64 lo, .int .i64 hi, .slice a ps.length c] 41)).alloc (.cells #[.int .i64 0, .string ⟨#[]⟩, .string ⟨#[]⟩, .int .i64 0, .int .i64 0, .slice none 0 0] 41)).heap.size = w.heap.size + 2 := by simp
  have HA : Hid (∀ wx, Below w.heap.size w wx → QAt wx 0 D a ps) := fun wx h => ha.below h
  have HM : Hid (∀ wx, Below w.heap.size w wx → MaxL wx) := fun wx h => hm.below h
  have HS : Hid (QSz 1048576 D ps) := hsz
  have HTB : Hid (turnB D (.mk k f t lo hi ps) = (queryB k f t lo hi ps && qyOk (turnQ D (.mk k f t lo hi ps)))) := rfl
  have HTV : Hid (turnV D (.mk k f t lo hi ps) = if turnB D (.mk k f t lo hi ps) = true then turnQ D (.mk k f t lo hi ps) else qyNone) := rfl
  have HFM : Hid (queryB k f t lo hi ps = true → qformB 4 (.mk k f t lo hi ps) = true) := id
  clear ha hm hsz
  go_enter Tryz.func24, Tryz.ntmps24
  go_wp2_with fail
  generalize (w.alloc (.cells #[.int .i64 k, .string f, .string t, .int .i64 lo, .int .i64 hi, .slice a ps.length c] 41)).alloc (.cells #[.int .i64 0, .string ⟨#[]⟩, .string ⟨#[]⟩, .int .i64 0, .int .i64 0, .slice none 0 0] 41) = w2 at *
  refine (queryOkI_any k f t lo hi ps a c D _ (HA.out _ hb2) HS.out hfs hts (HM.out _ hb2)).mono ?_
  rintro e w3 ⟨rfl, hb3⟩
  have BO3 := BO.below hb3 (by omega)
  have BZ3 := BZ.below hb3 (by omega)
  have hw3 := hb2.trans (hb3.mono hb2.size)
  have hz3 : w.heap.size + 2 ≤ w3.heap.size := by have := hb3.size; omega
  have z0 := BZ3.cell 0
  have z1 := BZ3.cell 1
  have z2 := BZ3.cell 2
  have z3 := BZ3.cell 3
  have z4 := BZ3.cell 4
  have z5 := BZ3.cell 5
  have f0 := BZ3.frozen 0
  have f1 := BZ3.frozen 1
  have f2 := BZ3.frozen 2
  have f3 := BZ3.frozen 3
  have f4 := BZ3.frozen 4
  have f5 := BZ3.frozen 5
  simp at z0 z1 z2 z3 z4 z5
  clear BO BZ hb1 hb2 hb3 hs2
  cases h1 : queryB k f t lo hi ps with
  | false =>
    rw [h1, Bool.false_and] at HTB
    rw [HTB.out, if_neg (by decide)] at HTV
    clear BO3 BZ3 HFM HA HM HS
    go_wp2
    refine bodyPost_ret (v := .tuple #[.agg #[.int .i64 0, .string ⟨#[]⟩, .string ⟨#[]⟩, .int .i64 0, .int .i64 0, .slice none 0 0], .bool false]) (by simp [results, Tryz.results24, go_sem, z0, z1, z2, z3, z4, z5]) rfl ⟨none, 0, [], ?_, ?_, ?_⟩
    · rw [HTV.out, HTB.out]; rfl
    · rw [HTV.out]; exact ⟨.inl ⟨rfl, rfl⟩, fun b hb => by cases hb⟩
    · exact ((((((hw3.setCell (by simp) _).setCell (by simp) _).setCell (by simp) _).setCell (by simp) _).setCell (by simp) _).setCell (by simp) _)
  | true =>
    have HF4 : Hid (qformB 4 (.mk k f t lo hi ps) = true) := HFM.out h1
    rw [h1, Bool.true_and] at HTB
    have hts' := turn_sz (n := 1048576) (by decide) D 4 (.mk k f t lo hi ps) HF4.out HS.out hfs hts
    have hmk := turnI_any D 4 (.mk k f t lo hi ps) a c w3 HF4.out (HA.out _ hw3) HS.out hfs hts
    generalize turnQ D (.mk k f t lo hi ps) = q' at *
    obtain ⟨k', f', t', lo', hi', ps'⟩ := q'
    unfold Makes at hmk
    simp only [Qy.kind, Qy.field, Qy.text, Qy.low, Qy.high, Qy.parts] at hmk hts'
    have HMK : Hid (Calls _ _ _ _ _) := hmk
    have HZ : Hid (QSz 1048576 (D + 1) ps' ∧ f'.size ≤ 1048576 ∧ t'.size ≤ 1048576) := hts'
    have HTB2 : Hid (turnB D (.mk k f t lo hi ps) = queryB k' f' t' lo' hi' ps') := HTB.out
    have y0 := BO3.cell 0
    have y1 := BO3.cell 1
    have y2 := BO3.cell 2
    have y3 := BO3.cell 3
    have y4 := BO3.cell 4
    have y5 := BO3.cell 5
    simp at y0 y1 y2 y3 y4 y5
    clear hmk hts' HF4 HFM HTB z0 z1 z2 z3 z4 z5 f0 f1 f2 f3 f4 f5
    go_wp2_with fail
    refine HMK.out.mono ?_
    rintro e w4 ⟨p4, c4, fp, rfl, ⟨hq4, hf4⟩, hb4⟩
    have hA4 : Below w4.heap.size w4 (w4.alloc (.cells #[.int .i64 k', .string f', .string t', .int .i64 lo', .int .i64 hi', .slice p4 ps'.length c4] 41)) := (Below.refl _ _).alloc (Nat.le_refl _) _
    have hw4 := hw3.trans (hb4.mono hw3.size)
    have hw4a := hw4.trans (hA4.mono hw4.size)
    have BZ4 := (BZ3.below hb4 BZ3.lt).alloc (.cells #[.int .i64 k', .string f', .string t', .int .i64 lo', .int .i64 hi', .slice p4 ps'.length c4] 41)
    have BX4 := Blk.new w4 #[.int .i64 k', .string f', .string t', .int .i64 lo', .int .i64 hi', .slice p4 ps'.length c4] 41
    have hq4a := hq4.below hA4
    have hz4 : w.heap.size + 2 ≤ w4.heap.size := by have := hb4.size; omega
    have HFL : Hid (∀ b ∈ fp, w.heap.size + 2 ≤ b) := fun b hb => by have := hf4 b hb; omega
    clear BO3 BZ3 y0 y1 y2 y3 y4 y5 HMK hb4 hw4 hA4 hq4 hf4
    go_wp2_with fail
    refine (queryOkI_any k' f' t' lo' hi' ps' p4 c4 (D + 1) _ (hq4a.at (fun _ _ => Nat.zero_le _)) HZ.out.1 HZ.out.2.1 HZ.out.2.2 (HM.out _ hw4a)).mono ?_
    rintro e w5 ⟨rfl, hb5⟩
    have BZ5 := BZ4.below hb5 BZ4.lt
    have BX5 := BX4.below hb5 BX4.lt
    have hw5 := hw4a.trans (hb5.mono hw4a.size)
    have HQ : Hid (QOwn w5 (D + 1) p4 c4 ps' fp ∧ ∀ b ∈ fp, w.heap.size + 2 ≤ b) := ⟨hq4a.below hb5, HFL.out⟩
    have z0 := BZ5.cell 0
    have z1 := BZ5.cell 1
    have z2 := BZ5.cell 2
    have z3 := BZ5.cell 3
    have z4 := BZ5.cell 4
    have z5 := BZ5.cell 5
    have f0 := BZ5.frozen 0
    have f1 := BZ5.frozen 1
    have f2 := BZ5.frozen 2
    have f3 := BZ5.frozen 3
    have f4 := BZ5.frozen 4
    have f5 := BZ5.frozen 5
    have x0 := BX5.cell 0
    have x1 := BX5.cell 1
    have x2 := BX5.cell 2
    have x3 := BX5.cell 3
    have x4 := BX5.cell 4
    have x5 := BX5.cell 5
    simp at z0 z1 z2 z3 z4 z5 x0 x1 x2 x3 x4 x5
    have hlx : w4.heap.size < w5.heap.size := BX5.lt
    clear BZ4 BX4 BZ5 BX5 hb5 hw4a hq4a HFL HM HA HS HZ
    cases h2 : queryB k' f' t' lo' hi' ps' with
    | false =>
      rw [h2] at HTB2
      rw [HTB2.out, if_neg (by decide)] at HTV
      go_wp2
      refine bodyPost_ret (v := .tuple #[.agg #[.int .i64 0, .string ⟨#[]⟩, .string ⟨#[]⟩, .int .i64 0, .int .i64 0, .slice none 0 0], .bool false]) (by simp [results, Tryz.results24, go_sem, z0, z1, z2, z3, z4, z5]) rfl ⟨none, 0, [], ?_, ?_, ?_⟩
      · rw [HTV.out, HTB2.out]; rfl
      · rw [HTV.out]; exact ⟨.inl ⟨rfl, rfl⟩, fun b hb => by cases hb⟩
      · exact ((((((hw5.setCell (by simp) _).setCell (by simp) _).setCell (by simp) _).setCell (by simp) _).setCell (by simp) _).setCell (by simp) _)
    | true =>
      rw [h2] at HTB2
      rw [HTB2.out, if_pos rfl] at HTV
      go_wp2
      refine bodyPost_ret (v := .tuple #[.agg #[.int .i64 k', .string f', .string t', .int .i64 lo', .int .i64 hi', .slice p4 ps'.length c4], .bool true]) (by simp [results, Tryz.results24, go_sem, z0, z1, z2, z3, z4, z5]) rfl ⟨p4, c4, fp, ?_, ?_, ?_⟩
      · rw [HTV.out, HTB2.out]; rfl
      · rw [HTV.out]
        refine own_base (B := w.heap.size + 2) (by omega) ?_
        exact own_setQ (own_setQ (own_setQ (own_setQ (own_setQ (own_setQ HQ.out (by simp) _) (by simp) _) (by simp) _) (by simp) _) (by simp) _) (by simp) _
      · exact ((((((hw5.setCell (by simp) _).setCell (by simp) _).setCell (by simp) _).setCell (by simp) _).setCell (by simp) _).setCell (by simp) _)
set_option maxRecDepth 100000 in
set_option maxHeartbeats 4000000 in
theorem queryTurnS_any (k : Int) (f t : ByteArray) (lo hi : Int) (ps : List Qy) (a : Option Addr) (c D : Nat) (w : World) (ha : QAt w 0 D a ps) (hsz : QSz 1048576 D ps) (hfs : f.size ≤ 1048576) (hts : t.size ≤ 1048576) :
    Calls Tryz.prog 25 #[.agg #[.int .i64 k, .string f, .string t, .int .i64 lo, .int .i64 hi, .slice a ps.length c]] w fun e w' => ∃ p' c', e = .returned (.tuple #[(turnV D (.mk k f t lo hi ps)).agg p' c', .bool (turnB D (.mk k f t lo hi ps))]) ∧ QAt w' w.heap.size (D + 1) p' (turnV D (.mk k f t lo hi ps)).parts ∧ Below w.heap.size w w' := by
  have hb1 : Below w.heap.size w (w.alloc (.cells #[.int .i64 k, .string f, .string t, .int .i64 lo, .int .i64 hi, .slice a ps.length c] 41)) := (Below.refl _ w).alloc (Nat.le_refl _) _
  have hb2 := hb1.alloc hb1.size (.cells #[.int .i64 0, .string ⟨#[]⟩, .string ⟨#[]⟩, .int .i64 0, .int .i64 0, .slice none 0 0] 41)
  have BO := (Blk.new w #[.int .i64 k, .string f, .string t, .int .i64 lo, .int .i64 hi, .slice a ps.length c] 41).alloc (.cells #[.int .i64 0, .string ⟨#[]⟩, .string ⟨#[]⟩, .int .i64 0, .int .i64 0, .slice none 0 0] 41)
  have BZ := Blk.new (w.alloc (.cells #[.int .i64 k, .string f, .string t, .int .i64 lo, .int .i64 hi, .slice a ps.length c] 41)) #[.int .i64 0, .string ⟨#[]⟩, .string ⟨#[]⟩, .int .i64 0, .int .i64 0, .slice none 0 0] 41
  rw [show (w.alloc (.cells #[.int .i64 k, .string f, .string t, .int .i64 lo, .int .i64 hi, .slice a ps.length c] 41)).heap.size = w.heap.size + 1 by simp] at BZ
  have hs2 : ((w.alloc (.cells #[.int .i64 k, .string f, .string t, .int .i64 lo, .int .i64 hi, .slice a ps.length c] 41)).alloc (.cells #[.int .i64 0, .string ⟨#[]⟩, .string ⟨#[]⟩, .int .i64 0, .int .i64 0, .slice none 0 0] 41)).heap.size = w.heap.size + 2 := by simp
  have HA : Hid (∀ wx, Below w.heap.size w wx → QAt wx 0 D a ps) := fun wx h => ha.below h
  have HS : Hid (QSz 1048576 D ps) := hsz
  have HTB : Hid (turnB D (.mk k f t lo hi ps) = (queryB k f t lo hi ps && qyOk (turnQ D (.mk k f t lo hi ps)))) := rfl
  have HTV : Hid (turnV D (.mk k f t lo hi ps) = if turnB D (.mk k f t lo hi ps) = true then turnQ D (.mk k f t lo hi ps) else qyNone) := rfl
  have HFM : Hid (queryB k f t lo hi ps = true → qformB 4 (.mk k f t lo hi ps) = true) := id
  clear ha hsz
  go_enter Tryz.func25, Tryz.ntmps25
  go_wp2_with fail
  generalize (w.alloc (.cells #[.int .i64 k, .string f, .string t, .int .i64 lo, .int .i64 hi, .slice a ps.length c] 41)).alloc (.cells #[.int .i64 0, .string ⟨#[]⟩, .string ⟨#[]⟩, .int .i64 0, .int .i64 0, .slice none 0 0] 41) = w2 at *
  refine (queryOkS_any k f t lo hi ps a c D _ (HA.out _ hb2) HS.out hfs hts).mono ?_
  rintro e w3 ⟨rfl, hb3⟩
  have BO3 := BO.below hb3 (by omega)
  have BZ3 := BZ.below hb3 (by omega)
  have hw3 := hb2.trans (hb3.mono hb2.size)
  have hz3 : w.heap.size + 2 ≤ w3.heap.size := by have := hb3.size; omega
  have z0 := BZ3.cell 0
  have z1 := BZ3.cell 1
  have z2 := BZ3.cell 2
  have z3 := BZ3.cell 3
  have z4 := BZ3.cell 4
  have z5 := BZ3.cell 5
  have f0 := BZ3.frozen 0
  have f1 := BZ3.frozen 1
  have f2 := BZ3.frozen 2
  have f3 := BZ3.frozen 3
  have f4 := BZ3.frozen 4
  have f5 := BZ3.frozen 5
  simp at z0 z1 z2 z3 z4 z5
  clear BO BZ hb1 hb2 hb3 hs2
  cases h1 : queryB k f t lo hi ps with
  | false =>
    rw [h1, Bool.false_and] at HTB
    rw [HTB.out, if_neg (by decide)] at HTV
    clear BO3 BZ3 HFM HA HS
    go_wp2
    refine bodyPost_ret (v := .tuple #[.agg #[.int .i64 0, .string ⟨#[]⟩, .string ⟨#[]⟩, .int .i64 0, .int .i64 0, .slice none 0 0], .bool false]) (by simp [results, Tryz.results25, go_sem, z0, z1, z2, z3, z4, z5]) rfl ⟨none, 0, ?_, ?_, ?_⟩
    · rw [HTV.out, HTB.out]; rfl
    · rw [HTV.out]; exact fun hp => absurd hp (Nat.not_lt_zero _)
    · exact ((((((hw3.setCell (by simp) _).setCell (by simp) _).setCell (by simp) _).setCell (by simp) _).setCell (by simp) _).setCell (by simp) _)
  | true =>
    have HF4 : Hid (qformB 4 (.mk k f t lo hi ps) = true) := HFM.out h1
    rw [h1, Bool.true_and] at HTB
    have hts' := turn_sz (n := 1048576) (by decide) D 4 (.mk k f t lo hi ps) HF4.out HS.out hfs hts
    have hmk := turnS_any D w3.heap.size 4 k f t lo hi ps a c w3 HF4.out ((HA.out _ hw3).av.of (Nat.le_refl _) fun b _ hlt => ⟨rfl, hlt⟩) (Nat.le_refl _) HS.out
    generalize turnQ D (.mk k f t lo hi ps) = q' at *
    obtain ⟨k', f', t', lo', hi', ps'⟩ := q'
    simp only [Qy.kind, Qy.field, Qy.text, Qy.low, Qy.high, Qy.parts] at hmk hts'
    have HMK : Hid (Calls _ _ _ _ _) := hmk
    have HZ : Hid (QSz 1048576 (D + 1) ps' ∧ f'.size ≤ 1048576 ∧ t'.size ≤ 1048576) := hts'
    have HTB2 : Hid (turnB D (.mk k f t lo hi ps) = queryB k' f' t' lo' hi' ps') := HTB.out
    have y0 := BO3.cell 0
    have y1 := BO3.cell 1
    have y2 := BO3.cell 2
    have y3 := BO3.cell 3
    have y4 := BO3.cell 4
    have y5 := BO3.cell 5
    simp at y0 y1 y2 y3 y4 y5
    clear hmk hts' HF4 HFM HTB z0 z1 z2 z3 z4 z5 f0 f1 f2 f3 f4 f5
    go_wp2_with fail
    refine HMK.out.mono ?_
    rintro e wt ⟨pt, ct, rfl, hqt, hbt⟩
    have hat : QAt wt 0 (D + 1) pt ps' := (hqt.of (S' := fun b => 0 ≤ b) (Nat.le_refl _) fun b _ _ => ⟨rfl, Nat.zero_le _⟩).at
    have hwt := hw3.trans (hbt.mono hw3.size)
    have hzt : w.heap.size + 2 ≤ wt.heap.size := by have := hbt.size; omega
    have BZt := BZ3.below hbt BZ3.lt
    clear BO3 BZ3 y0 y1 y2 y3 y4 y5 HMK hbt hqt
    go_wp2_with fail
    refine (ownS_any (D + 1) k' f' t' lo' hi' ps' pt ct wt hat HZ.out.1).mono ?_
    rintro e w4 ⟨p4, c4, rfl, hq4, hb4⟩
    have hA4 : Below w4.heap.size w4 (w4.alloc (.cells #[.int .i64 k', .string f', .string t', .int .i64 lo', .int .i64 hi', .slice p4 ps'.length c4] 41)) := (Below.refl _ _).alloc (Nat.le_refl _) _
    have hw4 := hwt.trans (hb4.mono hwt.size)
    have hw4a := hw4.trans (hA4.mono hw4.size)
    have BZ4 := (BZt.below hb4 BZt.lt).alloc (.cells #[.int .i64 k', .string f', .string t', .int .i64 lo', .int .i64 hi', .slice p4 ps'.length c4] 41)
    have BX4 := Blk.new w4 #[.int .i64 k', .string f', .string t', .int .i64 lo', .int .i64 hi', .slice p4 ps'.length c4] 41
    have hq4a := hq4.below hA4
    have hz4 : w.heap.size + 2 ≤ w4.heap.size := by have := hb4.size; omega
    have hq4b := hq4a.base hzt
    clear BZt hat hwt hb4 hw4 hA4 hq4 hq4a
    go_wp2_with fail
    refine (queryOkS_any k' f' t' lo' hi' ps' p4 c4 (D + 1) _ (hq4b.base (Nat.zero_le _)) HZ.out.1 HZ.out.2.1 HZ.out.2.2).mono ?_
    rintro e w5 ⟨rfl, hb5⟩
    have BZ5 := BZ4.below hb5 BZ4.lt
    have BX5 := BX4.below hb5 BX4.lt
    have hw5 := hw4a.trans (hb5.mono hw4a.size)
    have HQ : Hid (QAt w5 (w.heap.size + 2) (D + 1) p4 ps') := hq4b.below hb5
    have z0 := BZ5.cell 0
    have z1 := BZ5.cell 1
    have z2 := BZ5.cell 2
    have z3 := BZ5.cell 3
    have z4 := BZ5.cell 4
    have z5 := BZ5.cell 5
    have f0 := BZ5.frozen 0
    have f1 := BZ5.frozen 1
    have f2 := BZ5.frozen 2
    have f3 := BZ5.frozen 3
    have f4 := BZ5.frozen 4
    have f5 := BZ5.frozen 5
    have x0 := BX5.cell 0
    have x1 := BX5.cell 1
    have x2 := BX5.cell 2
    have x3 := BX5.cell 3
    have x4 := BX5.cell 4
    have x5 := BX5.cell 5
    simp at z0 z1 z2 z3 z4 z5 x0 x1 x2 x3 x4 x5
    have hlx : w4.heap.size < w5.heap.size := BX5.lt
    clear BZ4 BX4 BZ5 BX5 hb5 hw4a hq4b HA HS HZ
    cases h2 : queryB k' f' t' lo' hi' ps' with
    | false =>
      rw [h2] at HTB2
      rw [HTB2.out, if_neg (by decide)] at HTV
      go_wp2
      refine bodyPost_ret (v := .tuple #[.agg #[.int .i64 0, .string ⟨#[]⟩, .string ⟨#[]⟩, .int .i64 0, .int .i64 0, .slice none 0 0], .bool false]) (by simp [results, Tryz.results25, go_sem, z0, z1, z2, z3, z4, z5]) rfl ⟨none, 0, ?_, ?_, ?_⟩
      · rw [HTV.out, HTB2.out]; rfl
      · rw [HTV.out]; exact fun hp => absurd hp (Nat.not_lt_zero _)
      · exact ((((((hw5.setCell (by simp) _).setCell (by simp) _).setCell (by simp) _).setCell (by simp) _).setCell (by simp) _).setCell (by simp) _)
    | true =>
      rw [h2] at HTB2
      rw [HTB2.out, if_pos rfl] at HTV
      go_wp2
      refine bodyPost_ret (v := .tuple #[.agg #[.int .i64 k', .string f', .string t', .int .i64 lo', .int .i64 hi', .slice p4 ps'.length c4], .bool true]) (by simp [results, Tryz.results25, go_sem, z0, z1, z2, z3, z4, z5]) rfl ⟨p4, c4, ?_, ?_, ?_⟩
      · rw [HTV.out, HTB2.out]; rfl
      · rw [HTV.out]
        refine QAt.base (B := w.heap.size + 2) (by omega) ?_
        exact ((((((HQ.out.set (by simp) _).set (by simp) _).set (by simp) _).set (by simp) _).set (by simp) _).set (by simp) _)
      · exact ((((((hw5.setCell (by simp) _).setCell (by simp) _).setCell (by simp) _).setCell (by simp) _).setCell (by simp) _).setCell (by simp) _)
end Go.Proofs.YtjkimadnopeakaaGreatDoor

/- What is turned is met just by what did not meet it: plain mathematics. -/
namespace Go.Proofs.YtjkimadnopeakaaGreatDoor
open Go.RowKit
set_option linter.unusedVariables false

theorem anyTo_congr {f g : Nat → Bool} {k : Nat} (h : ∀ j, j < k → f j = g j) : anyTo f k = anyTo g k := by
  induction k with
  | zero => rfl
  | succ k ih => simp only [anyTo]; rw [ih (fun j hj => h j (by omega)), h k (by omega)]
theorem allTo_not (f : Nat → Bool) : ∀ k, allTo (fun i => !f i) k = !anyTo f k
  | 0 => rfl
  | k + 1 => by simp only [anyTo, allTo, allTo_not f k, Bool.not_or]
theorem kinds_zero {d : Nat} {k : Int} {f t : ByteArray} {lo hi : Int} {ps : List Qy} (h : qformB d (.mk k f t lo hi ps) = true) (hs : ps = []) : k ≠ 7 ∧ k ≠ 8 ∧ k ≠ 9 := by
  subst hs
  exact form_zero h
/-- Deeper than a question lies nothing is asked. -/
theorem meets_deep (fs : List Fld) (key : ByteArray) (cs : List Cel) (n : Nat) : ∀ (D d : Nat) (q : Qy), qformB d q = true → QSz n D q.parts → meetsQ fs key cs (D + 1) q = meetsQ fs key cs D q
  | 0, d, q, h, hs => by
    obtain ⟨k, f, t, lo, hi, ps⟩ := q
    obtain ⟨h7, h8, h9⟩ := kinds_zero h hs
    rw [meets_leaf _ _ _ _ _ _ _ _ _ _ h7 h8 h9, meets_leaf _ _ _ _ _ _ _ _ _ _ h7 h8 h9]
  | D + 1, d, q, h, hs => by
    obtain ⟨k, f, t, lo, hi, ps⟩ := q
    have hp : ∀ i, i < ps.length → meetsQ fs key cs (D + 1) (qat ps i) = meetsQ fs key cs D (qat ps i) := fun i hi' => by
      obtain ⟨d', _, h'⟩ := form_part h (i := i) hi'
      exact meets_deep fs key cs n D d' _ h' (hs.2 i hi').2.2
    by_cases h7 : k = 7
    · subst h7
      rw [meets_7, meets_7]
      exact allTo_congr hp
    by_cases h8 : k = 8
    · subst h8
      rw [meets_8, meets_8]
      exact anyTo_congr hp
    by_cases h9 : k = 9
    · subst h9
      rw [meets_9, meets_9, hp 0 (form_some h (.inr (.inr rfl)))]
    · rw [meets_leaf _ _ _ _ _ _ _ _ _ _ h7 h8 h9, meets_leaf _ _ _ _ _ _ _ _ _ _ h7 h8 h9]
theorem turn_meets (fs : List Fld) (key : ByteArray) (cs : List Cel) (n : Nat) : ∀ (D d : Nat) (q : Qy), qformB d q = true → QSz n D q.parts → meetsQ fs key cs (D + 1) (turnQ D q) = !meetsQ fs key cs D q
  | D, d, q, h, hs => by
    obtain ⟨k, f, t, lo, hi, ps⟩ := q
    by_cases h9 : k = 9
    · subst h9
      have hp := form_some h (.inr (.inr rfl))
      rw [turn_9]
      cases D with
      | zero =>
        have e : ps = [] := hs
        rw [e] at hp
        exact absurd hp (by simp)
      | succ D =>
        obtain ⟨d', _, h'⟩ := form_part h (i := 0) hp
        have s3 := (hs.2 0 hp).2.2
        have h'' : qformB d' (qat ps 0) = true := h'
        rw [meets_9, Bool.not_not, meets_deep fs key cs n (D + 1) d' _ h'' s3.mono, meets_deep fs key cs n D d' _ h'' s3]
    by_cases h78 : k = 7 ∨ k = 8
    · rw [turn_78 D f t lo hi ps h78]
      have hp := form_some h (by omega)
      cases D with
      | zero =>
        have e : ps = [] := hs
        rw [e] at hp
        exact absurd hp (by simp)
      | succ D =>
        have hl : (turnT (D + 1) ps).length = ps.length := by show ((List.range ps.length).map _).length = _; simp
        have hq : ∀ i, i < ps.length → meetsQ fs key cs (D + 1) (qat (turnT (D + 1) ps) i) = !meetsQ fs key cs D (qat ps i) := fun i hi' => by
          have e : qat (turnT (D + 1) ps) i = turnQ D (qat ps i) := qat_made _ _ _ hi'
          obtain ⟨d', _, h'⟩ := form_part h (i := i) hi'
          rw [e]
          exact turn_meets fs key cs n D d' (qat ps i) h' (hs.2 i hi').2.2
        rcases h78 with rfl | rfl
        · show meetsQ fs key cs (D + 1 + 1) (.mk 8 _ _ _ _ _) = _
          rw [meets_8, meets_7, hl, anyTo_congr hq, anyTo_not]
        · show meetsQ fs key cs (D + 1 + 1) (.mk 7 _ _ _ _ _) = _
          rw [meets_7, meets_8, hl, allTo_congr hq, allTo_not]
    · rw [turn_no D f t lo hi ps h9 h78, meets_9]
      rfl
theorem fitOne_789 (fs : List Fld) (k : Int) (f : ByteArray) (h : k = 7 ∨ k = 8 ∨ k = 9) : fitOneS fs k f = true := by
  unfold fitOneS
  rw [if_neg (by omega), if_neg (by omega), if_neg (by omega)]
theorem fit_deep (fs : List Fld) (n : Nat) : ∀ (D : Nat) (q : Qy), QSz n D q.parts → fitS fs (D + 1) q = fitS fs D q
  | 0, q, hs => by
    have e : q.parts = [] := hs
    show (allTo _ q.parts.length && _) = _
    rw [e]
    rfl
  | D + 1, q, hs => by
    show (allTo (fun i => fitS fs (D + 1) (qat q.parts i)) q.parts.length && _) = (allTo (fun i => fitS fs D (qat q.parts i)) q.parts.length && _)
    rw [allTo_congr (g := fun i => fitS fs D (qat q.parts i)) fun i hi => fit_deep fs n D _ (hs.2 i hi).2.2]
theorem turn_fits (fs : List Fld) (n : Nat) : ∀ (D d : Nat) (q : Qy), qformB d q = true → QSz n D q.parts → fitS fs D q = true → fitS fs (D + 1) (turnQ D q) = true
  | D, d, q, h, hs, hf => by
    obtain ⟨k, f, t, lo, hi, ps⟩ := q
    by_cases h9 : k = 9
    · subst h9
      have hp := form_some h (.inr (.inr rfl))
      rw [turn_9]
      cases D with
      | zero =>
        have e : ps = [] := hs
        rw [e] at hp
        exact absurd hp (by simp)
      | succ D =>
        have s3 := (hs.2 0 hp).2.2
        have h1 : (allTo (fun i => fitS fs D (qat ps i)) ps.length && fitOneS fs 9 f) = true := hf
        rw [Bool.and_eq_true] at h1
        have h2 : fitS fs D (qat ps 0) = true := (allTo_iff _ _).1 h1.1 0 hp
        rw [fit_deep fs n (D + 1) (qat ps 0) s3.mono, fit_deep fs n D (qat ps 0) s3, h2]
    by_cases h78 : k = 7 ∨ k = 8
    · rw [turn_78 D f t lo hi ps h78]
      have hp := form_some h (by omega)
      cases D with
      | zero =>
        have e : ps = [] := hs
        rw [e] at hp
        exact absurd hp (by simp)
      | succ D =>
        have hl : (turnT (D + 1) ps).length = ps.length := by show ((List.range ps.length).map _).length = _; simp
        have h1 : (allTo (fun i => fitS fs D (qat ps i)) ps.length && fitOneS fs k f) = true := hf
        rw [Bool.and_eq_true] at h1
        show (allTo (fun i => fitS fs (D + 1) (qat (turnT (D + 1) ps) i)) (turnT (D + 1) ps).length && fitOneS fs (15 - k) ⟨#[]⟩) = true
        rw [hl, Bool.and_eq_true]
        refine ⟨(allTo_iff _ _).2 fun i hi' => ?_, fitOne_789 fs _ _ (by omega)⟩
        have e : qat (turnT (D + 1) ps) i = turnQ D (qat ps i) := qat_made _ _ _ hi'
        obtain ⟨d', _, h'⟩ := form_part h (i := i) hi'
        rw [e]
        exact turn_fits fs n D d' (qat ps i) h' (hs.2 i hi').2.2 ((allTo_iff _ _).1 h1.1 i hi')
    · rw [turn_no D f t lo hi ps h9 h78]
      show (allTo (fun i => fitS fs D (qat [Qy.mk k f t lo hi ps] i)) 1 && fitOneS fs 9 ⟨#[]⟩) = true
      rw [Bool.and_eq_true]
      refine ⟨(allTo_iff _ _).2 fun i hi' => ?_, fitOne_789 fs _ _ (by omega)⟩
      obtain rfl : i = 0 := by omega
      exact hf
theorem fits_split {fs : List Fld} {D : Nat} {k : Int} {f t : ByteArray} {lo hi : Int} {ps : List Qy} (h : fitsB fs D k f t lo hi ps = true) : fieldsB fs = true ∧ queryB k f t lo hi ps = true ∧ fitS fs D (.mk k f t lo hi ps) = true := by
  unfold fitsB at h
  simp only [Bool.and_eq_true] at h
  exact ⟨h.1.1, h.1.2, h.2⟩
def fitsO (fs : List Fld) (D : Nat) (q : Qy) : Bool := fitsB fs D q.kind q.field q.text q.low q.high q.parts
def meetO (fs : List Fld) (key : ByteArray) (cs : List Cel) (D : Nat) (q : Qy) : Bool := meetB fs key cs D q.kind q.field q.text q.low q.high q.parts
theorem ok_form {q : Qy} (h : qyOk q = true) : qformB 4 q = true := by
  unfold qyOk queryB at h
  rwa [Qy.eta] at h
/-- What is turned fits, and is met just by what does not meet it. -/
theorem turned_fits {fs : List Fld} {D : Nat} {q : Qy} (n : Nat) (hs : QSz n D q.parts) (hf : fitsO fs D q = true) (ht : turnB D q = true) : fitsO fs (D + 1) (turnQ D q) = true := by
  obtain ⟨h1, h2, h3⟩ := fits_split hf
  unfold turnB at ht
  rw [Bool.and_eq_true] at ht
  have h4 := turn_fits fs n D 4 q (ok_form ht.1) hs (by rw [Qy.eta] at h3; exact h3)
  unfold fitsO fitsB
  have h5 : queryB (turnQ D q).kind (turnQ D q).field (turnQ D q).text (turnQ D q).low (turnQ D q).high (turnQ D q).parts = true := ht.2
  rw [h1, h5, Qy.eta, h4]
  rfl
theorem turned_meets {fs : List Fld} {key : ByteArray} {cs : List Cel} {D : Nat} {q : Qy} (n : Nat) (hs : QSz n D q.parts) (hd : docOkB fs key cs = true) (hf : fitsO fs D q = true) (ht : turnB D q = true) : meetO fs key cs (D + 1) (turnQ D q) = !meetO fs key cs D q := by
  have hf2 := turned_fits n hs hf ht
  unfold fitsO at hf hf2
  unfold turnB at ht
  rw [Bool.and_eq_true] at ht
  unfold meetO meetB
  rw [hd, hf, hf2, Qy.eta, Qy.eta, Bool.and_true, Bool.true_and, Bool.true_and]
  exact turn_meets fs key cs n D 4 q (ok_form ht.1) hs
/-- What is turned twice is met by the same. -/
theorem twice_meets {fs : List Fld} {key : ByteArray} {cs : List Cel} {D : Nat} {q : Qy} (hs : QSz 1048576 D q.parts) (hq1 : q.field.size ≤ 1048576) (hq2 : q.text.size ≤ 1048576) (hf : fitsO fs D q = true) (h1 : turnB D q = true) (h2 : turnB (D + 1) (turnQ D q) = true) : meetO fs key cs (D + 1 + 1) (turnQ (D + 1) (turnQ D q)) = meetO fs key cs D q := by
  have h1' := h1
  unfold turnB at h1'
  rw [Bool.and_eq_true] at h1'
  have hs2 := (turn_sz (by decide) D 4 q (ok_form h1'.1) hs hq1 hq2).1
  have hf2 := turned_fits 1048576 hs hf h1
  cases hd : docOkB fs key cs with
  | false =>
    unfold meetO meetB
    rw [hd]
    rfl
  | true => rw [turned_meets 1048576 hs2 hd hf2 h2, turned_meets 1048576 hs hd hf h1, Bool.not_not]
end Go.Proofs.YtjkimadnopeakaaGreatDoor

/- The walk of the law FnMeetsTurn. -/
namespace Go.Proofs.YtjkimadnopeakaaGreatDoor
open Go.RowKit
set_option linter.unusedVariables false

theorem celsB_smallM {cs : List Cel} (h : CelsB cs) : CelsSmall cs := fun i hi => by
  rw [cat_get _ _ hi]
  have := h _ (List.getElem_mem hi)
  omega
theorem turnV_szT {D : Nat} {q : Qy} (hs : QSz 1048576 D q.parts) (hf : q.field.size ≤ 1048576) (ht : q.text.size ≤ 1048576) : QSz 1048576 (D + 1) (turnV D q).parts ∧ (turnV D q).field.size ≤ 1048576 ∧ (turnV D q).text.size ≤ 1048576 := by
  unfold turnV
  split
  · rename_i h
    unfold turnB at h
    rw [Bool.and_eq_true] at h
    exact turn_sz (by decide) D 4 q (ok_form h.1) hs hf ht
  · exact ⟨⟨Nat.zero_le _, fun i hi => absurd hi (Nat.not_lt_zero _)⟩, Nat.zero_le _, Nat.zero_le _⟩
set_option maxRecDepth 100000 in
set_option maxHeartbeats 8000000 in
theorem wFnMeetsTurn (a0 : Option Addr) (len0 cap0 : Nat) (w : World) (hm : MaxL w) (b0 : BytesIn w a0 len0 cap0) :
    Calls Tryz.prog 5 #[.slice a0 len0 cap0] w fun e w' => e = .returned (.bool true) ∧ Below w.heap.size w w' := by
  have m0 := b0.le
  have m1 := b0.max
  unfold maxLen at m1
  by_cases hbig0 : 1048576 < (len0 : Int)
  · clear b0 hm
    go_enter Tryz.func5, Tryz.ntmps5
    go_wp2
    go_ret
    exact ⟨rfl, Below.refl _ _⟩
  have HM : Hid (∀ wx, Below w.heap.size w wx → MaxL wx) := fun wx h => hm.below h
  clear hm
  go_enter Tryz.func5, Tryz.ntmps5
  go_wp2_with fail
  refine (drawMeets_any _ _ _ _ b0).mono ?_
  rintro e u1 ⟨vf, fs, key, vc, cs, k, lo, hi, f, t, ps, p, c, rfl, hfl, hfb, hof, hkey, hcs, hcb, hoc, hf, ht, hat, hsz, hb1⟩
  obtain ⟨pf, cf, rfl, hcf, _, hrf⟩ := owns_fldRow hof (fldTo_cells fs)
  obtain ⟨pc, cc, rfl, _, _, _, hrc⟩ := owns_celRow hoc (celTo_cells cs)
  have HB1 : Hid (Below w.heap.size w u1) := hb1
  have HMU : Hid (∀ wx, Below u1.heap.size u1 wx → MaxL wx) := fun wx h => HM.out wx (below_trans hb1 h)
  have hpl : ps.length ≤ 16 := hsz.len
  have hs4 : QSz 1048576 4 ps := hsz.grow (by decide)
  have ha0 := hat.base (Nat.zero_le _)
  have HS : Hid (QSz 1048576 4 ps) := hs4
  have HIN : Hid (∀ wx, Below u1.heap.size u1 wx → MtIn wx pf cf fs key pc cs) := fun wx h => ⟨by omega, hcf, hfb.small, hrf.below h, by omega, by omega, celsB_smallM hcb, hrc.below h, HMU.out wx h⟩
  have HA : Hid (∀ wx, Below u1.heap.size u1 wx → QAt wx 0 4 p ps) := fun wx h => ha0.below h
  have HI : Hid (∀ wx, Below u1.heap.size u1 wx → Calls Tryz.prog 17 #[.slice pf fs.length cf, .agg #[.string key, .slice pc cs.length cc], .agg #[.int .i64 k, .string f, .string t, .int .i64 lo, .int .i64 hi, .slice p ps.length c]] wx fun e w' => e = .returned (.bool (meetB fs key cs 4 k f t lo hi ps)) ∧ Below wx.heap.size wx w') := fun wx h => meetsI_any pf cf fs key pc cc cs k f t lo hi ps p c 4 wx (HIN.out wx h) (ha0.below h) hs4 (by omega) (by omega)
  have HSPunused : True := trivial
  have HSP : Hid (∀ wx, Below u1.heap.size u1 wx → Calls Tryz.prog 13 #[.slice pf fs.length cf, .agg #[.string key, .slice pc cs.length cc], .agg #[.int .i64 k, .string f, .string t, .int .i64 lo, .int .i64 hi, .slice p ps.length c]] wx fun e w' => e = .returned (.bool (meetB fs key cs 4 k f t lo hi ps)) ∧ Below wx.heap.size wx w') := fun wx h => meetsS_any pf cf fs key pc cc cs k f t lo hi ps p c 4 wx (HIN.out wx h) (ha0.below h) hs4 (by omega) (by omega)
  have HDO : Hid (∀ wx, Below u1.heap.size u1 wx → Calls Tryz.prog 22 #[.slice pf fs.length cf, .agg #[.string key, .slice pc cs.length cc]] wx fun e w' => e = .returned (.bool (docOkB fs key cs)) ∧ Below wx.heap.size wx w') := fun wx h => by
    have i := HIN.out wx h
    exact docOkS_any pf cf fs key pc cc cs wx i.zf i.sf i.rf i.zk i.zc i.sc i.rc
  have HQF : Hid (∀ wx, Below u1.heap.size u1 wx → Calls Tryz.prog 23 #[.slice pf fs.length cf, .agg #[.int .i64 k, .string f, .string t, .int .i64 lo, .int .i64 hi, .slice p ps.length c]] wx fun e w' => e = .returned (.bool (fitsB fs 4 k f t lo hi ps)) ∧ Below wx.heap.size wx w') := fun wx h => by
    have i := HIN.out wx h
    exact queryFitsS_any pf cf fs k f t lo hi ps p c 4 wx i.zf i.sf i.rf (ha0.below h) hs4 (by omega) (by omega)
  have HI2 : Hid (∀ wx, Below u1.heap.size u1 wx → Calls Tryz.prog 17 #[.slice pf fs.length cf, .agg #[.string key, .slice pc cs.length cc], .agg #[.int .i64 k, .string f, .string t, .int .i64 lo, .int .i64 hi, .slice p ps.length c]] wx fun e w' => e = .returned (.bool (meetB fs key cs 4 k f t lo hi ps)) ∧ Below wx.heap.size wx w') := HI.out
  have htw : turnB 4 (.mk k f t lo hi ps) = true → docOkB fs key cs = true → fitsB fs 4 k f t lo hi ps = true → fitsO fs 5 (turnV 4 (.mk k f t lo hi ps)) = true ∧ meetO fs key cs 5 (turnV 4 (.mk k f t lo hi ps)) = !meetB fs key cs 4 k f t lo hi ps := fun h1 h2 h3 => by
    have e1 : turnV 4 (.mk k f t lo hi ps) = turnQ 4 (.mk k f t lo hi ps) := if_pos h1
    rw [e1]
    exact ⟨turned_fits (q := .mk k f t lo hi ps) 1048576 hs4 h3 h1, turned_meets (q := .mk k f t lo hi ps) 1048576 hs4 h2 h3 h1⟩
  have HTW : Hid _ := htw
  have hT1 : Hid (∀ wx, Below u1.heap.size u1 wx → Calls Tryz.prog 24 #[.agg #[.int .i64 k, .string f, .string t, .int .i64 lo, .int .i64 hi, .slice p ps.length c]] wx fun e w' => ∃ p' c', e = .returned (.tuple #[(turnV 4 (.mk k f t lo hi ps)).agg p' c', .bool (turnB 4 (.mk k f t lo hi ps))]) ∧ QAt w' 0 5 p' (turnV 4 (.mk k f t lo hi ps)).parts ∧ Below wx.heap.size wx w') := fun wx h => by
    refine (queryTurnI_any k f t lo hi ps p c 4 wx (ha0.below h) hs4 (by omega) (by omega) (HMU.out wx h)).mono ?_
    rintro e w' ⟨p', c', fp, rfl, ⟨hq, _⟩, hb⟩
    exact ⟨p', c', rfl, hq.at (fun _ _ => Nat.zero_le _), hb⟩
  have hT2 : Hid (∀ wx, Below u1.heap.size u1 wx → Calls Tryz.prog 25 #[.agg #[.int .i64 k, .string f, .string t, .int .i64 lo, .int .i64 hi, .slice p ps.length c]] wx fun e w' => ∃ p' c', e = .returned (.tuple #[(turnV 4 (.mk k f t lo hi ps)).agg p' c', .bool (turnB 4 (.mk k f t lo hi ps))]) ∧ QAt w' 0 5 p' (turnV 4 (.mk k f t lo hi ps)).parts ∧ Below wx.heap.size wx w') := fun wx h => by
    refine (queryTurnS_any k f t lo hi ps p c 4 wx (ha0.below h) hs4 (by omega) (by omega)).mono ?_
    rintro e w' ⟨p', c', rfl, hq, hb⟩
    exact ⟨p', c', rfl, hq.base (Nat.zero_le _), hb⟩
  have hz1 : QSz 1048576 5 (turnV 4 (.mk k f t lo hi ps)).parts ∧ (turnV 4 (.mk k f t lo hi ps)).field.size ≤ 1048576 ∧ (turnV 4 (.mk k f t lo hi ps)).text.size ≤ 1048576 := turnV_szT hs4 (by show f.size ≤ _; omega) (by show t.size ≤ _; omega)
  obtain ⟨X, hX⟩ : ∃ X, turnV 4 (.mk k f t lo hi ps) = X := ⟨_, rfl⟩
  obtain ⟨b1, hb1e⟩ : ∃ b1, turnB 4 (.mk k f t lo hi ps) = b1 := ⟨_, rfl⟩
  rw [hX] at HTW hT1 hT2 hz1
  rw [hb1e] at HTW hT1 hT2
  have HM3 : Hid (∀ wx p2 c2, Below u1.heap.size u1 wx → QAt wx 0 5 p2 X.parts → Calls Tryz.prog 17 #[.slice pf fs.length cf, .agg #[.string key, .slice pc cs.length cc], X.agg p2 c2] wx fun e w' => e = .returned (.bool (meetO fs key cs 5 X)) ∧ Below wx.heap.size wx w') := fun wx p2 c2 h hq => by
    obtain ⟨ky, fy, ty, ly, hy, py⟩ := X
    exact meetsI_any pf cf fs key pc cc cs ky fy ty ly hy py p2 c2 5 wx (HIN.out wx h) hq hz1.1 hz1.2.1 hz1.2.2
  have HF3 : Hid (∀ wx p2 c2, Below u1.heap.size u1 wx → QAt wx 0 5 p2 X.parts → Calls Tryz.prog 27 #[.slice pf fs.length cf, X.agg p2 c2] wx fun e w' => e = .returned (.bool (fitsO fs 5 X)) ∧ Below wx.heap.size wx w') := fun wx p2 c2 h hq => by
    obtain ⟨ky, fy, ty, ly, hy, py⟩ := X
    have i := HIN.out wx h
    exact queryFitsI_any pf cf fs ky fy ty ly hy py p2 c2 5 wx i.zf i.cf i.sf i.rf hq hz1.1 hz1.2.1 hz1.2.2 i.m
  have HSD : Hid (∀ wx p2 c2 p3 c3, QAt wx 0 5 p2 X.parts → QAt wx 0 5 p3 X.parts → Calls Tryz.prog 26 #[X.agg p2 c2, X.agg p3 c3] wx fun e w' => e = .returned (.bool true) ∧ Below wx.heap.size wx w') := fun wx p2 c2 p3 c3 h1 h2 => by
    obtain ⟨ky, fy, ty, ly, hy, py⟩ := X
    exact sdQ_any 5 ky fy ty ly hy py p2 p3 c2 c3 wx h1 h2 hz1.1
  generalize meetO fs key cs 5 X = mo at *
  generalize fitsO fs 5 X = fo at *
  generalize meetB fs key cs 4 k f t lo hi ps = mb at *
  generalize docOkB fs key cs = bd at *
  generalize fitsB fs 4 k f t lo hi ps = bf at *
  have HTWH : Hid (b1 = true → bd = true → bf = true → fo = true ∧ mo = !mb) := HTW.out
  clear hX hb1e hz1 htw HTW HSPunused HSP HI
  obtain ⟨kx, fx, tx, lx, hx, px⟩ := X
  simp only [Qy.agg, Qy.kind, Qy.field, Qy.text, Qy.low, Qy.high, Qy.parts] at hT1 hT2 HM3 HF3 HSD
  have hA1 : Below u1.heap.size u1 ((u1.alloc (.cells #[.string key, .slice pc cs.length cc] 37)).alloc (.cells #[.int .i64 k, .string f, .string t, .int .i64 lo, .int .i64 hi, .slice p ps.length c] 41)) := ((Below.refl _ _).alloc (Nat.le_refl _) _).alloc (by simp) _
  have D0 : Blk ((u1.alloc (.cells #[.string key, .slice pc cs.length cc] 37)).alloc (.cells #[.int .i64 k, .string f, .string t, .int .i64 lo, .int .i64 hi, .slice p ps.length c] 41)) u1.heap.size #[.string key, .slice pc cs.length cc] 37 := (Blk.new u1 _ _).alloc _
  have Q0 : QBox ((u1.alloc (.cells #[.string key, .slice pc cs.length cc] 37)).alloc (.cells #[.int .i64 k, .string f, .string t, .int .i64 lo, .int .i64 hi, .slice p ps.length c] 41)) (u1.heap.size + 1) k f t lo hi p ps.length c := by
    have h := Blk.new (u1.alloc (.cells #[.string key, .slice pc cs.length cc] 37)) #[.int .i64 k, .string f, .string t, .int .i64 lo, .int .i64 hi, .slice p ps.length c] 41
    rw [World.size_alloc] at h
    exact h
  clear b0 HM hof hat hoc hsz hs4 ha0 hrf hrc hfb hcb hb1 hf ht hcf hfl hkey hcs
  go_upto_region 4 with fail
  obtain ⟨N, hN⟩ : ∃ N, u1.heap.size = N := ⟨_, rfl⟩
  obtain ⟨u2, hu2⟩ : ∃ u2, ((u1.alloc (.cells #[.string key, .slice pc cs.length cc] 37)).alloc (.cells #[.int .i64 k, .string f, .string t, .int .i64 lo, .int .i64 hi, .slice p ps.length c] 41)) = u2 := ⟨_, rfl⟩
  rw [hu2] at hA1 D0 Q0 ⊢
  rw [hN] at D0 Q0 ⊢
  have HDB : Hid (∀ wx, Below u2.heap.size u2 wx → Blk wx N #[.string key, .slice pc cs.length cc] 37) := fun wx h => D0.below h D0.lt
  have HQB : Hid (∀ wx, Below u2.heap.size u2 wx → QBox wx (N + 1) k f t lo hi p ps.length c) := fun wx h => Q0.below h Q0.lt
  have HB2 : Hid (∀ wx, Below u2.heap.size u2 wx → Below u1.heap.size u1 wx) := fun wx h => below_trans hA1 h
  have HWW : Hid (∀ wx, Below u1.heap.size u1 wx → Below w.heap.size w wx) := fun wx h => HB1.out.trans (h.mono HB1.out.size)
  have z0 := D0.cell 0
  have z1 := D0.cell 1
  have y0 := Q0.cell 0
  have y1 := Q0.cell 1
  have y2 := Q0.cell 2
  have y3 := Q0.cell 3
  have y4 := Q0.cell 4
  have y5 := Q0.cell 5
  simp at z0 z1 y0 y1 y2 y3 y4 y5
  have hA2 := HB2.out u2 (Below.refl _ _)
  clear hu2 hA1 D0 Q0 hN
  go_wp2_with fail
  refine (hT1.out _ hA2).mono ?_
  rintro e u4 ⟨p4, c4, rfl, q4, hb4⟩
  clear z0 z1 y0 y1 y2 y3 y4 y5 hA2
  have hX4 : Below u4.heap.size u4 (u4.alloc (.cells #[.int .i64 kx, .string fx, .string tx, .int .i64 lx, .int .i64 hx, .slice p4 px.length c4] 41)) := (Below.refl _ _).alloc (Nat.le_refl _) _
  have X4 := Blk.new u4 #[.int .i64 kx, .string fx, .string tx, .int .i64 lx, .int .i64 hx, .slice p4 px.length c4] 41
  go_upto_region 5 with fail
  obtain ⟨G4, hG4⟩ : ∃ G4, u4.heap.size = G4 := ⟨_, rfl⟩
  obtain ⟨u5, hu5⟩ : ∃ u5, u4.alloc (.cells #[.int .i64 kx, .string fx, .string tx, .int .i64 lx, .int .i64 hx, .slice p4 px.length c4] 41) = u5 := ⟨_, rfl⟩
  have q5 := q4.below hX4
  rw [hu5] at hX4 X4 q5 ⊢
  rw [hG4] at X4 ⊢
  have hb5 := below_trans hb4 hX4
  have hA5 := HB2.out u5 hb5
  have HX5 : Hid (∀ wx, Below u5.heap.size u5 wx → QBox wx G4 kx fx tx lx hx p4 px.length c4 ∧ QAt wx 0 5 p4 px) := fun wx h => ⟨X4.below h X4.lt, q5.below h⟩
  have Q5 := HQB.out _ hb5
  have D5 := HDB.out _ hb5
  have z0 := D5.cell 0
  have z1 := D5.cell 1
  have y0 := Q5.cell 0
  have y1 := Q5.cell 1
  have y2 := Q5.cell 2
  have y3 := Q5.cell 3
  have y4 := Q5.cell 4
  have y5 := Q5.cell 5
  simp at z0 z1 y0 y1 y2 y3 y4 y5
  clear hu5 hG4 X4 hX4 q4 q5 hb4 Q5 D5
  go_wp2_with fail
  refine (hT2.out _ hA5).mono ?_
  rintro e u6 ⟨p6, c6, rfl, q6, hb6⟩
  have hb26 := below_trans hb5 hb6
  clear z0 z1 y0 y1 y2 y3 y4 y5 hA5 hT1 hT2
  have hX6 : Below u6.heap.size u6 (u6.alloc (.cells #[.int .i64 kx, .string fx, .string tx, .int .i64 lx, .int .i64 hx, .slice p6 px.length c6] 41)) := (Below.refl _ _).alloc (Nat.le_refl _) _
  have X6 := Blk.new u6 #[.int .i64 kx, .string fx, .string tx, .int .i64 lx, .int .i64 hx, .slice p6 px.length c6] 41
  go_upto_region 6 with fail
  obtain ⟨G6, hG6⟩ : ∃ G6, u6.heap.size = G6 := ⟨_, rfl⟩
  obtain ⟨u7, hu7⟩ : ∃ u7, u6.alloc (.cells #[.int .i64 kx, .string fx, .string tx, .int .i64 lx, .int .i64 hx, .slice p6 px.length c6] 41) = u7 := ⟨_, rfl⟩
  have q7 := q6.below hX6
  rw [hu7] at hX6 X6 q7 ⊢
  rw [hG6] at X6 ⊢
  have hb57 := below_trans hb6 hX6
  have hb7 := below_trans hb26 hX6
  have hA7 := HB2.out u7 hb7
  have HX7 : Hid (∀ wx, Below u7.heap.size u7 wx → QBox wx G4 kx fx tx lx hx p4 px.length c4 ∧ QAt wx 0 5 p4 px ∧ QBox wx G6 kx fx tx lx hx p6 px.length c6 ∧ QAt wx 0 5 p6 px) := fun wx h => ⟨(HX5.out _ (below_trans hb57 h)).1, (HX5.out _ (below_trans hb57 h)).2, X6.below h X6.lt, q7.below h⟩
  have HC7 : Hid (∀ wx, Below u7.heap.size u7 wx → Below u2.heap.size u2 wx) := fun wx h => below_trans hb7 h
  have hXA := HX7.out _ (Below.refl _ _)
  have a0' := hXA.1.cell 0
  have a1' := hXA.1.cell 1
  have a2' := hXA.1.cell 2
  have a3' := hXA.1.cell 3
  have a4' := hXA.1.cell 4
  have a5' := hXA.1.cell 5
  have g0' := hXA.2.2.1.cell 0
  have g1' := hXA.2.2.1.cell 1
  have g2' := hXA.2.2.1.cell 2
  have g3' := hXA.2.2.1.cell 3
  have g4' := hXA.2.2.1.cell 4
  have g5' := hXA.2.2.1.cell 5
  have HS1 := HSD.out u7 p4 c4 p6 c6 hXA.2.1 hXA.2.2.2
  simp at a0' a1' a2' a3' a4' a5' g0' g1' g2' g3' g4' g5'
  clear hu7 hG6 X6 hX6 q6 q7 hb6 hb26 hb5 hb57 hb7 hXA HX5
  have hbb : (b1 != b1) = false := by cases b1 <;> rfl
  have hbe : (b1 == b1) = true := by cases b1 <;> rfl
  go_wp2_with fail
  refine HS1.mono ?_
  rintro e u8 ⟨rfl, hb8⟩
  clear HS1 a0' a1' a2' a3' a4' a5' g0' g1' g2' g3' g4' g5' hA7
  cases b1 with
  | false =>
    have hXB := HX7.out _ hb8
    have a0' := hXB.1.cell 0
    have a1' := hXB.1.cell 1
    have a2' := hXB.1.cell 2
    have a3' := hXB.1.cell 3
    have a4' := hXB.1.cell 4
    have a5' := hXB.1.cell 5
    have g0' := hXB.2.2.1.cell 0
    have g1' := hXB.2.2.1.cell 1
    have g2' := hXB.2.2.1.cell 2
    have g3' := hXB.2.2.1.cell 3
    have g4' := hXB.2.2.1.cell 4
    have g5' := hXB.2.2.1.cell 5
    have HS2 := HSD.out _ p4 c4 p6 c6 hXB.2.1 hXB.2.2.2
    simp at a0' a1' a2' a3' a4' a5' g0' g1' g2' g3' g4' g5'
    clear hXB HX7 HSD HQF HDO HM3 HF3 HI2 HTWH
    go_wp2_with fail
    refine HS2.mono ?_
    rintro e u9 ⟨rfl, hb9d⟩
    have hw9 := HWW.out _ (HB2.out _ (HC7.out _ (below_trans hb8 hb9d)))
    clear HS2 a0' a1' a2' a3' a4' a5' g0' g1' g2' g3' g4' g5'
    go_wp2
    go_ret
    exact ⟨rfl, hw9⟩
  | true =>
    have hA8 := HB2.out _ (HC7.out _ hb8)
    have D8 := HDB.out _ (HC7.out _ hb8)
    have Q8 := HQB.out _ (HC7.out _ hb8)
    have z0 := D8.cell 0
    have z1 := D8.cell 1
    have y0 := Q8.cell 0
    have y1 := Q8.cell 1
    have y2 := Q8.cell 2
    have y3 := Q8.cell 3
    have y4 := Q8.cell 4
    have y5 := Q8.cell 5
    simp at z0 z1 y0 y1 y2 y3 y4 y5
    clear D8 Q8
    go_wp2_with fail
    refine (HDO.out _ hA8).mono ?_
    rintro e v1 ⟨rfl, hv1⟩
    have hb10 := below_trans hb8 hv1
    clear z0 z1 y0 y1 y2 y3 y4 y5 hA8 hv1 hb8
    cases bd with
    | false =>
      have hXB := HX7.out _ hb10
      have a0' := hXB.1.cell 0
      have a1' := hXB.1.cell 1
      have a2' := hXB.1.cell 2
      have a3' := hXB.1.cell 3
      have a4' := hXB.1.cell 4
      have a5' := hXB.1.cell 5
      have g0' := hXB.2.2.1.cell 0
      have g1' := hXB.2.2.1.cell 1
      have g2' := hXB.2.2.1.cell 2
      have g3' := hXB.2.2.1.cell 3
      have g4' := hXB.2.2.1.cell 4
      have g5' := hXB.2.2.1.cell 5
      have HS2 := HSD.out _ p4 c4 p6 c6 hXB.2.1 hXB.2.2.2
      simp at a0' a1' a2' a3' a4' a5' g0' g1' g2' g3' g4' g5'
      clear hXB HX7 HSD HQF HDO HM3 HF3 HI2 HTWH
      go_wp2_with fail
      refine HS2.mono ?_
      rintro e u9 ⟨rfl, hb9d⟩
      have hw9 := HWW.out _ (HB2.out _ (HC7.out _ (below_trans hb10 hb9d)))
      clear HS2 a0' a1' a2' a3' a4' a5' g0' g1' g2' g3' g4' g5'
      go_wp2
      go_ret
      exact ⟨rfl, hw9⟩
    | true =>
      have hA10 := HB2.out _ (HC7.out _ hb10)
      have D10 := HDB.out _ (HC7.out _ hb10)
      have Q10 := HQB.out _ (HC7.out _ hb10)
      have z0 := D10.cell 0
      have z1 := D10.cell 1
      have y0 := Q10.cell 0
      have y1 := Q10.cell 1
      have y2 := Q10.cell 2
      have y3 := Q10.cell 3
      have y4 := Q10.cell 4
      have y5 := Q10.cell 5
      simp at z0 z1 y0 y1 y2 y3 y4 y5
      clear D10 Q10
      go_wp2_with fail
      refine (HQF.out _ hA10).mono ?_
      rintro e v2 ⟨rfl, hv2⟩
      have hb11 := below_trans hb10 hv2
      clear z0 z1 y0 y1 y2 y3 y4 y5 hA10 hv2 hb10
      cases bf with
      | false =>
        have hXB := HX7.out _ hb11
        have a0' := hXB.1.cell 0
        have a1' := hXB.1.cell 1
        have a2' := hXB.1.cell 2
        have a3' := hXB.1.cell 3
        have a4' := hXB.1.cell 4
        have a5' := hXB.1.cell 5
        have g0' := hXB.2.2.1.cell 0
        have g1' := hXB.2.2.1.cell 1
        have g2' := hXB.2.2.1.cell 2
        have g3' := hXB.2.2.1.cell 3
        have g4' := hXB.2.2.1.cell 4
        have g5' := hXB.2.2.1.cell 5
        have HS2 := HSD.out _ p4 c4 p6 c6 hXB.2.1 hXB.2.2.2
        simp at a0' a1' a2' a3' a4' a5' g0' g1' g2' g3' g4' g5'
        clear hXB HX7 HSD HQF HDO HM3 HF3 HI2 HTWH
        go_wp2_with fail
        refine HS2.mono ?_
        rintro e u9 ⟨rfl, hb9d⟩
        have hw9 := HWW.out _ (HB2.out _ (HC7.out _ (below_trans hb11 hb9d)))
        clear HS2 a0' a1' a2' a3' a4' a5' g0' g1' g2' g3' g4' g5'
        go_wp2
        go_ret
        exact ⟨rfl, hw9⟩
      | true =>
        obtain ⟨hfo, hmo⟩ := HTWH.out (by first | trivial | rfl) (by first | trivial | rfl) (by first | trivial | rfl)
        subst hfo
        subst hmo
        have HCL : Hid (∀ wx, Below v2.heap.size v2 wx → (wx.cell? ⟨G4, 0, none⟩ = some (.int .i64 kx) ∧ wx.cell? ⟨G4, 1, none⟩ = some (.string fx) ∧ wx.cell? ⟨G4, 2, none⟩ = some (.string tx) ∧ wx.cell? ⟨G4, 3, none⟩ = some (.int .i64 lx) ∧ wx.cell? ⟨G4, 4, none⟩ = some (.int .i64 hx) ∧ wx.cell? ⟨G4, 5, none⟩ = some (.slice p4 px.length c4)) ∧ (wx.cell? ⟨N, 0, none⟩ = some (.string key) ∧ wx.cell? ⟨N, 1, none⟩ = some (.slice pc cs.length cc)) ∧ (wx.cell? ⟨N + 1, 0, none⟩ = some (.int .i64 k) ∧ wx.cell? ⟨N + 1, 1, none⟩ = some (.string f) ∧ wx.cell? ⟨N + 1, 2, none⟩ = some (.string t) ∧ wx.cell? ⟨N + 1, 3, none⟩ = some (.int .i64 lo) ∧ wx.cell? ⟨N + 1, 4, none⟩ = some (.int .i64 hi) ∧ wx.cell? ⟨N + 1, 5, none⟩ = some (.slice p ps.length c))) := fun wx h => by
          have h7 := below_trans hb11 h
          have X := (HX7.out _ h7).1
          have D := HDB.out _ (HC7.out _ h7)
          have Q := HQB.out _ (HC7.out _ h7)
          exact ⟨⟨X.cell 0, X.cell 1, X.cell 2, X.cell 3, X.cell 4, X.cell 5⟩, ⟨D.cell 0, D.cell 1⟩, ⟨Q.cell 0, Q.cell 1, Q.cell 2, Q.cell 3, Q.cell 4, Q.cell 5⟩⟩
        have HUP : Hid (∀ wx, Below v2.heap.size v2 wx → Below u1.heap.size u1 wx) := fun wx h => HB2.out _ (HC7.out _ (below_trans hb11 h))
        have HCF : Hid (∀ wx, Below v2.heap.size v2 wx → Calls Tryz.prog 27 #[.slice pf fs.length cf, .agg #[.int .i64 kx, .string fx, .string tx, .int .i64 lx, .int .i64 hx, .slice p4 px.length c4]] wx fun e w' => e = .returned (.bool true) ∧ Below wx.heap.size wx w') := fun wx h => HF3.out wx p4 c4 (HUP.out wx h) (HX7.out _ (below_trans hb11 h)).2.1
        have HCX : Hid (∀ wx, Below v2.heap.size v2 wx → Calls Tryz.prog 17 #[.slice pf fs.length cf, .agg #[.string key, .slice pc cs.length cc], .agg #[.int .i64 kx, .string fx, .string tx, .int .i64 lx, .int .i64 hx, .slice p4 px.length c4]] wx fun e w' => e = .returned (.bool (!mb)) ∧ Below wx.heap.size wx w') := fun wx h => HM3.out wx p4 c4 (HUP.out wx h) (HX7.out _ (below_trans hb11 h)).2.1
        have HCQ : Hid (∀ wx, Below v2.heap.size v2 wx → Calls Tryz.prog 17 #[.slice pf fs.length cf, .agg #[.string key, .slice pc cs.length cc], .agg #[.int .i64 k, .string f, .string t, .int .i64 lo, .int .i64 hi, .slice p ps.length c]] wx fun e w' => e = .returned (.bool mb) ∧ Below wx.heap.size wx w') := fun wx h => HI2.out wx (HUP.out wx h)
        have HWF : Hid (∀ wx, Below v2.heap.size v2 wx → Below w.heap.size w wx) := fun wx h => HWW.out _ (HUP.out wx h)
        obtain ⟨⟨a0', a1', a2', a3', a4', a5'⟩, ⟨z0, z1⟩, ⟨y0, y1, y2, y3, y4, y5⟩⟩ := HCL.out _ (Below.refl _ _)
        clear HTWH HX7 HSD HQF HDO HM3 HF3 HI2 HUP HC7 HB2 HWW HDB HQB
        go_wp2_with fail
        go_region_law (first
          | (go_simp; go_at_call 27; refine (HCF.out _ (below_drew (Below.refl _ _))).mono ?_; rintro e r1 ⟨rfl, hr1d⟩; have hr1 : Below v2.heap.size v2 r1 := ⟨hr1d.os, hr1d.tape, hr1d.output, hr1d.size, hr1d.block⟩; clear hr1d; obtain ⟨⟨b0', b1', b2', b3', b4', b5'⟩, ⟨d0', d1'⟩, ⟨e0', e1', e2', e3', e4', e5'⟩⟩ := HCL.out _ hr1)
          | (have hguard := hr2; clear hguard; go_simp; go_at_call 17; refine (HCQ.out _ hr2).mono ?_; rintro e r3 ⟨rfl, hr3d⟩; have hr3 : Below v2.heap.size v2 r3 := below_trans hr2 hr3d; clear hr3d)
          | (go_simp; go_at_call 17; refine (HCX.out _ hr1).mono ?_; rintro e r2 ⟨rfl, hr2d⟩; have hr2 : Below v2.heap.size v2 r2 := below_trans hr1 hr2d; clear hr2d; obtain ⟨_, ⟨i0', i1'⟩, ⟨j0', j1', j2', j3', j4', j5'⟩⟩ := HCL.out _ hr2))
        all_goals
          have hww := HWF.out _ hr3
          clear HCL HCF HCX HCQ HWF
          go_wp2
          go_ret
          exact ⟨by cases mb <;> rfl, hww⟩
end Go.Proofs.YtjkimadnopeakaaGreatDoor
