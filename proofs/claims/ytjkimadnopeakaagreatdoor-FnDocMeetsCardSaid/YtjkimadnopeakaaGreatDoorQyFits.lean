/- impl.kindsFit, spec.l5Fits: does a question ask of fields as they are? -/
import Derived.Test.YtjkimadnopeakaaGreatDoorQyPlain
import Derived.Test.YtjkimadnopeakaaGreatDoorKindB
import Derived.Test.YtjkimadnopeakaaGreatDoorOpenQy
namespace Go.Proofs.YtjkimadnopeakaaGreatDoor
open Go.RowKit
set_option linter.unusedVariables false

def askK (k : Int) : Int := if k = 5 then 2 else if k = 6 then 3 else 1
def fitOneI (fs : List Fld) (k : Int) (f : ByteArray) : Bool := noB f || kindB fs f (askK k)
def fitOneS (fs : List Fld) (k : Int) (f : ByteArray) : Bool :=
  if k = 2 ∨ k = 3 ∨ k = 4 then noB f || kindB fs f 1 else if k = 5 then kindB fs f 2 else if k = 6 then kindB fs f 3 else true
def fitI (fs : List Fld) : Nat → Qy → Bool
  | 0, q => fitOneI fs q.kind q.field
  | d + 1, q => allTo (fun i => fitI fs d (qat q.parts i)) q.parts.length && fitOneI fs q.kind q.field
def fitS (fs : List Fld) : Nat → Qy → Bool
  | 0, q => fitOneS fs q.kind q.field
  | d + 1, q => allTo (fun i => fitS fs d (qat q.parts i)) q.parts.length && fitOneS fs q.kind q.field
def fitTI (fs : List Fld) (D : Nat) (ps : List Qy) (j : Nat) : Bool := match D with
  | 0 => true
  | d + 1 => allTo (fun i => fitI fs d (qat ps i)) j
def fitTS (fs : List Fld) (D : Nat) (ps : List Qy) (j : Nat) : Bool := match D with
  | 0 => true
  | d + 1 => allTo (fun i => fitS fs d (qat ps i)) j
theorem fitI_split (fs : List Fld) (D : Nat) (q : Qy) : fitI fs D q = (fitTI fs D q.parts q.parts.length && fitOneI fs q.kind q.field) := by cases D <;> rfl
theorem fitS_split (fs : List Fld) (D : Nat) (q : Qy) : fitS fs D q = (fitTS fs D q.parts q.parts.length && fitOneS fs q.kind q.field) := by cases D <;> rfl
theorem kindAsked_any (k : Int) (w : World) : Calls Tryz.prog 107 #[.int .i64 k] w fun e w' => e = .returned (.int .i64 (askK k)) ∧ w' = w := by
  have HK : Hid (askK k = if k = 5 then 2 else if k = 6 then 3 else 1) := rfl
  by_cases h5 : k = 5
  · have hb : (k == 5) = true := beq_iff_eq.2 h5
    rw [if_pos h5] at HK
    go_enter Tryz.func107, Tryz.ntmps107
    go_wp2
    go_ret
    exact ⟨by rw [HK.out]; rfl, rfl⟩
  · have hb : (k == 5) = false := beq_eq_false_iff_ne.2 h5
    rw [if_neg h5] at HK
    by_cases h6 : k = 6
    · have hb6 : (k == 6) = true := beq_iff_eq.2 h6
      rw [if_pos h6] at HK
      go_enter Tryz.func107, Tryz.ntmps107
      go_wp2
      go_ret
      exact ⟨by rw [HK.out]; rfl, rfl⟩
    · have hb6 : (k == 6) = false := beq_eq_false_iff_ne.2 h6
      rw [if_neg h6] at HK
      go_enter Tryz.func107, Tryz.ntmps107
      go_wp2
      go_ret
      exact ⟨by rw [HK.out]; rfl, rfl⟩
theorem found_kindQ {fs : List Fld} {n : ByteArray} {f : Fld} {b : Bool} (h : FoundF fs n f b) (k : Int) (hk : k ≠ 0) : (b && (f.kind == k)) = kindB fs n k := by
  unfold kindB
  rcases found_idx h with ⟨rfl, h1, rfl⟩ | ⟨rfl, h1⟩
  · rfl
  · rw [h1]
    simp [fat]
    exact fun e => hk e.symm
theorem askK_ne (k : Int) : askK k ≠ 0 := by unfold askK; split <;> (try split) <;> decide
/-- impl.kindsFit at questions whose parts are at most D deep. -/
def KindsFit (D : Nat) : Prop := ∀ (fa : Option Addr) (cap : Nat) (fs : List Fld) (k : Int) (f t : ByteArray) (lo hi : Int) (ps : List Qy) (a : Option Addr) (c : Nat) (w : World), fs.length ≤ 1048576 → FldRow w fa fs → QAt w 0 D a ps → QSz 1048576 D ps →
  Calls Tryz.prog 62 #[.slice fa fs.length cap, .agg #[.int .i64 k, .string f, .string t, .int .i64 lo, .int .i64 hi, .slice a ps.length c]] w fun e w' => e = .returned (.bool (fitI fs D (.mk k f t lo hi ps))) ∧ Below w.heap.size w w'
set_option maxRecDepth 100000 in
set_option maxHeartbeats 4000000 in
theorem kindsFit_of {D : Nat} (hF : ∀ D', D = D' + 1 → KindsFit D') : KindsFit D := by
  intro fa fcap fs k f t lo hi ps a cap w hzf hrf ha hsz
  have HF : Hid (∀ D', D = D' + 1 → KindsFit D') := hF
  have hz := hsz.len
  have HS : Hid (QSz 1048576 D ps) := hsz
  have HB : Hid (fitI fs D (.mk k f t lo hi ps) = (fitTI fs D ps ps.length && fitOneI fs k f)) := fitI_split fs D _
  have hb0 : Below w.heap.size w (w.alloc (.cells #[.int .i64 k, .string f, .string t, .int .i64 lo, .int .i64 hi, .slice a ps.length cap] 41)) := (Below.refl _ w).alloc (Nat.le_refl _) _
  have B0 := Blk.new w #[.int .i64 k, .string f, .string t, .int .i64 lo, .int .i64 hi, .slice a ps.length cap] 41
  have HA : Hid (∀ wx, Below w.heap.size w wx → QAt wx 0 D a ps) := fun wx h => ha.below h
  have HFR : Hid (∀ wx, Below w.heap.size w wx → FldRow wx fa fs) := fun wx h => hrf.below h
  obtain ⟨wa, hwa⟩ : ∃ wa, w.alloc (.cells #[.int .i64 k, .string f, .string t, .int .i64 lo, .int .i64 hi, .slice a ps.length cap] 41) = wa := ⟨_, rfl⟩
  have HWA : Hid (w.alloc (.cells #[.int .i64 k, .string f, .string t, .int .i64 lo, .int .i64 hi, .slice a ps.length cap] 41) = wa) := hwa
  rw [hwa] at hb0 B0
  have HB0 : Hid (Below w.heap.size w wa) := hb0
  have HBK : Hid (∀ wx, Below wa.heap.size wa wx → Blk wx w.heap.size #[.int .i64 k, .string f, .string t, .int .i64 lo, .int .i64 hi, .slice a ps.length cap] 41) := fun wx h => B0.below h B0.lt
  clear ha hsz hF hrf hwa hb0 B0
  go_enter Tryz.func62, Tryz.ntmps62
  go_wp2
  rw [HWA.out]
  clear HWA
  go_loopw [12] (fun i wr => ∃ j : Nat, j ≤ ps.length ∧ i = .int .i64 j ∧ fitTI fs D ps j = true ∧ Below wa.heap.size wa wr) (fun i _ => ps.length - (intOf i).toNat)
  case atStart => exact ⟨0, Nat.zero_le _, rfl, by cases D <;> rfl, Below.refl _ _⟩
  case round =>
    obtain ⟨j, hj, rfl, hall, hbel⟩ := hrel
    have HAL : Hid (fitTI fs D ps j = true) := hall
    have HWR : Hid (Below w.heap.size w wr) := HB0.out.trans (hbel.mono HB0.out.size)
    have BR := HBK.out wr hbel
    clear hall
    by_cases hlt : j < ps.length
    · have hji : (j : Int) < (ps.length : Int) := by omega
      obtain ⟨D', hD⟩ : ∃ D', D = D' + 1 := by
        cases D with
        | zero =>
          have e : ps = [] := HS.out
          rw [e] at hlt
          exact absurd hlt (by simp)
        | succ D' => exact ⟨D', rfl⟩
      have HF' : Hid (KindsFit D') := HF.out D' hD
      subst hD
      obtain ⟨g, off, rfl, _, hg, hc⟩ := (HA.out wr HWR.out) (by omega)
      obtain ⟨p, c, ⟨c0, c1, c2, c3, c4, c5⟩, hq⟩ := hc j hlt
      obtain ⟨s1, s2, s3⟩ := HS.out.2 j hlt
      have HNO : Hid (fitI fs D' (qat ps j) = false → fitTI fs (D' + 1) ps ps.length = false) := fun h => allTo_false _ _ j hlt h
      have HYS : Hid (fitI fs D' (qat ps j) = true → fitTI fs (D' + 1) ps (j + 1) = true) := fun h => allTo_snoc _ j HAL.out h
      generalize qat ps j = q at *
      obtain ⟨kd, f', t', lo', hi', pp⟩ := q
      simp only [Qy.kind, Qy.field, Qy.text, Qy.low, Qy.high, Qy.parts] at c0 c1 c2 c3 c4 c5 hq s1 s2 s3
      have hba : Below wr.heap.size wr (wr.alloc (.cells #[.int .i64 kd, .string f', .string t', .int .i64 lo', .int .i64 hi', .slice p pp.length c] 41)) := (Below.refl _ wr).alloc (Nat.le_refl _) _
      have hqa := hq.below hba
      have hwa := hbel.trans (hba.mono hbel.size)
      have hfr := HFR.out _ (HWR.out.trans (hba.mono HWR.out.size))
      clear hc BR
      go_wp2_with fail
      refine (HF'.out fa fcap fs kd f' t' lo' hi' pp p c _ hzf hfr hqa s3).mono ?_
      rintro e w2 ⟨rfl, hb2⟩
      have hw2 := hwa.trans (hb2.mono hwa.size)
      have HW2 : Hid (Below w.heap.size w w2) := HB0.out.trans (hw2.mono HB0.out.size)
      clear c0 c1 c2 c3 c4 c5 hq hba hqa hwa hb2 hbel hfr
      cases hb : fitI fs D' (.mk kd f' t' lo' hi' pp) with
      | false =>
        have HR : Hid (fitI fs (D' + 1) (.mk k f t lo hi ps) = false) := by unfold Hid; rw [HB.out, HNO.out hb, Bool.false_and]
        clear HNO HYS
        go_wp2
        go_ret
        exact ⟨ret_bool HR.out.symm, HW2.out⟩
      | true =>
        have HY : Hid (fitTI fs (D' + 1) ps (j + 1) = true) := HYS.out hb
        clear HNO HYS
        go_wp2
        go_roundw
        case rel => exact ⟨j + 1, by omega, by go_num, HY.out, hw2⟩
        case measure => simp [intOf]; omega
    · have hjl : j = ps.length := by omega
      subst hjl
      rw [HAL.out, Bool.true_and] at HB
      have b0 := BR.cell 0
      have b1 := BR.cell 1
      simp at b0 b1
      have hfr := HFR.out _ HWR.out
      clear HS HA HBK HB0 HF HAL HFR
      cases hf : f.toList.isEmpty with
      | true =>
        have HR : Hid (fitI fs D (.mk k f t lo hi ps) = true) := by unfold Hid; rw [HB.out]; unfold fitOneI noB; rw [hf]; rfl
        go_wp2
        go_ret
        exact ⟨ret_bool HR.out.symm, HWR.out⟩
      | false =>
        have HR : Hid (fitI fs D (.mk k f t lo hi ps) = kindB fs f (askK k)) := by unfold Hid; rw [HB.out]; unfold fitOneI noB; rw [hf]; rfl
        clear HB
        go_wp2_with fail
        refine (fieldOf_any fa fcap fs f wr hzf hfr).mono ?_
        rintro e w2 ⟨fd, b, rfl, hfd, hb2⟩
        have HK := found_kindQ hfd (askK k) (askK_ne k)
        have HKH : Hid ((b && (fd.kind == askK k)) = kindB fs f (askK k)) := HK
        have B2 := BR.below hb2 BR.lt
        have d0 := B2.cell 0
        simp at d0
        have hlt2 := B2.lt
        have HW2 : Hid (Below w.heap.size w w2) := HWR.out.trans (hb2.mono HWR.out.size)
        clear HK hfd hb2 BR b0 b1 HWR B2
        obtain ⟨nm, kd, wt⟩ := fd
        have hd : (w2.alloc (.cells #[.string nm, .int .i64 kd, .int .i64 wt] 72)).cell? ⟨w.heap.size, 0, none⟩ = some (.int .i64 k) := by
          rw [World.cell?_alloc_old _ _ _ (Nat.ne_of_lt hlt2)]
          exact d0
        have HW3 : Hid (Below w.heap.size w (w2.alloc (.cells #[.string nm, .int .i64 kd, .int .i64 wt] 72))) := HW2.out.alloc HW2.out.size _
        clear HW2
        cases b with
        | false =>
          go_wp2
          go_quiet (fail)
          go_wp2
          go_ret
          exact ⟨ret_bool (by rw [HR.out, ← HKH.out]; rfl), below_drewN HW3.out nq⟩
        | true =>
          go_wp2
          go_quiet ((go_at_call 107; exact Calls.quiet_of_same (kindAsked_any k _)))
          go_wp2
          go_ret
          exact ⟨ret_bool (by rw [HR.out, ← HKH.out]; rfl), below_drewN HW3.out nq⟩
theorem kindsFit_any : ∀ D, KindsFit D
  | 0 => kindsFit_of (fun D' h => by omega)
  | D + 1 => kindsFit_of (fun D' h => by obtain rfl : D = D' := by omega
                                         exact kindsFit_any D)
end Go.Proofs.YtjkimadnopeakaaGreatDoor
