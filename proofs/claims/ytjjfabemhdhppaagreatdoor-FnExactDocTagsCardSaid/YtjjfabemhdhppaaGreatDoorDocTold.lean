/- What a document says in a field. -/
import Derived.Test.YtjjfabemhdhppaaGreatDoorTold
import Derived.Test.YtjjfabemhdhppaaGreatDoorDocText
import Derived.Test.YtjjfabemhdhppaaGreatDoorDocOkI
namespace Go.Proofs.YtjjfabemhdhppaaGreatDoor
open Go.RowKit
set_option linter.unusedVariables false

/-- The kind of the field of a name, where an ok document has it; else 0. -/
def toldK (fs : List Fld) (key : ByteArray) (cs : List Cel) (n : ByteArray) : Int := if (docOkB fs key cs && docH cs n) = true then (fat fs (fidx fs n)).kind else 0
theorem toldK_no {fs : List Fld} {key : ByteArray} {cs : List Cel} {n : ByteArray} (h : (docOkB fs key cs && docH cs n) = false) : toldK fs key cs n = 0 := by unfold toldK; rw [h]; rfl
theorem toldK_yes {fs : List Fld} {key : ByteArray} {cs : List Cel} {n : ByteArray} (h1 : docOkB fs key cs = true) (h2 : docH cs n = true) : toldK fs key cs n = (fat fs (fidx fs n)).kind := by unfold toldK; rw [h1, h2]; rfl
theorem found_kind {fs : List Fld} {n : ByteArray} {f : Fld} {b : Bool} (h : FoundF fs n f b) : f = fat fs (fidx fs n) := by
  rcases h with ⟨rfl, k, hk, rfl, h1, h2⟩ | ⟨rfl, rfl, h2⟩
  · rw [fidx_at hk h1 h2]
  · rw [fidx_none h2]
    simp [fat]
theorem docT_size {cs : List Cel} (h : CelsSmall cs) (n : ByteArray) : (docT cs n).size ≤ 1048576 := by
  unfold docT
  cases e : cs.find? (isC n) with
  | none => exact Nat.zero_le _
  | some c =>
    obtain ⟨i, hi, rfl⟩ := List.getElem_of_mem (List.mem_of_find?_eq_some e)
    have := (h i hi).2
    rw [cat_get cs i hi] at this
    exact this

theorem TagsV.slice {b0 : Nat} {w : World} {k : Int} {s : ByteArray} {v : Value} (h : TagsV b0 w k s v) : ∃ q l c, v = .slice q l c := by
  rcases h with ⟨_, g, c, rfl, _⟩ | ⟨_, rfl⟩ <;> exact ⟨_, _, _, rfl⟩
theorem TagsV.mono {b0 b1 : Nat} {w : World} {k : Int} {s : ByteArray} {v : Value} (h : TagsV b0 w k s v) (hb : b1 ≤ b0) : TagsV b1 w k s v := by
  rcases h with ⟨h1, g, c, e, h2, h3, h4⟩ | h
  · exact .inl ⟨h1, g, c, e, h2, by omega, h4⟩
  · exact .inr h
theorem TagsV.set {b0 : Nat} {w : World} {k : Int} {s : ByteArray} {v : Value} (h : TagsV b0 w k s v) {p : Addr} (hp : p.block < b0) (x : Value) : TagsV b0 (w.setCell p x) k s v := by
  rcases h with ⟨h1, g, c, e, h2, h3, h4⟩ | h
  · exact .inl ⟨h1, g, c, e, h2, h3, h4.set (by omega) x⟩
  · exact .inr h

set_option maxHeartbeats 2000000 in
set_option maxRecDepth 100000 in
theorem docTold_any (a : Option Addr) (capf : Nat) (fs : List Fld) (key : ByteArray) (p : Option Addr) (capc : Nat) (cs : List Cel) (n : ByteArray) (w : World) (hzf : fs.length ≤ 1048576) (hcf : fs.length ≤ capf) (hsf : FldsSmall fs) (hrf : FldRow w a fs)
    (hk : key.size ≤ 1048576) (hzc : cs.length ≤ 1048576) (hsc : CelsSmall cs) (hrc : CelRow w p cs) (hm : MaxL w) :
    Calls Tryz.prog 25 #[.slice a fs.length capf, .agg #[.string key, .slice p cs.length capc], .string n] w fun e w' => ∃ v, e = .returned (.agg #[.int .i64 (cnum (toldK fs key cs n) (docT cs n)), .bool (cisn (toldK fs key cs n) (docT cs n)), v]) ∧ TagsV w.heap.size w' (toldK fs key cs n) (docT cs n) v ∧ Below w.heap.size w w' := by
  have hb0 : Below w.heap.size w ((w.alloc (.cells #[.string key, .slice p cs.length capc] 34)).alloc (.cells #[.int .i64 0, .bool false, .slice none 0 0] 57)) := ((Below.refl _ w).alloc (Nat.le_refl _) _).alloc (by simp) _
  have D0 : Blk ((w.alloc (.cells #[.string key, .slice p cs.length capc] 34)).alloc (.cells #[.int .i64 0, .bool false, .slice none 0 0] 57)) w.heap.size #[.string key, .slice p cs.length capc] 34 := (Blk.new w _ _).alloc _
  have R0 : Blk ((w.alloc (.cells #[.string key, .slice p cs.length capc] 34)).alloc (.cells #[.int .i64 0, .bool false, .slice none 0 0] 57)) (w.heap.size + 1) #[.int .i64 0, .bool false, .slice none 0 0] 57 := by
    have h := Blk.new (w.alloc (.cells #[.string key, .slice p cs.length capc] 34)) #[.int .i64 0, .bool false, .slice none 0 0] 57
    rw [show (w.alloc (.cells #[.string key, .slice p cs.length capc] 34)).heap.size = w.heap.size + 1 from by simp] at h
    exact h
  have HRF : Hid (∀ wx, Below w.heap.size w wx → FldRow wx a fs) := fun wx h => hrf.below h
  have HRC : Hid (∀ wx, Below w.heap.size w wx → CelRow wx p cs) := fun wx h => hrc.below h
  have HM : Hid (∀ wx, Below w.heap.size w wx → MaxL wx) := fun wx h => hm.below h
  have HSZ : Hid ((docT cs n).size ≤ 1048576) := docT_size hsc n
  have HSF : Hid (FldsSmall fs) := hsf
  have HSC : Hid (CelsSmall cs) := hsc
  have HK0 : Hid ((docOkB fs key cs && docH cs n) = false → toldK fs key cs n = 0) := toldK_no
  have HK1 : Hid (docOkB fs key cs = true → docH cs n = true → ∀ f b, FoundF fs n f b → f.kind = toldK fs key cs n) := fun h1 h2 f b h => by rw [toldK_yes h1 h2, found_kind h]
  have HN : Hid (∀ b0 wx, toldK fs key cs n = 0 → TagsV b0 wx (toldK fs key cs n) (docT cs n) (.slice none 0 0)) := fun b0 wx h => .inr ⟨by omega, rfl⟩
  have HV : Hid (toldK fs key cs n = 0 → cnum (toldK fs key cs n) (docT cs n) = 0 ∧ cisn (toldK fs key cs n) (docT cs n) = false) := fun h => ⟨cnum_not (by omega) _, cisn_not (by omega) _⟩
  clear hrf hrc hm hsf hsc
  generalize toldK fs key cs n = K at *
  go_enter Tryz.func25, Tryz.ntmps25
  go_wp2_with fail
  refine (docOkI_any a capf fs key p capc cs _ hzf hcf HSF.out (HRF.out _ hb0) hk hzc HSC.out (HRC.out _ hb0) (HM.out _ hb0)).mono ?_
  rintro e u1 ⟨rfl, hb1⟩
  have D1 := D0.below hb1 D0.lt
  have R1 := R0.below hb1 R0.lt
  have hw1 := below_trans hb0 hb1
  clear hb0 hb1 D0 R0
  have k0 := D1.cell 0
  have k1 := D1.cell 1
  have r0 := R1.cell 0
  have r1 := R1.cell 1
  have r2 := R1.cell 2
  have y0 := R1.frozen 0
  have y1 := R1.frozen 1
  have y2 := R1.frozen 2
  have hz1 := R1.lt
  simp at k0 k1 r0 r1 r2
  cases hok : docOkB fs key cs with
  | false =>
    rw [hok] at HK0 HK1
    obtain rfl : K = 0 := HK0.out rfl
    obtain ⟨e1, e2⟩ := HV.out rfl
    have HN0 : Hid (∀ b0 wx, TagsV b0 wx 0 (docT cs n) (.slice none 0 0)) := fun b0 wx => HN.out b0 wx rfl
    clear HK0 HK1 HV HN HRF HRC HM HSF HSC HSZ D1 R1
    go_wp2
    refine bodyPost_ret (v := .agg #[.int .i64 0, .bool false, .slice none 0 0]) (by simp [results, Tryz.results25, go_sem, r0, r1, r2]) rfl ⟨.slice none 0 0, by rw [e1, e2], HN0.out _ _, ?_⟩
    exact ((hw1.setCell (Nat.le_succ _) _).setCell (Nat.le_succ _) _).setCell (Nat.le_succ _) _
  | true =>
    rw [hok] at HK0 HK1
    go_wp2_with fail
    refine (docTextI_any key n p capc cs _ hzc HSC.out (HRC.out _ hw1)).mono ?_
    rintro e u2 ⟨rfl, hb2⟩
    have D2 := D1.below hb2 D1.lt
    have R2 := R1.below hb2 R1.lt
    have hw2 := below_trans hw1 hb2
    clear hw1 hb2 D1 R1 k0 k1 r0 r1 r2 y0 y1 y2 hz1
    have r0 := R2.cell 0
    have r1 := R2.cell 1
    have r2 := R2.cell 2
    have y0 := R2.frozen 0
    have y1 := R2.frozen 1
    have y2 := R2.frozen 2
    have hz2 := R2.lt
    simp at r0 r1 r2
    cases hth : docH cs n with
    | false =>
      rw [hth] at HK0 HK1
      obtain rfl : K = 0 := HK0.out rfl
      obtain ⟨e1, e2⟩ := HV.out rfl
      have HN0 : Hid (∀ b0 wx, TagsV b0 wx 0 (docT cs n) (.slice none 0 0)) := fun b0 wx => HN.out b0 wx rfl
      clear HK0 HK1 HV HRF HRC HM HSF HSC HSZ D2 R2 HN
      go_wp2
      refine bodyPost_ret (v := .agg #[.int .i64 0, .bool false, .slice none 0 0]) (by simp [results, Tryz.results25, go_sem, r0, r1, r2]) rfl ⟨.slice none 0 0, by rw [e1, e2], HN0.out _ _, ?_⟩
      exact ((hw2.setCell (Nat.le_succ _) _).setCell (Nat.le_succ _) _).setCell (Nat.le_succ _) _
    | true =>
      rw [hth] at HK0 HK1
      have HK2 : Hid (∀ f b, FoundF fs n f b → f.kind = K) := fun f b h => HK1.out (by trivial) (by trivial) f b h
      clear HK0 HK1 HN HV
      go_wp2_with fail
      refine (fieldOf_any a capf fs n _ hzf (HRF.out _ hw2)).mono ?_
      rintro e u3 ⟨f, b, rfl, hf, hb3⟩
      obtain ⟨nm, kd, wt⟩ := f
      have hkd : kd = K := HK2.out _ _ hf
      subst hkd
      have R3 := R2.below hb3 R2.lt
      have hw3 := below_trans hw2 hb3
      have R4 := R3.alloc (.cells #[.string nm, .int .i64 kd, .int .i64 wt] 53)
      have hw4 : Below w.heap.size w (u3.alloc (.cells #[.string nm, .int .i64 kd, .int .i64 wt] 53)) := hw3.alloc hw3.size _
      have HM4 : Hid (MaxL (u3.alloc (.cells #[.string nm, .int .i64 kd, .int .i64 wt] 53))) := HM.out _ hw4
      have hz3 := R3.lt
      clear HK2 HRF HRC HM HSF HSC D2 R2 R3 hw2 hw3 hb3 hf r0 r1 r2 y0 y1 y2 hz2
      go_wp2_with fail
      refine (contentOf_any kd (docT cs n) _).mono ?_
      rintro e u5 ⟨rfl, rfl⟩
      go_wp2_with fail
      refine (contentTold_any kd (docT cs n) _ HSZ.out HM4.out).mono ?_
      rintro e u6 ⟨v, rfl, htv, hb6⟩
      obtain ⟨vq, vl, vc, rfl⟩ := htv.slice
      have R6 := R4.below hb6 R4.lt
      have hw6 := below_trans hw4 hb6
      have HTV : Hid (TagsV (u3.heap.size + 1) u6 kd (docT cs n) (.slice vq vl vc)) := by
        rw [show (u3.alloc (.cells #[.string nm, .int .i64 kd, .int .i64 wt] 53)).heap.size = u3.heap.size + 1 from by simp] at htv
        exact htv
      clear htv hb6 R4 hw4 HM4 HSZ
      have r0 := R6.cell 0
      have r1 := R6.cell 1
      have r2 := R6.cell 2
      have y0 := R6.frozen 0
      have y1 := R6.frozen 1
      have y2 := R6.frozen 2
      have hz6 := R6.lt
      simp at r0 r1 r2
      obtain ⟨x, hx⟩ : ∃ x, x = cnum kd (docT cs n) := ⟨_, rfl⟩
      obtain ⟨y, hy⟩ : ∃ y, y = cisn kd (docT cs n) := ⟨_, rfl⟩
      rw [← hx, ← hy]
      have HX : Hid (x = cnum kd (docT cs n) ∧ y = cisn kd (docT cs n)) := ⟨hx, hy⟩
      clear hx hy
      go_wp2
      refine bodyPost_ret (v := .agg #[.int .i64 x, .bool y, .slice vq vl vc]) (by simp [results, Tryz.results25, go_sem, r0, r1, r2]) rfl ⟨.slice vq vl vc, by rw [HX.out.1, HX.out.2], ?_, ?_⟩
      · exact (((HTV.out.set (by show w.heap.size + 1 < u3.heap.size + 1; omega) _).set (by show w.heap.size + 1 < u3.heap.size + 1; omega) _).set (by show w.heap.size + 1 < u3.heap.size + 1; omega) _).mono (by omega)
      · exact ((hw6.setCell (Nat.le_succ _) _).setCell (Nat.le_succ _) _).setCell (Nat.le_succ _) _
end Go.Proofs.YtjjfabemhdhppaaGreatDoor
