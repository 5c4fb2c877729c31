/- spec.l6Leaf: does a document meet a question without parts? -/
import Derived.Test.YtjkimadnopeakaaGreatDoorMtRunS
import Derived.Test.YtjkimadnopeakaaGreatDoorMtI
namespace Go.Proofs.YtjkimadnopeakaaGreatDoor
open Go.RowKit
set_option linter.unusedVariables false

theorem contains_anyTo (T : List ByteArray) (x : ByteArray) : Lib.containsS T x = anyTo (fun i => (T.getD i ⟨#[]⟩).toList == x.toList) T.length := by
  rw [Bool.eq_iff_iff, Lib.containsS_iff, anyTo_iff]
  constructor
  · intro h
    obtain ⟨i, hi, e⟩ := List.getElem_of_mem h
    refine ⟨i, hi, ?_⟩
    rw [List.getD_eq_getElem?_getD, List.getElem?_eq_getElem hi]
    simp [e]
  · rintro ⟨i, hi, e⟩
    rw [List.getD_eq_getElem?_getD, List.getElem?_eq_getElem hi, toList_eq_iff, decide_eq_true_iff] at e
    rw [← e]
    exact List.getElem_mem hi
theorem l6Leaf_1 (fa : Option Addr) (capf : Nat) (fs : List Fld) (key : ByteArray) (ca : Option Addr) (capc : Nat) (cs : List Cel) (f t : ByteArray) (lo hi : Int) (n : Nat) (a : Option Addr) (c : Nat) (w : World) (hin : MtIn w fa capf fs key ca cs) :
    Calls Tryz.prog 76 #[.slice fa fs.length capf, .agg #[.string key, .slice ca cs.length capc], .agg #[.int .i64 1, .string f, .string t, .int .i64 lo, .int .i64 hi, .slice a n c]] w fun e w' => e = .returned (.bool (leafM fs key cs 1 f t lo hi)) ∧ Below w.heap.size w w' := by
  have hb0 : Below w.heap.size w ((w.alloc (.cells #[.string key, .slice ca cs.length capc] 37)).alloc (.cells #[.int .i64 1, .string f, .string t, .int .i64 lo, .int .i64 hi, .slice a n c] 41)) := ((Below.refl _ w).alloc (Nat.le_refl _) _).alloc (by simp) _
  have D0 : Blk ((w.alloc (.cells #[.string key, .slice ca cs.length capc] 37)).alloc (.cells #[.int .i64 1, .string f, .string t, .int .i64 lo, .int .i64 hi, .slice a n c] 41)) w.heap.size #[.string key, .slice ca cs.length capc] 37 := (Blk.new w _ _).alloc _
  have Q0 : QBox ((w.alloc (.cells #[.string key, .slice ca cs.length capc] 37)).alloc (.cells #[.int .i64 1, .string f, .string t, .int .i64 lo, .int .i64 hi, .slice a n c] 41)) (w.heap.size + 1) 1 f t lo hi a n c := by
    have h := Blk.new (w.alloc (.cells #[.string key, .slice ca cs.length capc] 37)) #[.int .i64 1, .string f, .string t, .int .i64 lo, .int .i64 hi, .slice a n c] 41
    rw [World.size_alloc] at h
    exact h
  have hin2 := hin.below hb0
  obtain ⟨w2, hw2⟩ : ∃ w2, ((w.alloc (.cells #[.string key, .slice ca cs.length capc] 37)).alloc (.cells #[.int .i64 1, .string f, .string t, .int .i64 lo, .int .i64 hi, .slice a n c] 41)) = w2 := ⟨_, rfl⟩
  have HW2 : Hid (((w.alloc (.cells #[.string key, .slice ca cs.length capc] 37)).alloc (.cells #[.int .i64 1, .string f, .string t, .int .i64 lo, .int .i64 hi, .slice a n c] 41)) = w2) := hw2
  rw [hw2] at hb0 D0 Q0 hin2
  have HB : Hid (Below w.heap.size w w2) := hb0
  have HQ : Hid (∀ wx, Below w2.heap.size w2 wx → QBox wx (w.heap.size + 1) 1 f t lo hi a n c) := fun wx h => Q0.below h Q0.lt
  have HD : Hid (∀ wx, Below w2.heap.size w2 wx → Blk wx w.heap.size #[.string key, .slice ca cs.length capc] 37) := fun wx h => D0.below h D0.lt
  have HIN : Hid (∀ wx, Below w2.heap.size w2 wx → MtIn wx fa capf fs key ca cs) := fun wx h => hin2.below h
  have y0 := D0.cell 0
  have y1 := D0.cell 1
  have q0 := Q0.cell 0
  have q1 := Q0.cell 1
  have q2 := Q0.cell 2
  have q3 := Q0.cell 3
  have q4 := Q0.cell 4
  have q5 := Q0.cell 5
  simp at y0 y1 q0 q1 q2 q3 q4 q5
  clear hw2 hb0 D0 Q0 hin2 hin
  go_enter Tryz.func76, Tryz.ntmps76
  go_upto_region 1 with fail
  rw [HW2.out]
  clear HW2
  go_wp2
  go_ret
  exact ⟨rfl, HB.out⟩
set_option maxRecDepth 100000 in
set_option maxHeartbeats 1000000 in
theorem l6Leaf_5 (fa : Option Addr) (capf : Nat) (fs : List Fld) (key : ByteArray) (ca : Option Addr) (capc : Nat) (cs : List Cel) (f t : ByteArray) (lo hi : Int) (n : Nat) (a : Option Addr) (c : Nat) (w : World) (hin : MtIn w fa capf fs key ca cs) :
    Calls Tryz.prog 76 #[.slice fa fs.length capf, .agg #[.string key, .slice ca cs.length capc], .agg #[.int .i64 5, .string f, .string t, .int .i64 lo, .int .i64 hi, .slice a n c]] w fun e w' => e = .returned (.bool (leafM fs key cs 5 f t lo hi)) ∧ Below w.heap.size w w' := by
  have hb0 : Below w.heap.size w ((w.alloc (.cells #[.string key, .slice ca cs.length capc] 37)).alloc (.cells #[.int .i64 5, .string f, .string t, .int .i64 lo, .int .i64 hi, .slice a n c] 41)) := ((Below.refl _ w).alloc (Nat.le_refl _) _).alloc (by simp) _
  have D0 : Blk ((w.alloc (.cells #[.string key, .slice ca cs.length capc] 37)).alloc (.cells #[.int .i64 5, .string f, .string t, .int .i64 lo, .int .i64 hi, .slice a n c] 41)) w.heap.size #[.string key, .slice ca cs.length capc] 37 := (Blk.new w _ _).alloc _
  have Q0 : QBox ((w.alloc (.cells #[.string key, .slice ca cs.length capc] 37)).alloc (.cells #[.int .i64 5, .string f, .string t, .int .i64 lo, .int .i64 hi, .slice a n c] 41)) (w.heap.size + 1) 5 f t lo hi a n c := by
    have h := Blk.new (w.alloc (.cells #[.string key, .slice ca cs.length capc] 37)) #[.int .i64 5, .string f, .string t, .int .i64 lo, .int .i64 hi, .slice a n c] 41
    rw [World.size_alloc] at h
    exact h
  have hin2 := hin.below hb0
  obtain ⟨w2, hw2⟩ : ∃ w2, ((w.alloc (.cells #[.string key, .slice ca cs.length capc] 37)).alloc (.cells #[.int .i64 5, .string f, .string t, .int .i64 lo, .int .i64 hi, .slice a n c] 41)) = w2 := ⟨_, rfl⟩
  have HW2 : Hid (((w.alloc (.cells #[.string key, .slice ca cs.length capc] 37)).alloc (.cells #[.int .i64 5, .string f, .string t, .int .i64 lo, .int .i64 hi, .slice a n c] 41)) = w2) := hw2
  rw [hw2] at hb0 D0 Q0 hin2
  have HB : Hid (Below w.heap.size w w2) := hb0
  have HQ : Hid (∀ wx, Below w2.heap.size w2 wx → QBox wx (w.heap.size + 1) 5 f t lo hi a n c) := fun wx h => Q0.below h Q0.lt
  have HD : Hid (∀ wx, Below w2.heap.size w2 wx → Blk wx w.heap.size #[.string key, .slice ca cs.length capc] 37) := fun wx h => D0.below h D0.lt
  have HIN : Hid (∀ wx, Below w2.heap.size w2 wx → MtIn wx fa capf fs key ca cs) := fun wx h => hin2.below h
  have y0 := D0.cell 0
  have y1 := D0.cell 1
  have q0 := Q0.cell 0
  have q1 := Q0.cell 1
  have q2 := Q0.cell 2
  have q3 := Q0.cell 3
  have q4 := Q0.cell 4
  have q5 := Q0.cell 5
  simp at y0 y1 q0 q1 q2 q3 q4 q5
  clear hw2 hb0 D0 Q0 hin2 hin
  have i2 := HIN.out w2 (Below.refl _ _)
  have HL : Hid (leafM fs key cs 5 f t lo hi = (dhas fs key cs f && inB (dnum fs key cs f) lo hi)) := leafM_5 _ _ _ _ _ _ _
  have HC : Hid (Calls Tryz.prog 34 #[.slice fa fs.length capf, .agg #[.string key, .slice ca cs.length capc], .string f] w2 fun e w' => e = .returned (.tuple #[.int .i64 (dnum fs key cs f), .bool (dhas fs key cs f)]) ∧ Below w2.heap.size w2 w') := docNumS_any fa capf fs key ca capc cs f w2 i2.zf i2.sf i2.rf i2.zk i2.zc i2.sc i2.rc
  generalize dnum fs key cs f = x at *
  generalize dhas fs key cs f = y at *
  clear i2
  go_enter Tryz.func76, Tryz.ntmps76
  go_upto_region 1 with fail
  rw [HW2.out]
  clear HW2
  go_wp2_with fail
  refine HC.out.mono ?_
  rintro e w3 ⟨rfl, hb3⟩
  have hw3 := HB.out.trans (hb3.mono HB.out.size)
  have Q3 := HQ.out w3 hb3
  clear HC y0 y1 q0 q1 q2 q3 q4 q5 hb3
  have q3 := Q3.cell 3
  have q4 := Q3.cell 4
  simp at q3 q4
  clear Q3 HIN HD HQ
  cases y with
  | false =>
    have H1 : Hid (leafM fs key cs 5 f t lo hi = false) := HL.out
    clear HL
    go_wp2
    go_ret
    exact ⟨ret_bool H1.out.symm, hw3⟩
  | true =>
    have H1 : Hid (leafM fs key cs 5 f t lo hi = inB x lo hi) := HL.out
    clear HL
    go_wp2_with fail
    refine (l1In_any x lo hi _).mono ?_
    rintro e w4 ⟨rfl, rfl⟩
    go_wp2
    go_ret
    exact ⟨ret_bool H1.out.symm, hw3⟩
set_option maxRecDepth 100000 in
set_option maxHeartbeats 1000000 in
theorem l6Leaf_6 (fa : Option Addr) (capf : Nat) (fs : List Fld) (key : ByteArray) (ca : Option Addr) (capc : Nat) (cs : List Cel) (f t : ByteArray) (lo hi : Int) (n : Nat) (a : Option Addr) (c : Nat) (w : World) (hin : MtIn w fa capf fs key ca cs) :
    Calls Tryz.prog 76 #[.slice fa fs.length capf, .agg #[.string key, .slice ca cs.length capc], .agg #[.int .i64 6, .string f, .string t, .int .i64 lo, .int .i64 hi, .slice a n c]] w fun e w' => e = .returned (.bool (leafM fs key cs 6 f t lo hi)) ∧ Below w.heap.size w w' := by
  have hb0 : Below w.heap.size w ((w.alloc (.cells #[.string key, .slice ca cs.length capc] 37)).alloc (.cells #[.int .i64 6, .string f, .string t, .int .i64 lo, .int .i64 hi, .slice a n c] 41)) := ((Below.refl _ w).alloc (Nat.le_refl _) _).alloc (by simp) _
  have D0 : Blk ((w.alloc (.cells #[.string key, .slice ca cs.length capc] 37)).alloc (.cells #[.int .i64 6, .string f, .string t, .int .i64 lo, .int .i64 hi, .slice a n c] 41)) w.heap.size #[.string key, .slice ca cs.length capc] 37 := (Blk.new w _ _).alloc _
  have Q0 : QBox ((w.alloc (.cells #[.string key, .slice ca cs.length capc] 37)).alloc (.cells #[.int .i64 6, .string f, .string t, .int .i64 lo, .int .i64 hi, .slice a n c] 41)) (w.heap.size + 1) 6 f t lo hi a n c := by
    have h := Blk.new (w.alloc (.cells #[.string key, .slice ca cs.length capc] 37)) #[.int .i64 6, .string f, .string t, .int .i64 lo, .int .i64 hi, .slice a n c] 41
    rw [World.size_alloc] at h
    exact h
  have hin2 := hin.below hb0
  obtain ⟨w2, hw2⟩ : ∃ w2, ((w.alloc (.cells #[.string key, .slice ca cs.length capc] 37)).alloc (.cells #[.int .i64 6, .string f, .string t, .int .i64 lo, .int .i64 hi, .slice a n c] 41)) = w2 := ⟨_, rfl⟩
  have HW2 : Hid (((w.alloc (.cells #[.string key, .slice ca cs.length capc] 37)).alloc (.cells #[.int .i64 6, .string f, .string t, .int .i64 lo, .int .i64 hi, .slice a n c] 41)) = w2) := hw2
  rw [hw2] at hb0 D0 Q0 hin2
  have HB : Hid (Below w.heap.size w w2) := hb0
  have HQ : Hid (∀ wx, Below w2.heap.size w2 wx → QBox wx (w.heap.size + 1) 6 f t lo hi a n c) := fun wx h => Q0.below h Q0.lt
  have HD : Hid (∀ wx, Below w2.heap.size w2 wx → Blk wx w.heap.size #[.string key, .slice ca cs.length capc] 37) := fun wx h => D0.below h D0.lt
  have HIN : Hid (∀ wx, Below w2.heap.size w2 wx → MtIn wx fa capf fs key ca cs) := fun wx h => hin2.below h
  have y0 := D0.cell 0
  have y1 := D0.cell 1
  have q0 := Q0.cell 0
  have q1 := Q0.cell 1
  have q2 := Q0.cell 2
  have q3 := Q0.cell 3
  have q4 := Q0.cell 4
  have q5 := Q0.cell 5
  simp at y0 y1 q0 q1 q2 q3 q4 q5
  clear hw2 hb0 D0 Q0 hin2 hin
  have i2 := HIN.out w2 (Below.refl _ _)
  have hTz : (dtags fs key cs f).length ≤ 2000000 := dtags_len i2.sc
  have HL : Hid (leafM fs key cs 6 f t lo hi = anyTo (fun i => ((dtags fs key cs f).getD i ⟨#[]⟩).toList == t.toList) (dtags fs key cs f).length) := (leafM_6 _ _ _ _ _ _ _).trans (contains_anyTo _ _)
  have HC : Hid (Calls Tryz.prog 118 #[.slice fa fs.length capf, .agg #[.string key, .slice ca cs.length capc], .string f] w2 fun e w' => ∃ p' c', e = .returned (.slice p' (dtags fs key cs f).length c') ∧ StrRow w' p' (dtags fs key cs f) ∧ Below w2.heap.size w2 w') := by
    refine (docTagsS_any fa capf fs key ca capc cs f w2 i2.zf i2.sf i2.rf i2.zk i2.zc i2.sc i2.rc).mono ?_
    rintro e w' ⟨v, rfl, ho, hb⟩
    obtain ⟨p, c, rfl, hr⟩ := owns_strRow ho
    exact ⟨p, c, rfl, hr, hb⟩
  generalize leafM fs key cs 6 f t lo hi = b at *
  generalize dtags fs key cs f = T at *
  clear i2 HIN HD
  go_enter Tryz.func76, Tryz.ntmps76
  go_upto_region 1 with fail
  rw [HW2.out]
  clear HW2
  go_wp2_with fail
  refine HC.out.mono ?_
  rintro e w3 ⟨p3, c3, rfl, r3, hb3⟩
  have HR3 : Hid (StrRow w3 p3 T) := r3
  have HW3 : Hid (Below w.heap.size w w3) := HB.out.trans (hb3.mono HB.out.size)
  have HQ3 : Hid (∀ wx, Below w3.heap.size w3 wx → QBox wx (w.heap.size + 1) 6 f t lo hi a n c) := fun wx h => HQ.out wx (below_trans hb3 h)
  clear HC y0 y1 q0 q1 q2 q3 q4 q5 hb3 r3 HQ HB
  go_wp2
  go_loopw [10] (fun i wr => ∃ j : Nat, j ≤ T.length ∧ i = .int .i64 j ∧ anyTo (fun i => (T.getD i ⟨#[]⟩).toList == t.toList) j = false ∧ Below w3.heap.size w3 wr) (fun i _ => T.length - (intOf i).toNat)
  case atStart => exact ⟨0, Nat.zero_le _, rfl, rfl, Below.refl _ _⟩
  case round =>
    obtain ⟨j, hj, rfl, ha, hbel⟩ := hrel
    have HA : Hid (anyTo (fun i => (T.getD i ⟨#[]⟩).toList == t.toList) j = false) := ha
    have hwr := HW3.out.trans (hbel.mono HW3.out.size)
    clear ha
    by_cases hlt : j < T.length
    · have hji : (j : Int) < (T.length : Int) := by omega
      obtain ⟨g, rfl, hg, hc⟩ := (HR3.out.below hbel) (by omega)
      have c0 := hc j hlt
      have Q3 := HQ3.out _ hbel
      have q2 := Q3.cell 2
      simp at q2
      have HY : Hid (((T.getD j ⟨#[]⟩).toList == t.toList) = true → b = true) := fun h => by rw [HL.out]; exact anyTo_yes (f := fun i => (T.getD i ⟨#[]⟩).toList == t.toList) hlt h
      have HN : Hid (((T.getD j ⟨#[]⟩).toList == t.toList) = false → anyTo (fun i => (T.getD i ⟨#[]⟩).toList == t.toList) (j + 1) = false) := fun h => anyTo_snoc HA.out h
      clear hc HA Q3 HL
      generalize T.getD j ⟨#[]⟩ = x at *
      cases hp : (x.toList == t.toList) with
      | true =>
        have HB : Hid (b = true) := HY.out hp
        clear HY HN
        go_wp2
        go_quiet (fail)
        go_wp2
        go_ret
        exact ⟨ret_bool HB.out.symm, below_drewN hwr _⟩
      | false =>
        have HB : Hid (anyTo (fun i => (T.getD i ⟨#[]⟩).toList == t.toList) (j + 1) = false) := HN.out hp
        clear HY HN
        go_wp2
        go_quiet (fail)
        go_wp2
        go_roundw
        case rel => exact ⟨j + 1, by omega, by go_num, HB.out, below_drewN hbel _⟩
        case measure => simp [intOf]; omega
    · have hjl : j = T.length := by omega
      subst hjl
      have HB : Hid (b = false) := HL.out.trans HA.out
      clear HA HL
      go_wp2
      go_ret
      exact ⟨ret_bool HB.out.symm, hwr⟩
theorem leafM_t (fs : List Fld) (key : ByteArray) (cs : List Cel) (k : Int) (f t : ByteArray) (lo hi : Int) (h : k = 2 ∨ k = 3 ∨ k = 4) : leafM fs key cs k f t lo hi = anyTo (cellM fs cs f (textM k t)) cs.length := by
  unfold leafM
  rw [if_neg (by omega), if_neg (by omega), if_neg (by omega)]
set_option maxRecDepth 100000 in
set_option maxHeartbeats 4000000 in
theorem l6Leaf_t (fa : Option Addr) (capf : Nat) (fs : List Fld) (key : ByteArray) (ca : Option Addr) (capc : Nat) (cs : List Cel) (k : Int) (f t : ByteArray) (lo hi : Int) (n : Nat) (a : Option Addr) (c : Nat) (w : World) (hin : MtIn w fa capf fs key ca cs) (hk : k = 2 ∨ k = 3 ∨ k = 4) (ht : t.size ≤ 60) (h5 : 0 < l5W t) :
    Calls Tryz.prog 76 #[.slice fa fs.length capf, .agg #[.string key, .slice ca cs.length capc], .agg #[.int .i64 k, .string f, .string t, .int .i64 lo, .int .i64 hi, .slice a n c]] w fun e w' => e = .returned (.bool (leafM fs key cs k f t lo hi)) ∧ Below w.heap.size w w' := by
  obtain ⟨hT0, ht0⟩ := terms_some h5
  have hb0 : Below w.heap.size w ((w.alloc (.cells #[.string key, .slice ca cs.length capc] 37)).alloc (.cells #[.int .i64 k, .string f, .string t, .int .i64 lo, .int .i64 hi, .slice a n c] 41)) := ((Below.refl _ w).alloc (Nat.le_refl _) _).alloc (by simp) _
  have D0 : Blk ((w.alloc (.cells #[.string key, .slice ca cs.length capc] 37)).alloc (.cells #[.int .i64 k, .string f, .string t, .int .i64 lo, .int .i64 hi, .slice a n c] 41)) w.heap.size #[.string key, .slice ca cs.length capc] 37 := (Blk.new w _ _).alloc _
  have Q0 : QBox ((w.alloc (.cells #[.string key, .slice ca cs.length capc] 37)).alloc (.cells #[.int .i64 k, .string f, .string t, .int .i64 lo, .int .i64 hi, .slice a n c] 41)) (w.heap.size + 1) k f t lo hi a n c := by
    have h := Blk.new (w.alloc (.cells #[.string key, .slice ca cs.length capc] 37)) #[.int .i64 k, .string f, .string t, .int .i64 lo, .int .i64 hi, .slice a n c] 41
    rw [World.size_alloc] at h
    exact h
  have hin2 := hin.below hb0
  obtain ⟨w2, hw2⟩ : ∃ w2, ((w.alloc (.cells #[.string key, .slice ca cs.length capc] 37)).alloc (.cells #[.int .i64 k, .string f, .string t, .int .i64 lo, .int .i64 hi, .slice a n c] 41)) = w2 := ⟨_, rfl⟩
  have HW2 : Hid (((w.alloc (.cells #[.string key, .slice ca cs.length capc] 37)).alloc (.cells #[.int .i64 k, .string f, .string t, .int .i64 lo, .int .i64 hi, .slice a n c] 41)) = w2) := hw2
  rw [hw2] at hb0 D0 Q0 hin2
  have HB : Hid (Below w.heap.size w w2) := hb0
  have HQ : Hid (∀ wx, Below w2.heap.size w2 wx → QBox wx (w.heap.size + 1) k f t lo hi a n c) := fun wx h => Q0.below h Q0.lt
  have HD : Hid (∀ wx, Below w2.heap.size w2 wx → Blk wx w.heap.size #[.string key, .slice ca cs.length capc] 37) := fun wx h => D0.below h D0.lt
  have HIN : Hid (∀ wx, Below w2.heap.size w2 wx → MtIn wx fa capf fs key ca cs) := fun wx h => hin2.below h
  have y0 := D0.cell 0
  have y1 := D0.cell 1
  have q0 := Q0.cell 0
  have q1 := Q0.cell 1
  have q2 := Q0.cell 2
  have q3 := Q0.cell 3
  have q4 := Q0.cell 4
  have q5 := Q0.cell 5
  simp at y0 y1 q0 q1 q2 q3 q4 q5
  clear hw2 hb0 D0 Q0 hin2 hin
  have hzc := (HIN.out w2 (Below.refl _ _)).zc
  have hzf := (HIN.out w2 (Below.refl _ _)).zf
  have k1 : (k == 1) = false := beq_eq_false_iff_ne.2 (by omega)
  have k5 : (k == 5) = false := beq_eq_false_iff_ne.2 (by omega)
  have k6 : (k == 6) = false := beq_eq_false_iff_ne.2 (by omega)
  have HL : Hid (leafM fs key cs k f t lo hi = anyTo (cellM fs cs f (textM k t)) cs.length) := leafM_t _ _ _ _ _ _ _ _ hk
  have HLT : Hid (∀ s wx, s.size ≤ 1048576 → Calls Tryz.prog 119 #[.string s, .agg #[.int .i64 k, .string f, .string t, .int .i64 lo, .int .i64 hi, .slice a n c]] wx fun e w' => e = .returned (.bool (textM k t (termsL s))) ∧ Below wx.heap.size wx w') := fun s wx hs => l6Text_any s k f t lo hi n a c wx hs (by omega) ht0 hT0
  clear hT0 ht0 h5 ht hk
  generalize textM k t = P at *
  go_enter Tryz.func76, Tryz.ntmps76
  go_upto_region 1 with fail
  rw [HW2.out]
  clear HW2
  go_wp2
  clear y0 y1 q0 q1 q2 q3 q4 q5
  go_loopw [11] (fun i wr => ∃ j : Nat, j ≤ cs.length ∧ i = .int .i64 j ∧ anyTo (cellM fs cs f P) j = false ∧ Below w2.heap.size w2 wr) (fun i _ => cs.length - (intOf i).toNat)
  case atStart => exact ⟨0, Nat.zero_le _, rfl, rfl, Below.refl _ _⟩
  case round =>
    obtain ⟨j, hj, rfl, ha, hbel⟩ := hrel
    have HA : Hid (anyTo (cellM fs cs f P) j = false) := ha
    clear ha
    have Dr := HD.out _ hbel
    have y1 := Dr.cell 1
    simp at y1
    by_cases hlt : j < cs.length
    · have hji : (j : Int) < (cs.length : Int) := by omega
      have ir := HIN.out _ hbel
      obtain ⟨g, off, rfl, hg, hc⟩ := ir.rc (by omega)
      obtain ⟨c0, c1⟩ := hc j hlt
      obtain ⟨s0, s1⟩ := ir.sc j hlt
      have HY : Hid (cellM fs cs f P j = true → leafM fs key cs k f t lo hi = true) := fun h => by rw [HL.out]; exact anyTo_yes hlt h
      have HN : Hid (cellM fs cs f P j = false → anyTo (cellM fs cs f P) (j + 1) = false) := fun h => anyTo_snoc HA.out h
      have HC : Hid (cellM fs cs f P j = (kindB fs (cat cs j).name 1 && (noB f || f.toList == (cat cs j).name.toList) && P (termsL (cat cs j).text))) := rfl
      generalize cellM fs cs f P j = b at *
      generalize cat cs j = cl at *
      obtain ⟨nm, tx⟩ := cl
      simp only at c0 c1 s0 s1 HC
      have hba : Below wr.heap.size wr (wr.alloc (.cells #[.string nm, .string tx] 59)) := (Below.refl _ wr).alloc (Nat.le_refl _) _
      have X := Blk.new wr #[.string nm, .string tx] 59
      clear hc HA HL ir Dr
      go_upto_region 19 with fail
      obtain ⟨G, hG⟩ : ∃ G, wr.heap.size = G := ⟨_, rfl⟩
      obtain ⟨wa, hwa⟩ : ∃ wa, wr.alloc (.cells #[.string nm, .string tx] 59) = wa := ⟨_, rfl⟩
      have hwb := below_trans hbel hba
      rw [hwa] at hwb X ⊢
      rw [hG] at X ⊢
      have x0 := X.cell 0
      have x1 := X.cell 1
      have Qa := HQ.out _ hwb
      have q0 := Qa.cell 0
      have q1 := Qa.cell 1
      have q2 := Qa.cell 2
      have q3 := Qa.cell 3
      have q4 := Qa.cell 4
      have q5 := Qa.cell 5
      simp at x0 x1 q0 q1 q2 q3 q4 q5
      have HKC : Hid (Calls Tryz.prog 73 #[.slice fa fs.length capf, .string nm, .int .i64 1] wa fun e w' => e = .returned (.bool (kindB fs nm 1)) ∧ w' = wa) := l2Kind_any fa capf fs nm 1 wa (by decide) hzf (HIN.out _ hwb).rf
      have HWB : Hid (Below w2.heap.size w2 wa) := hwb
      have HLX := HLT.out tx wa s1
      have HLXH : Hid (Calls Tryz.prog 119 #[.string tx, .agg #[.int .i64 k, .string f, .string t, .int .i64 lo, .int .i64 hi, .slice a n c]] wa fun e w' => e = .returned (.bool (P (termsL tx))) ∧ Below wa.heap.size wa w') := HLX
      clear c0 c1 hwa hba hG hbel hwb HLX HLT y1 X Qa
      generalize kindB fs nm 1 = kb at *
      generalize P (termsL tx) = pb at *
      have hfn : (f.toList == []) = noB f := by
        unfold noB
        cases f.toList <;> rfl
      cases hmy : (noB f || f.toList == nm.toList) with
      | false =>
        have hnb : noB f = false := by
          cases h : noB f with
          | false => rfl
          | true => rw [h] at hmy; cases hmy
        have hnm : (f.toList == nm.toList) = false := by rw [hnb] at hmy; exact hmy
        rw [hnb] at hfn
        have HB2 : Hid (anyTo (cellM fs cs f P) (j + 1) = false) := HN.out (by rw [HC.out, hmy]; simp)
        have hie : f.toList.isEmpty = false := hnb
        clear HC HN HY HKC HLXH hmy
        go_wp2
        go_roundw
        case rel => exact ⟨j + 1, by omega, by go_num, HB2.out, HWB.out⟩
        case measure => simp [intOf]; omega
      | true =>
        have HBB : Hid (b = (kb && pb)) := by unfold Hid; rw [HC.out, hmy, Bool.and_true]
        clear HC
        cases hnb : noB f with
        | true =>
          have hie : f.toList.isEmpty = true := hnb
          rw [hnb] at hfn
          clear hmy
          go_wp2_with fail
          refine HKC.out.mono ?_
          rintro e w5 ⟨rfl, rfl⟩
          clear HKC
          cases kb with
          | false =>
            have HB2 : Hid (anyTo (cellM fs cs f P) (j + 1) = false) := HN.out HBB.out
            clear HBB HN HY HLXH
            go_wp2
            go_roundw
            case rel => exact ⟨j + 1, by omega, by go_num, HB2.out, HWB.out⟩
            case measure => simp [intOf]; omega
          | true =>
            go_wp2_with fail
            refine HLXH.out.mono ?_
            rintro e w6 ⟨rfl, hb6⟩
            have hw6 := HWB.out.trans (hb6.mono HWB.out.size)
            clear HLXH x0 x1 q0 q1 q2 q3 q4 q5 hb6
            cases pb with
            | true =>
              have HB2 : Hid (leafM fs key cs k f t lo hi = true) := HY.out HBB.out
              clear HY HN HBB
              have hw7 := HB.out.trans (hw6.mono HB.out.size)
              go_wp2
              go_ret
              exact ⟨ret_bool HB2.out.symm, hw7⟩
            | false =>
              have HB2 : Hid (anyTo (cellM fs cs f P) (j + 1) = false) := HN.out HBB.out
              clear HY HN HBB
              go_wp2
              go_roundw
              case rel => exact ⟨j + 1, by omega, by go_num, HB2.out, hw6⟩
              case measure => simp [intOf]; omega
        | false =>
          have hie : f.toList.isEmpty = false := hnb
          have hnm : (f.toList == nm.toList) = true := by rw [hnb] at hmy; exact hmy
          rw [hnb] at hfn
          clear hmy
          go_wp2_with fail
          refine HKC.out.mono ?_
          rintro e w5 ⟨rfl, rfl⟩
          clear HKC
          cases kb with
          | false =>
            have HB2 : Hid (anyTo (cellM fs cs f P) (j + 1) = false) := HN.out HBB.out
            clear HBB HN HY HLXH
            go_wp2
            go_roundw
            case rel => exact ⟨j + 1, by omega, by go_num, HB2.out, HWB.out⟩
            case measure => simp [intOf]; omega
          | true =>
            go_wp2_with fail
            refine HLXH.out.mono ?_
            rintro e w6 ⟨rfl, hb6⟩
            have hw6 := HWB.out.trans (hb6.mono HWB.out.size)
            clear HLXH x0 x1 q0 q1 q2 q3 q4 q5 hb6
            cases pb with
            | true =>
              have HB2 : Hid (leafM fs key cs k f t lo hi = true) := HY.out HBB.out
              clear HY HN HBB
              have hw7 := HB.out.trans (hw6.mono HB.out.size)
              go_wp2
              go_ret
              exact ⟨ret_bool HB2.out.symm, hw7⟩
            | false =>
              have HB2 : Hid (anyTo (cellM fs cs f P) (j + 1) = false) := HN.out HBB.out
              clear HY HN HBB
              go_wp2
              go_roundw
              case rel => exact ⟨j + 1, by omega, by go_num, HB2.out, hw6⟩
              case measure => simp [intOf]; omega
    · have hjl : j = cs.length := by omega
      subst hjl
      have HB2 : Hid (leafM fs key cs k f t lo hi = false) := HL.out.trans HA.out
      have hw7 := HB.out.trans (hbel.mono HB.out.size)
      clear HA HL
      go_wp2
      go_ret
      exact ⟨ret_bool HB2.out.symm, hw7⟩
theorem l6Leaf_any (fa : Option Addr) (capf : Nat) (fs : List Fld) (key : ByteArray) (ca : Option Addr) (capc : Nat) (cs : List Cel) (k : Int) (f t : ByteArray) (lo hi : Int) (n : Nat) (a : Option Addr) (c : Nat) (w : World) (hin : MtIn w fa capf fs key ca cs) (hk : k = 1 ∨ ((k = 2 ∨ k = 3 ∨ k = 4) ∧ t.size ≤ 60 ∧ 0 < l5W t) ∨ k = 5 ∨ k = 6) :
    Calls Tryz.prog 76 #[.slice fa fs.length capf, .agg #[.string key, .slice ca cs.length capc], .agg #[.int .i64 k, .string f, .string t, .int .i64 lo, .int .i64 hi, .slice a n c]] w fun e w' => e = .returned (.bool (leafM fs key cs k f t lo hi)) ∧ Below w.heap.size w w' := by
  rcases hk with rfl | ⟨hk, ht, h5⟩ | rfl | rfl
  · exact l6Leaf_1 fa capf fs key ca capc cs f t lo hi n a c w hin
  · exact l6Leaf_t fa capf fs key ca capc cs k f t lo hi n a c w hin hk ht h5
  · exact l6Leaf_5 fa capf fs key ca capc cs f t lo hi n a c w hin
  · exact l6Leaf_6 fa capf fs key ca capc cs f t lo hi n a c w hin
end Go.Proofs.YtjkimadnopeakaaGreatDoor
