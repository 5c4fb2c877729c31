/- The walk of the law FnWordsTwo. -/
import Derived.Test.YtbkehpoigaeboaaTwoPlain
import Derived.Test.YtbkehpoigaeboaaStrSd
import Derived.Laws.AppendOwnNone
namespace Go.Proofs.Ytbkehpoigaeboaa
open Go.RowKit

theorem strs_one (l : List ByteArray) : ∀ u ∈ l.map Value.string, u.oneCell' = true := by
  intro u hu
  obtain ⟨t, _, rfl⟩ := List.mem_map.1 hu
  rfl
theorem strRow_cells {w : World} {ad : Addr} {ss : List ByteArray} (h : StrRow w (some ad) ss) : ∀ j u, (ss.map Value.string)[j]? = some u → w.cell? (ad.add j) = some u := by
  intro j u hj
  have hlt : j < ss.length := by
    have := (List.getElem?_eq_some_iff.1 hj).1
    simpa using this
  obtain ⟨g, e, _, hc⟩ := h (by omega)
  cases e
  rw [addr_add0, hc j hlt]
  rw [List.getElem?_map, List.getElem?_eq_getElem hlt] at hj
  rw [List.getD_eq_getElem?_getD, List.getElem?_eq_getElem hlt]
  exact hj
theorem strRow_alloc {w : World} {a : Option Addr} {ss : List ByteArray} (h : StrRow w a ss) (o : Obj) : StrRow (w.alloc o) a ss := h.below ((Below.refl _ w).alloc (Nat.le_refl _) _)

theorem owns_strRow' {w : World} {base : Nat} {e : TypeId} {v : Value} {ss : List ByteArray} (h : w.ownsRow base e 1 v ss.length (ss.map Value.string)) :
    (v = .slice none 0 0 ∧ ss = []) ∨ ∃ ad cap, v = .slice (some ad) ss.length cap ∧ StrRow w (some ad) ss := by
  obtain ⟨a, cap, hv, hr⟩ := owns_strRow h
  cases a with
  | none =>
    rcases h.2 with ⟨h1, h0⟩ | ⟨g, cap', cur, h1, _⟩
    · exact .inl ⟨h1, List.eq_nil_of_length_eq_zero h0⟩
    · rw [hv] at h1; cases h1
  | some ad => exact .inr ⟨ad, cap, hv, hr⟩

theorem wpList_append_strs {P : Program} {w : World} {ops : Array Oper} {rest : List Oper} {o : Oper} {a : Act} {Q : Exit → Act → World → Prop} (hgd : o.guard = none) (s x : Operand) (t : TypeId)
    (ho : o.op = .call { callee := .builtin .append, args := #[s, x], argTypes := #[t, t] })
    (base : Nat) (e : TypeId) (i : TypeInfo) (ht : P.underlying t = some (.slice e)) (hi : P.info? e = some i) (hz : i.zero = some (.string ⟨#[]⟩)) (hsize : i.size = 1) (hby : i.bytes = 16)
    (v : Value) (n : Nat) (xs : List Value) (hs : a.eval s = v) (hown : w.ownsRow base e 1 v n xs)
    (p : Option Addr) (c : Nat) (ss : List ByteArray) (hx : a.eval x = .slice p ss.length c) (hp : p = none → ss = [] ∧ c = 0) (hr : StrRow w p ss)
    (hn : n + ss.length ≤ 8000000) (hbase : base ≤ w.heap.size)
    (h : ∀ v' w', w'.ownsRow base e 1 v' (n + ss.length) (xs ++ ss.map Value.string) → Below base w w' → wpList P ops Q rest (a.put o.dst v') w') : wpList P ops Q (o :: rest) a w := by
  cases p with
  | none =>
    obtain ⟨rfl, rfl⟩ := hp rfl
    refine wpList_append_own_none hgd s x t ho base e i 1 ht hi v n xs hs hown hx ?_
    refine h v w ?_ (Below.refl _ _)
    simpa using hown
  | some ad =>
    refine wpList_append_own w hgd s x t ho base e i (.string ⟨#[]⟩) 1 16 ht hi hz hsize hby rfl (by decide) v n xs hs hown ad ss.length c (ss.map Value.string) hx (by simp) (strRow_cells hr) (strs_one _) (by unfold maxLen; omega) (by omega) hbase ?_
    intro v' w' h1 h2 _
    exact h v' w' h1 ((Below.refl _ w).grown h2 hbase (fun j hj => (hown.lt j hj).1))

set_option maxHeartbeats 2000000 in
theorem wFnWordsTwo (a0 : Option Addr) (len0 cap0 : Nat) (a1 : Option Addr) (len1 cap1 : Nat) (w : World) (b0 : BytesIn w a0 len0 cap0) (b1 : BytesIn w a1 len1 cap1) :
    Calls Try.prog 5 #[.slice a0 len0 cap0, .slice a1 len1 cap1] w fun e w' => e = .returned (.bool true) ∧ Below w.heap.size w w' := by
  obtain ⟨i0, hi, hz0, hz1, hz2⟩ := info_parts infoStr
  have m0 := b0.le
  have m1 := b0.max
  have m2 := b1.le
  have m3 := b1.max
  unfold maxLen at m1 m3
  by_cases hbig0 : 1048576 < (len0 : Int)
  · go_enter Try.func5, Try.ntmps5
    go_wp2
    go_ret
    exact ⟨rfl, Below.refl _ _⟩
  by_cases hbig1 : 1048576 < (len1 : Int)
  · have hbig0' : decide (1048576 < (len0 : Int)) = false := by simpa using hbig0
    go_enter Try.func5, Try.ntmps5
    go_wp2
    go_ret
    exact ⟨rfl, Below.refl _ _⟩
  go_enter Try.func5, Try.ntmps5
  go_wp2_with fail
  refine (drawWords_any _ _ _ _ b0).mono ?_
  rintro e u1 ⟨a, rfl, hsa, hb1⟩
  go_wp2_with fail
  refine (drawWords_any _ _ _ _ (b1.below hb1)).mono ?_
  rintro e u2 ⟨b, rfl, hsb, hb2⟩
  clear b0 b1
  have hNa := termsL_le a
  have hNb := termsL_le b
  have HLen : Hid ((wordsOn a 0).length = (termsL a).length) := (termsL_len a).symm
  have HTwo : Hid (termsL (a ++ ⟨#[32]⟩ ++ b) = termsL a ++ termsL b) := two_termsL a b
  go_wp2_with fail
  refine (termsI2_any a _ (by omega)).mono ?_
  rintro e u3 ⟨v1, rfl, ho1, hb3⟩
  obtain ⟨p1, c1, hv1, hr1⟩ := owns_strRow ho1
  have HV1 : Hid (v1 = .slice none 0 0 ∧ termsL a = [] ∨ ∃ ad cap, v1 = .slice (some ad) (termsL a).length cap ∧ StrRow u3 (some ad) (termsL a)) := owns_strRow' ho1
  subst hv1
  clear ho1
  go_wp2_with fail
  refine (termsI2_any b _ (by omega)).mono ?_
  rintro e u4 ⟨v2, rfl, ho2, hb4⟩
  obtain ⟨p2, c2, hv2, hr2⟩ := owns_strRow ho2
  have HV2 : Hid (v2 = .slice none 0 0 ∧ termsL b = [] ∨ ∃ ad cap, v2 = .slice (some ad) (termsL b).length cap ∧ StrRow u4 (some ad) (termsL b)) := owns_strRow' ho2
  subst hv2
  clear ho2
  go_wp2_with fail
  refine (termsS_any a _ (by omega)).mono ?_
  rintro e u5 ⟨v, rfl, ho, hb5⟩
  obtain ⟨p3, c3, rfl, hr3⟩ := owns_strRow ho
  clear ho
  go_wp2_with fail
  refine (sdTexts_same p1 p3 c1 c3 (termsL a) _ (by omega) (hr1.below (below_trans hb4 hb5)) hr3).mono ?_
  rintro e u6 ⟨rfl, hb6⟩
  clear hr3
  go_wp2_with fail
  refine (termsS_any b _ (by omega)).mono ?_
  rintro e u7 ⟨v, rfl, ho, hb7⟩
  obtain ⟨p4, c4, rfl, hr4⟩ := owns_strRow ho
  clear ho
  have r17 := hr1.below (below_trans hb4 (below_trans hb5 (below_trans hb6 hb7)))
  have r27 := hr2.below (below_trans hb5 (below_trans hb6 hb7))
  have hbw7 : Below w.heap.size w u7 := below_trans hb1 (below_trans hb2 (below_trans hb3 (below_trans hb4 (below_trans hb5 (below_trans hb6 hb7)))))
  clear hb1 hb2 hb3 hb4 hb5 hb6 hb7 hr1 hr2
  go_wp2_with fail
  refine (sdTexts_same p2 p4 c2 c4 (termsL b) _ (by omega) r27 hr4).mono ?_
  rintro e u8 ⟨rfl, hb8⟩
  have r18 := r17.below hb8
  have r28 := r27.below hb8
  have hbw8 := below_trans hbw7 hb8
  clear hr4 r17 r27 hbw7 hb8
  go_wp2_with fail
  have hszS : (a ++ (⟨#[32]⟩ : ByteArray) ++ b).size ≤ 1048576 := by rw [ByteArray.size_append, ByteArray.size_append]; show a.size + 1 + b.size ≤ _; omega
  refine (termsI2_any _ _ ?hszS).mono ?_
  case hszS => exact hszS
  rintro e u9 ⟨v, rfl, ho, hb9⟩
  rw [HTwo.out] at ho
  have hLl : (termsL a ++ termsL b).length ≤ 1048576 + 1048576 := by rw [List.length_append]; omega
  obtain ⟨L, hL⟩ : ∃ L, L = termsL a ++ termsL b := ⟨_, rfl⟩
  rw [← hL] at ho hLl
  have HL : Hid (L = termsL a ++ termsL b) := hL
  clear hL
  obtain ⟨p5, c5, rfl, hr5⟩ := owns_strRow ho
  clear ho
  have r19 := r18.below hb9
  have r29 := r28.below hb9
  have hbw9 := below_trans hbw8 hb9
  clear r18 r28 hbw8 hb9
  have hlit : (u9.alloc (.cells #[] 9)).ownsRow u9.heap.size 9 1 (.slice (some ⟨u9.heap.size, 0, none⟩) 0 0) 0 [] := World.ownsRow_lit u9 #[] 0 (Nat.le_refl _) (by decide) rfl
  have hp1 : Hid (p1 = none → termsL a = [] ∧ c1 = 0) := by
    unfold Hid
    rintro rfl
    rcases HV1.out with ⟨e1, hna⟩ | ⟨ad, cap, e1, _⟩
    · simp only [Value.slice.injEq] at e1; exact ⟨hna, e1.2.2⟩
    · simp at e1
  have hp2 : Hid (p2 = none → termsL b = [] ∧ c2 = 0) := by
    unfold Hid
    rintro rfl
    rcases HV2.out with ⟨e1, hna⟩ | ⟨ad, cap, e1, _⟩
    · simp only [Value.slice.injEq] at e1; exact ⟨hna, e1.2.2⟩
    · simp at e1
  clear HV1 HV2 hszS
  go_wp2_with (at_builtin; refine wpList_append_strs rfl (.tmp 42) (.tmp 43) 31 rfl u9.heap.size 9 i0 Try.underlying31 hi hz0 hz1 hz2 _ _ _ rfl hlit p1 c1 (termsL a) rfl hp1.out (strRow_alloc r19 _) (by omega) (by simp) ?_)
  intro v1 w1 hown1 hbA
  have hbA' : Below u9.heap.size u9 w1 := ((Below.refl _ u9).alloc (Nat.le_refl _) (.cells #[] 9)).trans hbA
  clear hbA hlit
  go_wp2_with (at_builtin; refine wpList_append_strs rfl (.tmp 44) (.tmp 45) 31 rfl u9.heap.size 9 i0 Try.underlying31 hi hz0 hz1 hz2 _ _ _ rfl hown1 p2 c2 (termsL b) rfl hp2.out (r29.below hbA') (by omega) hbA'.size ?_)
  intro v2 w2 hown2 hbB
  have hbB' : Below u9.heap.size u9 w2 := hbA'.trans hbB
  have hown3 : w2.ownsRow u9.heap.size 9 1 v2 L.length (L.map Value.string) := by
    rw [HL.out, List.length_append, List.map_append]
    simpa using hown2
  obtain ⟨p6, c6, rfl, hr6⟩ := owns_strRow hown3
  have r59 := hr5.below hbB'
  have hbw := below_trans hbw9 hbB'
  clear hr5 r19 r29 hown1 hown2 hown3 hbA' hbB hbB' hbw9 hp1 hp2
  go_wp2_with fail
  refine (sdTexts_same p5 p6 c5 c6 L _ (by omega) r59 hr6).mono ?_
  rintro e u10 ⟨rfl, hb10⟩
  clear r59 hr6
  go_wp2_with fail
  refine (wordsI2_any a _ (by omega)).mono ?_
  rintro e u11 ⟨p7, c7, rfl, hx1, hx2, hb11⟩
  clear hx1 hx2
  have d : (((termsL a).length : Int) == ((wordsOn a 0).length : Int)) = true := by rw [HLen.out]; simp
  go_wp2
  go_ret
  exact ⟨rfl, below_trans hbw (below_trans hb10 hb11)⟩
end Go.Proofs.Ytbkehpoigaeboaa
