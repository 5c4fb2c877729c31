/- Facts on sets, as lists that ascend: plain mathematics. -/
import Derived.Test.YtbmdfhognldkjaaOrPlain
namespace Go.Proofs.Ytbmdfhognldkjaa
open Go.RowKit

theorem asc_ext : ∀ (zs ys : List Int), Asc zs → Asc ys → (∀ x, x ∈ zs ↔ x ∈ ys) → zs = ys
  | [], [], _, _, _ => rfl
  | [], y :: ys, _, _, h => by have := (h y).2 (by simp); simp at this
  | z :: zs, [], _, _, h => by have := (h z).1 (by simp); simp at this
  | z :: zs, y :: ys, hz, hy, h => by
    have hz1 := List.pairwise_cons.1 hz
    have hy1 := List.pairwise_cons.1 hy
    have e : z = y := by
      rcases List.mem_cons.1 ((h z).1 (by simp)) with a | a
      · exact a
      · rcases List.mem_cons.1 ((h y).2 (by simp)) with b | b
        · exact b.symm
        · have h1 := hy1.1 z a
          have h2 := hz1.1 y b
          omega
    subst e
    have e2 : zs = ys := asc_ext zs ys hz1.2 hy1.2 fun x => ⟨fun hx => by
      have hne := hz1.1 x hx
      rcases List.mem_cons.1 ((h x).1 (by simp [hx])) with h' | h'
      · omega
      · exact h', fun hx => by
      have hne := hy1.1 x hx
      rcases List.mem_cons.1 ((h x).2 (by simp [hx])) with h' | h'
      · omega
      · exact h'⟩
    rw [e2]

theorem setB_iff (zs : List Int) : setB zs = true ↔ zs.length ≤ 16 ∧ Asc zs ∧ ∀ x ∈ zs, 0 ≤ x ∧ x ≤ 999999999 := by
  constructor
  · intro h
    have ha := asc_of_set zs h
    simp only [setB, ascB, Bool.and_eq_true, allTo_iff, decide_eq_true_eq] at h
    refine ⟨by omega, ha, fun x hx => ?_⟩
    obtain ⟨j, hj, rfl⟩ := List.getElem_of_mem hx
    have := h.2 j hj
    simp only [okAt, Bool.and_eq_true, decide_eq_true_eq, nth_get _ _ hj] at this
    exact this.1
  · rintro ⟨h1, h2, h3⟩
    simp only [setB, ascB, Bool.and_eq_true, allTo_iff, decide_eq_true_eq]
    refine ⟨by omega, fun j hj => ?_⟩
    simp only [okAt, Bool.and_eq_true, Bool.or_eq_true, decide_eq_true_eq]
    have hm := h3 (nth zs j) (by rw [nth_get _ _ hj]; exact List.getElem_mem hj)
    refine ⟨hm, ?_⟩
    by_cases e : j = 0
    · exact .inl e
    · refine .inr ?_
      rw [nth_get _ _ hj, nth_get zs (j - 1) (by omega)]
      exact List.pairwise_iff_getElem.1 h2 (j - 1) j (by omega) hj (by omega)

theorem andTo_all (zs ys : List Int) (both : Bool) : andTo zs ys both zs.length = zs.filter (fun z => decide (z ∈ ys) == both) := by
  unfold andTo
  rw [List.take_length]
  exact List.filter_congr fun x _ => by rw [hasB_mem]
theorem andB_set (zs ys : List Int) (both : Bool) (hz : setB zs = true) (hy : setB ys = true) : andB zs ys both = zs.filter (fun z => decide (z ∈ ys) == both) := by
  unfold andB
  rw [hz, hy, ← andTo_all]
  rfl
theorem orB_set (zs ys : List Int) (hz : setB zs = true) (hy : setB ys = true) : orB zs ys = mgl zs ys := by
  unfold orB
  rw [hz, hy]
  rfl
theorem set_filter (zs : List Int) (p : Int → Bool) (hz : setB zs = true) : setB (zs.filter p) = true := by
  obtain ⟨h1, h2, h3⟩ := (setB_iff zs).1 hz
  exact (setB_iff _).2 ⟨Nat.le_trans (List.length_filter_le _ _) h1, h2.sublist List.filter_sublist, fun x hx => h3 x (List.mem_filter.1 hx).1⟩
theorem set_nil : setB [] = true := by decide

theorem mem_mgl : ∀ (n : Nat) (zs ys : List Int), zs.length + ys.length ≤ n → ∀ x, x ∈ mgl zs ys ↔ x ∈ zs ∨ x ∈ ys
  | 0, zs, ys, h, x => by
    obtain rfl : zs = [] := List.eq_nil_of_length_eq_zero (by omega)
    obtain rfl : ys = [] := List.eq_nil_of_length_eq_zero (by omega)
    simp [mgl, mg]
  | n + 1, [], ys, _, x => by rw [mgl_nil]; simp
  | n + 1, z :: zs, [], h, x => by
    simp only [List.length_cons] at h
    have ih := mem_mgl n zs [] (by simp at h ⊢; omega) x
    rw [mgl_none, List.mem_cons, ih]
    simp
  | n + 1, z :: zs, y :: ys, h, x => by
    simp only [List.length_cons] at h
    by_cases h1 : z < y
    · have ih := mem_mgl n zs (y :: ys) (by simp; omega) x
      rw [mgl_gt _ _ _ _ h1, List.mem_cons, ih, List.mem_cons, List.mem_cons]
      constructor
      · rintro (h | h | h) <;> simp [h]
      · rintro ((h | h) | h) <;> simp [h]
    · by_cases h2 : y < z
      · have ih := mem_mgl n (z :: zs) ys (by simp; omega) x
        rw [mgl_lt _ _ _ _ h2, List.mem_cons, ih, List.mem_cons, List.mem_cons]
        constructor
        · rintro (h | h | h) <;> simp [h]
        · rintro (h | h | h) <;> simp [h]
      · obtain rfl : z = y := by omega
        have ih := mem_mgl n zs ys (by omega) x
        rw [mgl_eq, List.mem_cons, ih, List.mem_cons, List.mem_cons]
        constructor
        · rintro (h | h | h) <;> simp [h]
        · rintro ((h | h) | (h | h)) <;> simp [h]
theorem mem_mgl' (zs ys : List Int) (x : Int) : x ∈ mgl zs ys ↔ x ∈ zs ∨ x ∈ ys := mem_mgl _ zs ys (Nat.le_refl _) x
theorem asc_mgl : ∀ (n : Nat) (zs ys : List Int), zs.length + ys.length ≤ n → Asc zs → Asc ys → Asc (mgl zs ys)
  | 0, zs, ys, h, _, _ => by
    obtain rfl : zs = [] := List.eq_nil_of_length_eq_zero (by omega)
    obtain rfl : ys = [] := List.eq_nil_of_length_eq_zero (by omega)
    rw [mgl_nil]
    exact List.Pairwise.nil
  | n + 1, [], ys, _, _, hy => by rw [mgl_nil]; exact hy
  | n + 1, z :: zs, [], h, hz, hy => by
    simp only [List.length_cons] at h
    have hz1 := List.pairwise_cons.1 hz
    rw [mgl_none]
    refine List.pairwise_cons.2 ⟨fun x hx => ?_, asc_mgl n zs [] (by simp at h ⊢; omega) hz1.2 hy⟩
    rcases (mem_mgl' _ _ x).1 hx with hx | hx
    · exact hz1.1 x hx
    · simp at hx
  | n + 1, z :: zs, y :: ys, h, hz, hy => by
    simp only [List.length_cons] at h
    have hz1 := List.pairwise_cons.1 hz
    have hy1 := List.pairwise_cons.1 hy
    by_cases h1 : z < y
    · rw [mgl_gt _ _ _ _ h1]
      refine List.pairwise_cons.2 ⟨fun x hx => ?_, asc_mgl n zs (y :: ys) (by simp; omega) hz1.2 hy⟩
      rcases (mem_mgl' _ _ x).1 hx with hx | hx
      · exact hz1.1 x hx
      · rcases List.mem_cons.1 hx with rfl | hx
        · exact h1
        · have := hy1.1 x hx; omega
    · by_cases h2 : y < z
      · rw [mgl_lt _ _ _ _ h2]
        refine List.pairwise_cons.2 ⟨fun x hx => ?_, asc_mgl n (z :: zs) ys (by simp; omega) hz hy1.2⟩
        rcases (mem_mgl' _ _ x).1 hx with hx | hx
        · rcases List.mem_cons.1 hx with rfl | hx
          · exact h2
          · have := hz1.1 x hx; omega
        · exact hy1.1 x hx
      · obtain rfl : z = y := by omega
        rw [mgl_eq]
        refine List.pairwise_cons.2 ⟨fun x hx => ?_, asc_mgl n zs ys (by omega) hz1.2 hy1.2⟩
        rcases (mem_mgl' _ _ x).1 hx with hx | hx
        · exact hz1.1 x hx
        · exact hy1.1 x hx
theorem mg_count : ∀ (n : Nat) (zs ys : List Int), zs.length + ys.length ≤ n → (mg zs ys).length + ((mg zs ys).filter fun x => x.2.1 && x.2.2).length = zs.length + ys.length
  | 0, zs, ys, h => by
    obtain rfl : zs = [] := List.eq_nil_of_length_eq_zero (by omega)
    obtain rfl : ys = [] := List.eq_nil_of_length_eq_zero (by omega)
    simp [mg]
  | n + 1, [], ys, _ => by simp [mg_right, List.filter_map, Function.comp_def]
  | n + 1, z :: zs, [], _ => by rw [mg_left]; simp [List.filter_map, Function.comp_def]
  | n + 1, z :: zs, y :: ys, h => by
    simp only [List.length_cons] at h
    by_cases h1 : z < y
    · have ih := mg_count n zs (y :: ys) (by simp; omega)
      rw [mg, if_pos h1, List.filter_cons, if_neg (by simp)]
      simp only [List.length_cons] at ih ⊢
      omega
    · by_cases h2 : y < z
      · have ih := mg_count n (z :: zs) ys (by simp; omega)
        rw [mg, if_neg h1, if_pos h2, List.filter_cons, if_neg (by simp)]
        simp only [List.length_cons] at ih ⊢
        omega
      · have ih := mg_count n zs ys (by omega)
        rw [mg, if_neg h1, if_neg h2, List.filter_cons, if_pos (by simp)]
        simp only [List.length_cons] at ih ⊢
        omega

section
variable (zs ys : List Int) (hz : setB zs = true) (hy : setB ys = true)
include hz hy
theorem mem_and (x : Int) : x ∈ andB zs ys true ↔ x ∈ zs ∧ x ∈ ys := by rw [andB_set zs ys true hz hy, List.mem_filter]; simp
theorem mem_less (x : Int) : x ∈ andB zs ys false ↔ x ∈ zs ∧ x ∉ ys := by rw [andB_set zs ys false hz hy, List.mem_filter]; simp
theorem mem_or (x : Int) : x ∈ orB zs ys ↔ x ∈ zs ∨ x ∈ ys := by rw [orB_set zs ys hz hy]; exact mem_mgl' _ _ _
theorem set_and (both : Bool) : setB (andB zs ys both) = true := by rw [andB_set zs ys both hz hy]; exact set_filter zs _ hz
theorem asc_or : Asc (orB zs ys) := by rw [orB_set zs ys hz hy]; exact asc_mgl _ zs ys (Nat.le_refl _) (asc_of_set zs hz) (asc_of_set ys hy)
theorem and_turn : andB ys zs true = andB zs ys true := asc_ext _ _ (asc_of_set _ (set_and ys zs hy hz true)) (asc_of_set _ (set_and zs ys hz hy true)) fun x => by rw [mem_and ys zs hy hz, mem_and zs ys hz hy]; exact And.comm
theorem or_turn : orB ys zs = orB zs ys := asc_ext _ _ (asc_or ys zs hy hz) (asc_or zs ys hz hy) fun x => by rw [mem_or ys zs hy hz, mem_or zs ys hz hy]; exact Or.comm
theorem or_count : (orB zs ys).length + (andB zs ys true).length = zs.length + ys.length := by
  rw [orB_set zs ys hz hy, ← told_andB true zs ys hz hy, ← mg_count _ zs ys (Nat.le_refl _)]
  unfold mgl told
  rw [List.length_map, List.length_map]
  congr 3
  funext x
  simp
theorem or_less : orB (andB zs ys false) (andB zs ys true) = zs := by
  have h1 := set_and zs ys hz hy false
  have h2 := set_and zs ys hz hy true
  refine asc_ext _ _ (asc_or _ _ h1 h2) (asc_of_set zs hz) fun x => ?_
  rw [mem_or _ _ h1 h2, mem_and zs ys hz hy, mem_less zs ys hz hy]
  by_cases h : x ∈ ys <;> simp [h]
theorem less_and : andB (andB zs ys false) ys true = [] := by
  have h1 := set_and zs ys hz hy false
  refine List.eq_nil_iff_forall_not_mem.2 fun x hx => ?_
  rw [mem_and _ _ h1 hy, mem_less zs ys hz hy] at hx
  exact hx.1.2 hx.2
end
section
variable (zs : List Int) (hz : setB zs = true)
include hz
theorem and_self : andB zs zs true = zs := asc_ext _ _ (asc_of_set _ (set_and zs zs hz hz true)) (asc_of_set _ hz) fun x => by rw [mem_and zs zs hz hz]; exact and_self_iff
theorem or_self' : orB zs zs = zs := asc_ext _ _ (asc_or zs zs hz hz) (asc_of_set _ hz) fun x => by rw [mem_or zs zs hz hz]; exact or_self_iff
theorem less_self : andB zs zs false = [] := List.eq_nil_iff_forall_not_mem.2 fun x hx => by rw [mem_less zs zs hz hz] at hx; exact hx.2 hx.1
theorem less_nil : andB zs [] false = zs := asc_ext _ _ (asc_of_set _ (set_and zs [] hz set_nil false)) (asc_of_set _ hz) fun x => by rw [mem_less zs [] hz set_nil]; simp
theorem nil_less : andB [] zs false = [] := List.eq_nil_iff_forall_not_mem.2 fun x hx => by rw [mem_less [] zs set_nil hz] at hx; simp at hx
theorem and_nil : andB zs [] true = [] := List.eq_nil_iff_forall_not_mem.2 fun x hx => by rw [mem_and zs [] hz set_nil] at hx; simp at hx
theorem or_nil : orB zs [] = zs := asc_ext _ _ (asc_or zs [] hz set_nil) (asc_of_set _ hz) fun x => by rw [mem_or zs [] hz set_nil]; simp
theorem nil_or : orB [] zs = zs := asc_ext _ _ (asc_or [] zs set_nil hz) (asc_of_set _ hz) fun x => by rw [mem_or [] zs set_nil hz]; simp
theorem and_one (n : Int) (h0 : 0 ≤ n) (h1 : n ≤ 999999999) : (((andB zs [n] true).length : Int) == 1) = hasB zs n := by
  have hn : setB [n] = true := (setB_iff _).2 ⟨by simp, by simp [Asc], by simp; omega⟩
  rw [hasB_mem]
  by_cases h : n ∈ zs
  · have e : andB zs [n] true = [n] := asc_ext _ _ (asc_of_set _ (set_and zs [n] hz hn true)) (asc_of_set _ hn) fun x => by
      rw [mem_and zs [n] hz hn]
      constructor
      · exact fun h => h.2
      · intro hx
        refine ⟨?_, hx⟩
        rw [List.mem_singleton] at hx
        rw [hx]
        exact h
    rw [e]
    simp [h]
  · have e : andB zs [n] true = [] := List.eq_nil_iff_forall_not_mem.2 fun x hx => by
      rw [mem_and zs [n] hz hn, List.mem_singleton] at hx
      exact h (hx.2 ▸ hx.1)
    rw [e]
    simp [h]
end
section
variable (a b c : List Int) (ha : setB a = true) (hb : setB b = true) (hc : setB c = true)
include ha hb hc
theorem and_three : andB (andB a b true) c true = andB a (andB b c true) true := by
  have h1 := set_and a b ha hb true
  have h2 := set_and b c hb hc true
  refine asc_ext _ _ (asc_of_set _ (set_and _ _ h1 hc true)) (asc_of_set _ (set_and _ _ ha h2 true)) fun x => ?_
  rw [mem_and _ _ h1 hc, mem_and _ _ ha h2, mem_and _ _ ha hb, mem_and _ _ hb hc]
  exact and_assoc
theorem and_or (ho : setB (orB b c) = true) : andB a (orB b c) true = orB (andB a b true) (andB a c true) := by
  have h1 := set_and a b ha hb true
  have h2 := set_and a c ha hc true
  refine asc_ext _ _ (asc_of_set _ (set_and _ _ ha ho true)) (asc_or _ _ h1 h2) fun x => ?_
  rw [mem_and _ _ ha ho, mem_or _ _ hb hc, mem_or _ _ h1 h2, mem_and _ _ ha hb, mem_and _ _ ha hc]
  constructor
  · rintro ⟨h, h' | h'⟩ <;> simp [h, h']
  · rintro (⟨h, h'⟩ | ⟨h, h'⟩) <;> simp [h, h']
end
end Go.Proofs.Ytbmdfhognldkjaa
