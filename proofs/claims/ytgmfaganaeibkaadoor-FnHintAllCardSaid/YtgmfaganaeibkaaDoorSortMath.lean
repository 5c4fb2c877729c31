/- What the sort by weight makes: the same hints, by weight, as heavy ones in their order. -/
import Derived.Test.YtgmfaganaeibkaaDoorHintMath
import Derived.Test.YtgmfaganaeibkaaDoorFindAll
namespace Go.Proofs.YtgmfaganaeibkaaDoor
open Go.RowKit
set_option linter.unusedVariables false

def DescW (l : List Hn) : Prop := l.Pairwise fun a b => b.weight ≤ a.weight
theorem desc_at {l : List Hn} (h : DescW l) {i j : Nat} (hij : i < j) (hj : j < l.length) : (hnat l j).weight ≤ (hnat l i).weight := by
  rw [hnat_get _ _ hj, hnat_get _ _ (by omega)]
  exact List.pairwise_iff_getElem.1 h i j (by omega) hj hij
theorem posW_above {l : List Hn} {x : Int} : ∀ {k : Nat}, ∀ i, posW l x k ≤ i → i < k → (hnat l i).weight < x
  | 0, i, _, h => by omega
  | k + 1, i, h1, h2 => by
    unfold posW at h1
    split at h1
    · rename_i hw
      by_cases e : i = k
      · subst e; exact hw
      · exact posW_above i h1 (by omega)
    · omega
theorem posW_last {l : List Hn} {x : Int} : ∀ {k : Nat}, 0 < posW l x k → x ≤ (hnat l (posW l x k - 1)).weight
  | 0, h => by simp [posW] at h
  | k + 1, h => by
    unfold posW at h ⊢
    split
    · rename_i hw
      rw [if_pos hw] at h
      exact posW_last h
    · rename_i hw
      rw [Nat.add_sub_cancel]
      omega
def geW (x : Int) (a : Hn) : Bool := decide (x ≤ a.weight)
theorem filter_all {p : Hn → Bool} {l : List Hn} (h : ∀ i, i < l.length → p (hnat l i) = true) : l.filter p = l := by
  rw [List.filter_eq_self]
  intro a ha
  obtain ⟨i, hi, rfl⟩ := List.getElem_of_mem ha
  have := h i hi
  rwa [hnat_get _ _ hi] at this
theorem filter_none {p : Hn → Bool} {l : List Hn} (h : ∀ i, i < l.length → p (hnat l i) = false) : l.filter p = [] := by
  rw [List.filter_eq_nil_iff]
  intro a ha
  obtain ⟨i, hi, rfl⟩ := List.getElem_of_mem ha
  have := h i hi
  rw [hnat_get _ _ hi] at this
  rw [this]
  simp
theorem hnat_take {l : List Hn} {k i : Nat} (h : i < (l.take k).length) : hnat (l.take k) i = hnat l i := by
  have h2 := h
  rw [List.length_take] at h2
  rw [hnat_get _ _ h, hnat_get _ _ (by omega), List.getElem_take]
theorem hnat_dropped {l : List Hn} {k i : Nat} (h : i < (l.drop k).length) : hnat (l.drop k) i = hnat l (k + i) := by
  have h2 := h
  rw [List.length_drop] at h2
  rw [hnat_get _ _ h, hnat_get _ _ (by omega), List.getElem_drop]
theorem insW_filter {l : List Hn} (h : DescW l) (y : Hn) : insW l y = l.filter (geW y.weight) ++ [y] ++ l.filter (fun a => !geW y.weight a) := by
  obtain ⟨k, hk⟩ : ∃ k, posW l y.weight l.length = k := ⟨_, rfl⟩
  have hkl : k ≤ l.length := by rw [← hk]; exact posW_le _ _ _
  have hlo : ∀ i, i < (l.take k).length → geW y.weight (hnat (l.take k) i) = true := fun i hi => by
    have hi2 := hi
    rw [List.length_take] at hi2
    rw [hnat_take hi]
    have h0 : 0 < posW l y.weight l.length := by omega
    have h1 := posW_last h0
    rw [hk] at h1
    unfold geW
    apply decide_eq_true
    by_cases e : i = k - 1
    · subst e; exact h1
    · exact Int.le_trans h1 (desc_at h (by omega) (by omega))
  have hhi : ∀ i, i < (l.drop k).length → geW y.weight (hnat (l.drop k) i) = false := fun i hi => by
    have hi2 := hi
    rw [List.length_drop] at hi2
    rw [hnat_dropped hi]
    have := posW_above (l := l) (x := y.weight) (k := l.length) (k + i) (by omega) (by omega)
    unfold geW
    exact decide_eq_false (by omega)
  have e1 : l.filter (geW y.weight) = l.take k := by
    conv => lhs; rw [← List.take_append_drop k l]
    rw [List.filter_append, filter_all hlo, filter_none hhi, List.append_nil]
  have e2 : l.filter (fun a => !geW y.weight a) = l.drop k := by
    conv => lhs; rw [← List.take_append_drop k l]
    rw [List.filter_append, filter_none (fun i hi => by rw [hlo i hi]; rfl), filter_all (fun i hi => by rw [hhi i hi]; rfl), List.nil_append]
  unfold insW
  rw [hk, e1, e2]
theorem insW_desc {l : List Hn} (h : DescW l) (y : Hn) : DescW (insW l y) := by
  rw [insW_filter h]
  unfold DescW
  rw [List.pairwise_append, List.pairwise_append]
  refine ⟨⟨h.filter _, List.pairwise_singleton _ _, fun a ha b hb => ?_⟩, h.filter _, fun a ha b hb => ?_⟩
  · rw [List.mem_singleton] at hb
    subst hb
    rw [List.mem_filter] at ha
    exact of_decide_eq_true ha.2
  · have hb2 : b.weight < y.weight := by
      have := (List.mem_filter.1 hb).2
      unfold geW at this
      simp at this
      exact this
    rw [List.mem_append, List.mem_singleton] at ha
    rcases ha with ha | rfl
    · have := of_decide_eq_true (List.mem_filter.1 ha).2
      omega
    · omega
theorem sortW_desc : ∀ l : List Hn, DescW (sortW l) := fun l => by
  have key : ∀ (l acc : List Hn), DescW acc → DescW (l.foldl insW acc) := fun l => by
    induction l with
    | nil => intro acc h; exact h
    | cons a l ih => intro acc h; rw [List.foldl_cons]; exact ih _ (insW_desc h a)
  exact key l [] List.Pairwise.nil
theorem insW_keep {l : List Hn} (h : DescW l) (y : Hn) (p : Hn → Bool) : (insW l y).filter p = if p y = true then insW (l.filter p) y else l.filter p := by
  have hc : ∀ q : Hn → Bool, (l.filter q).filter p = (l.filter p).filter q := fun q => by
    rw [List.filter_filter, List.filter_filter]
    congr 1
    funext a
    exact Bool.and_comm _ _
  rw [insW_filter h, List.filter_append, List.filter_append, hc, hc]
  cases hp : p y with
  | true =>
    rw [if_pos rfl, insW_filter (h.filter p)]
    congr 2
    simp [hp]
  | false =>
    rw [if_neg (by simp)]
    have e : [y].filter p = [] := by simp [hp]
    rw [e, List.append_nil]
    have e1 := insW_filter h y
    -- what is at least as heavy, and what is not, is all
    obtain ⟨m, hm⟩ : ∃ m, l.filter p = m := ⟨_, rfl⟩
    have hd : DescW (l.filter p) := h.filter p
    rw [hm] at hd ⊢
    have e2 := insW_filter hd y
    unfold insW at e2
    obtain ⟨k, hk⟩ : ∃ k, posW m y.weight m.length = k := ⟨_, rfl⟩
    rw [hk] at e2
    have hkl : k ≤ m.length := by rw [← hk]; exact posW_le _ _ _
    have hl1 : (m.filter (geW y.weight)).length = k := by
      have hlo : ∀ i, i < (m.take k).length → geW y.weight (hnat (m.take k) i) = true := fun i hi => by
        have hi2 := hi
        rw [List.length_take] at hi2
        rw [hnat_take hi]
        have h0 : 0 < posW m y.weight m.length := by omega
        have h1 := posW_last h0
        rw [hk] at h1
        unfold geW
        apply decide_eq_true
        by_cases e : i = k - 1
        · subst e; exact h1
        · exact Int.le_trans h1 (desc_at hd (by omega) (by omega))
      have hhi : ∀ i, i < (m.drop k).length → geW y.weight (hnat (m.drop k) i) = false := fun i hi => by
        have hi2 := hi
        rw [List.length_drop] at hi2
        rw [hnat_dropped hi]
        have := posW_above (l := m) (x := y.weight) (k := m.length) (k + i) (by omega) (by omega)
        unfold geW
        exact decide_eq_false (by omega)
      have e1 : m.filter (geW y.weight) = m.take k := by
        conv => lhs; rw [← List.take_append_drop k m]
        rw [List.filter_append, filter_all hlo, filter_none hhi, List.append_nil]
      rw [e1, List.length_take]
      omega
    have hl2 : (m.take k).length = k := by rw [List.length_take]; omega
    rw [List.append_assoc, List.append_assoc] at e2
    have h3 := List.append_inj e2 (by rw [hl2, hl1])
    have h4 := List.append_inj h3.2 rfl
    rw [← h3.1, ← h4.2, List.take_append_drop]
theorem sortW_filter (p : Hn → Bool) : ∀ l : List Hn, sortW (l.filter p) = (sortW l).filter p := fun l => by
  have key : ∀ (l acc : List Hn), DescW acc → (l.filter p).foldl insW (acc.filter p) = (l.foldl insW acc).filter p := fun l => by
    induction l with
    | nil => intro acc _; rfl
    | cons a l ih =>
      intro acc h
      rw [List.filter_cons, List.foldl_cons, ← ih _ (insW_desc h a), insW_keep h]
      cases p a with
      | true => rfl
      | false => rfl
  exact key l [] List.Pairwise.nil
theorem preB_less {b b' t : ByteArray} (hb : preB b' b = true) (h : preB b t = true) : preB b' t = true := by
  unfold preB at *
  simp only [Bool.and_eq_true, decide_eq_true_eq, beq_iff_eq] at *
  obtain ⟨h1, h2⟩ := hb
  obtain ⟨h3, h4⟩ := h
  refine ⟨by omega, ?_⟩
  have e : t.extract 0 b.size = b := text_eq h4
  rw [← h2, ← e]
  congr 1
  apply ByteArray.ext
  simp
  congr 1
  omega
theorem findH_less {hs : List Hn} {b b' : ByteArray} (hb : preB b' b = true) : findH hs b = (findH hs b').filter fun h => preB b h.text := by
  unfold findH
  rw [List.filter_filter]
  apply List.filter_congr
  intro a _
  cases h : preB b a.text with
  | true => rw [preB_less hb h]; rfl
  | false => rfl
theorem findR_all {hs : List Hn} {b : ByteArray} (h : hintsB hs = true) : FindR hs b 10 = sortW (findH hs b) := by
  unfold FindR
  rw [if_pos ⟨h, by omega⟩]
  apply List.take_of_length_le
  rw [sortW_len]
  have h1 := findH_len hs b
  have h2 := (hints_facts h).1
  show _ ≤ 10
  omega
theorem findR_bad {hs : List Hn} {b : ByteArray} {m : Int} (h : hintsB hs = false) : FindR hs b m = [] := by
  unfold FindR
  rw [if_neg (fun e => by rw [h] at e; cases e.1)]
/-- What begins with a longer text is among what begins with a shorter one. -/
theorem findR_less {hs : List Hn} {b b' : ByteArray} (hb : preB b' b = true) : FindR hs b 10 = (FindR hs b' 10).filter fun h => preB b h.text := by
  cases h : hintsB hs with
  | true => rw [findR_all h, findR_all h, findH_less hb, sortW_filter]
  | false => rw [findR_bad h, findR_bad h]; rfl
end Go.Proofs.YtgmfaganaeibkaaDoor
