/- slices.Insert over hints, all roads. -/
import Derived.Test.YtgmfaganaeibkaaDoorInsertG
import Derived.Test.YtgmfaganaeibkaaDoorSearchH
namespace Go.Proofs.YtgmfaganaeibkaaDoor
open Go.RowKit
set_option linter.unusedVariables false

theorem insertH_any (base vb i : Nat) (a : Option Addr) (c : Nat) (hs : List Hn) (t : ByteArray) (x : Int) (w : World) (hz : hs.length ≤ 1048576) (hi : i ≤ hs.length) (hb : base ≤ w.heap.size) (hown : w.ownsRow base 31 2 (.slice a hs.length c) hs.length (hnCells hs))
    (hV : Blk w vb #[.string t, .int .i64 x] 31) (hvg : ∀ y, a = some y → y.block ≠ vb) :
    Calls Tryd.prog 34 #[.slice a hs.length c, .int .i64 i, .slice (some ⟨vb, 0, none⟩) 1 1] w fun e w' => ∃ v', e = .returned v' ∧ w'.ownsRow base 31 2 v' (hs.length + 1) (hnCells (hs.take i ++ [⟨t, x⟩] ++ hs.drop i)) ∧ w.grownBy w' (Value.slice a hs.length c).ownBlock := by
  by_cases he : i = hs.length
  · subst he
    rw [List.take_of_length_le (Nat.le_refl _), List.drop_of_length_le (Nat.le_refl _), List.append_nil]
    exact insertH_end base vb _ hs t x w hz hb hown (fun j u hj => by rw [addr_add, Nat.zero_add, hV.cell j]; simpa using hj)
  · rcases hown.2 with ⟨e, h0⟩ | ⟨g, c', cur, e, hbg, hgg, hnc, hcm, hcs, hct⟩
    · omega
    · cases e
      by_cases hr : hs.length + 1 ≤ c
      · refine (insertH_room base g c vb i hs t x w hz (by omega) hr hown hV (fun e => hvg _ rfl e.symm)).mono ?_
        rintro e w' ⟨rfl, ho, hg⟩
        exact ⟨_, rfl, ho, hg⟩
      · refine (insertH_grow base g c vb i hs t x w hz (by omega) hb (by omega) hown hV).mono ?_
        rintro e w' ⟨G, rfl, ho, hg⟩
        exact ⟨_, rfl, ho, ⟨hg.os, hg.tape, hg.output, hg.size, fun j hj _ => hg.block j hj (by simp)⟩⟩
/-- What comes of hints when one is added, its place being k. -/
def addAt (hs : List Hn) (t : ByteArray) (x : Int) (k : Nat) : List Hn × Bool :=
  if hereH hs t k = true then (if (hnat hs k).weight + x ≤ 999999999 then (hs.set k ⟨(hnat hs k).text, (hnat hs k).weight + x⟩, true) else (hs, false))
  else if hs.length < 10 then (hs.take k ++ [⟨t, x⟩] ++ hs.drop k, true) else (hs, false)
/-- What HintAdd answers. -/
def AddH (hs : List Hn) (t : ByteArray) (x : Int) (r : List Hn × Bool) : Prop :=
  (hintsB hs = false ∧ r = ([], false)) ∨ (hintsB hs = true ∧ (hintTI t && hnW x) = false ∧ r = (hs, false)) ∨ (hintsB hs = true ∧ (hintTI t && hnW x) = true ∧ ∃ k, PosH hs t k ∧ r = addAt hs t x k)
theorem PosH.same {hs : List Hn} {t : ByteArray} {k j : Nat} (h : PosH hs t k) (h' : PosH hs t j) : k = j := by
  have key : ∀ {k j : Nat}, PosH hs t k → PosH hs t j → ¬ k < j := fun {k j} h h' hlt => by
    have h1 := (allTo_iff _ _).1 h'.2.1 k hlt
    rw [h.2.2 (Nat.lt_of_lt_of_le hlt h'.1)] at h1
    cases h1
  have a := key h h'
  have b := key h' h
  omega
theorem AddH.same {hs : List Hn} {t : ByteArray} {x : Int} {r s : List Hn × Bool} (h : AddH hs t x r) (h' : AddH hs t x s) : r = s := by
  rcases h with ⟨a, rfl⟩ | ⟨a, b, rfl⟩ | ⟨a, b, k, hk, rfl⟩
  · rcases h' with ⟨a', rfl⟩ | ⟨a', b', rfl⟩ | ⟨a', b', k', hk', rfl⟩
    · rfl
    · rw [a] at a'; cases a'
    · rw [a] at a'; cases a'
  · rcases h' with ⟨a', rfl⟩ | ⟨a', b', rfl⟩ | ⟨a', b', k', hk', rfl⟩
    · rw [a] at a'; cases a'
    · rfl
    · rw [b] at b'; cases b'
  · rcases h' with ⟨a', rfl⟩ | ⟨a', b', rfl⟩ | ⟨a', b', k', hk', rfl⟩
    · rw [a] at a'; cases a'
    · rw [b] at b'; cases b'
    · rw [hk.same hk']
theorem hnCells_set : ∀ (hs : List Hn) (k : Nat) (y : Int), k < hs.length → hnCells (hs.set k ⟨(hnat hs k).text, y⟩) = (hnCells hs).set (k * 2 + 1) (.int .i64 y)
  | [], k, y, h => absurd h (by simp)
  | c :: cs, 0, y, _ => by
    rw [List.set_cons_zero, hnCells_cons, hnCells_cons]
    rfl
  | c :: cs, k + 1, y, h => by
    have ih := hnCells_set cs k y (by simpa using h)
    have e : hnat (c :: cs) (k + 1) = hnat cs k := rfl
    rw [e, List.set_cons_succ, hnCells_cons, ih, hnCells_cons, show (k + 1) * 2 + 1 = k * 2 + 1 + 1 + 1 by omega]
    rfl
theorem hnat_ascending {hs : List Hn} (h : hintsB hs = true) : AscH hs := by
  unfold hintsB at h
  simp only [Bool.and_eq_true, decide_eq_true_eq] at h
  have step : ∀ i, i + 1 < hs.length → Op.bytesLess (hnat hs i).text.toList (hnat hs (i + 1)).text.toList = true := fun i hi => by
    have h1 := (allTo_iff _ _).1 h.2 (i + 1) hi
    unfold hnOk at h1
    simp only [Bool.and_eq_true, Bool.or_eq_true] at h1
    rcases h1.2 with e | e
    · simp at e
    · exact e
  intro i j hij hj
  obtain ⟨d, rfl⟩ : ∃ d, j = i + 1 + d := ⟨j - i - 1, by omega⟩
  clear hij
  induction d with
  | zero => exact step i hj
  | succ d ih => exact less_trans _ _ _ (ih (by omega)) (step (i + 1 + d) (by omega))
theorem hints_facts {hs : List Hn} (h : hintsB hs = true) : hs.length ≤ 10 ∧ ∀ i, i < hs.length → (hnat hs i).text.size ≤ 60 ∧ 1 ≤ (hnat hs i).weight ∧ (hnat hs i).weight ≤ 999999999 := by
  unfold hintsB at h
  simp only [Bool.and_eq_true, decide_eq_true_eq] at h
  refine ⟨h.1, fun i hi => ?_⟩
  have h1 := (allTo_iff _ _).1 h.2 i hi
  unfold hnOk hintTI hnW at h1
  simp only [Bool.and_eq_true, decide_eq_true_eq] at h1
  omega
end Go.Proofs.YtgmfaganaeibkaaDoor
