/- The contract of spec.Terms. -/
import Derived.Test.YtjkimadnopeakaaGreatDoorIterTerm
import Derived.Test.YtjkimadnopeakaaGreatDoorMg0FnExactMeets
namespace Go.Proofs.YtjkimadnopeakaaGreatDoor
open Go.RowKit

def termsL (s : ByteArray) : List ByteArray := (wordsOn s 0).map fun x => stemA (s.extract x.1 x.2)
theorem termCells_eq (s : ByteArray) : termCells s (wordsOn s 0) = (termsL s).map Value.string := by simp [termCells, termsL]
theorem termsL_len (s : ByteArray) : (termsL s).length = (wordsOn s 0).length := by simp [termsL]
theorem wordCells_len (s : ByteArray) (l : List (Nat × Nat)) : (wordCells s l).length = l.length * 3 := by
  induction l with
  | nil => rfl
  | cons x l ih => simp [wordCells] at ih ⊢; omega
theorem wordCells_at (s : ByteArray) : ∀ (l : List (Nat × Nat)) (k : Nat) (h : k < l.length), (wordCells s l)[k * 3]? = some (.string (s.extract l[k].1 l[k].2)) ∧ (wordCells s l)[k * 3 + 1]? = some (.int .i64 l[k].1) ∧ (wordCells s l)[k * 3 + 2]? = some (.int .i64 l[k].2)
  | [], k, h => by simp at h
  | x :: l, 0, _ => by simp [wordCells]
  | x :: l, k + 1, h => by
    have ih := wordCells_at s l k (by simpa using h)
    have e : wordCells s (x :: l) = [.string (s.extract x.1 x.2), .int .i64 x.1, .int .i64 x.2] ++ wordCells s l := by simp [wordCells]
    rw [e, show (k + 1) * 3 = k * 3 + 3 from by omega]
    simp only [List.getElem_cons_succ]
    refine ⟨?_, ?_, ?_⟩
    · rw [List.getElem?_append_right (by simp)]; simpa using ih.1
    · rw [List.getElem?_append_right (by simp)]; simpa [show k * 3 + 3 + 1 - 3 = k * 3 + 1 from by omega] using ih.2.1
    · rw [List.getElem?_append_right (by simp)]; simpa [show k * 3 + 3 + 2 - 3 = k * 3 + 2 from by omega] using ih.2.2

/-- A slice of words, as it is read. -/
def WordRow (w : World) (a : Option Addr) (s : ByteArray) (l : List (Nat × Nat)) : Prop := 0 < l.length → ∃ g, a = some ⟨g, 0, none⟩ ∧ g < w.heap.size ∧ ∀ (i : Nat) (h : i < l.length), w.cell? ⟨g, i * 3, none⟩ = some (.string (s.extract l[i].1 l[i].2)) ∧ w.cell? ⟨g, i * 3 + 1, none⟩ = some (.int .i64 l[i].1) ∧ w.cell? ⟨g, i * 3 + 2, none⟩ = some (.int .i64 l[i].2)
theorem WordRow.below {w w' : World} {a : Option Addr} {s : ByteArray} {l : List (Nat × Nat)} (h : WordRow w a s l) (hb : Below w.heap.size w w') : WordRow w' a s l := fun hp => by
  obtain ⟨g, e, hg, hc⟩ := h hp
  exact ⟨g, e, by have := hb.size; omega, fun i hi => by rw [hb.cell (p := ⟨g, i * 3, none⟩) hg, hb.cell (p := ⟨g, i * 3 + 1, none⟩) hg, hb.cell (p := ⟨g, i * 3 + 2, none⟩) hg]; exact hc i hi⟩
theorem owns_wordRow {w : World} {base : Nat} {e : TypeId} {v : Value} {s : ByteArray} {l : List (Nat × Nat)} (h : w.ownsRow base e 3 v l.length (wordCells s l)) :
    ∃ a cap, v = .slice a l.length cap ∧ WordRow w a s l := by
  rcases h.2 with ⟨rfl, h0⟩ | ⟨g, cap, cur, rfl, hb, hg, r⟩
  · exact ⟨none, 0, by rw [h0], fun hp => by omega⟩
  · refine ⟨_, cap, rfl, fun hp => ⟨g, rfl, lt_of_block hg, fun i hi => ?_⟩⟩
    have := wordCells_at s l i hi
    rw [h.cellAt (i * 3) (by omega), h.cellAt (i * 3 + 1) (by omega), h.cellAt (i * 3 + 2) (by omega)]
    exact this

def termsTo (s : ByteArray) (L : List (Nat × Nat)) (k : Nat) : List Value := (L.take k).map fun x => .string (stemA (s.extract x.1 x.2))
theorem termsTo_snoc (s : ByteArray) (L : List (Nat × Nat)) (k : Nat) (h : k < L.length) : termsTo s L (k + 1) = termsTo s L k ++ [.string (stemA (s.extract L[k].1 L[k].2))] := by
  rw [termsTo, List.take_succ_eq_append_getElem h, List.map_append]
  rfl

set_option maxHeartbeats 1000000 in
theorem termsS_any (s : ByteArray) (w : World) (hs : s.size ≤ 1048576) :
    Calls Tryz.prog 145 #[.string s] w fun e w' => ∃ v, e = .returned v ∧ w'.ownsRow w.heap.size 9 1 v (termsL s).length ((termsL s).map Value.string) ∧ Below w.heap.size w w' := by
  obtain ⟨i0, hi, hz0, hz1, hz2⟩ := info_parts infoStr
  have hN := wordsOn_len s s.size 0 (by omega)
  rw [termsL_len, ← termCells_eq, show termCells s (wordsOn s 0) = termsTo s (wordsOn s 0) (wordsOn s 0).length from by simp [termCells, termsTo]]
  go_enter Tryz.func145, Tryz.ntmps145
  go_wp2_with fail
  refine (wordsS_any s _ hs).mono ?_
  rintro e w1 ⟨g, cap, rfl, hown, hb1⟩
  obtain ⟨a, cap', hv, hrow⟩ := owns_wordRow hown
  simp only [Value.slice.injEq] at hv
  obtain ⟨rfl, _, rfl⟩ := hv
  have hb1s : w.heap.size + 1 ≤ w1.heap.size := by have := hb1.size; simpa using this
  have hbw1 : Below w.heap.size w w1 := ((Below.refl _ w).alloc (Nat.le_refl _) _).trans (hb1.mono (by simp))
  have hlit : w1.ownsRow w.heap.size 9 1 (.slice (some ⟨w.heap.size, 0, none⟩) 0 0) 0 [] := (World.ownsRow_lit w #[] 0 (Nat.le_refl _) (by decide) rfl : (w.alloc (.cells #[] 9)).ownsRow w.heap.size 9 1 _ 0 []).kept (grown_none hb1) (.inr (by simp [Value.ownBlock]))
  obtain ⟨cur, hcur⟩ : ∃ cur, w1.heap[g]? = some (.cells cur 140 (0, 0)) := by
    rcases hown.2 with ⟨h, _⟩ | ⟨g', _, cur, h, _, hg, _⟩
    · cases h
    · cases h; exact ⟨cur, hg⟩
  clear hown hb1
  go_wp2
  go_loopw [3, 5] (fun v i wr => ∃ k : Nat, k ≤ (wordsOn s 0).length ∧ i = .int .i64 k ∧ wr.ownsRow w.heap.size 9 1 v k (termsTo s (wordsOn s 0) k) ∧ v ≠ .slice none 0 0 ∧ wr.heap[g]? = some (.cells cur 140 (0, 0)) ∧ Below w.heap.size w wr) (fun _ i _ => (wordsOn s 0).length - (intOf i).toNat)
  case atStart => exact ⟨0, Nat.zero_le _, rfl, hlit, nofun, hcur, hbw1⟩
  case round =>
    obtain ⟨k, hk, rfl, hown, hnn, hgr, hbel⟩ := hrel
    by_cases hlt : k < (wordsOn s 0).length
    · obtain ⟨g', e', hg1, hc⟩ := hrow (by omega)
      simp only [Option.some.injEq, Addr.mk.injEq, and_true] at e'
      subst e'
      have c1 : wr.cell? ⟨g, k * 3, none⟩ = some (.string (s.extract (wordsOn s 0)[k].1 (wordsOn s 0)[k].2)) := by rw [World.cell?_of_block (w := w1) (hgr.trans hcur.symm)]; exact (hc k hlt).1
      clear hc
      have HS : Hid (termsTo s (wordsOn s 0) (k + 1) = termsTo s (wordsOn s 0) k ++ [.string (stemA (s.extract (wordsOn s 0)[k].1 (wordsOn s 0)[k].2))]) := termsTo_snoc s _ k hlt
      have hxs : (s.extract (wordsOn s 0)[k].1 (wordsOn s 0)[k].2).size ≤ 1099511627776 := by simp; omega
      generalize s.extract (wordsOn s 0)[k].1 (wordsOn s 0)[k].2 = t at *
      go_wp2_with fail
      refine (stemS_any t _ hxs).mono ?_
      rintro e w2 ⟨rfl, hb2⟩
      have ho2 := hown.kept (grown_none hb2) (.inr (by rcases hown.2 with ⟨rfl, _⟩ | ⟨g2, _, _, rfl, _⟩ <;> simp_all [Value.ownBlock]))
      have hsz2 := hb2.size
      have hb1w := hbel.size
      go_wp2_with (at_builtin; refine wpList_append_own _ rfl _ _ 60 rfl w.heap.size 9 i0 (.string ⟨#[]⟩) 1 16 Tryz.underlying60 hi hz0 hz1 hz2 rfl (by decide) _ _ _ rfl (ho2.alloc _) ⟨w2.heap.size, 0, none⟩ 1 1 [.string (stemA t)] rfl rfl (cells_new _ _ _) (str_one _) (by unfold maxLen; omega) (by omega) (by simp; omega) ?_)
      intro v' w3 hown' hgrow hnil
      have hnn' : v' ≠ .slice none 0 0 := hnil
      clear hnil
      rw [← HS.out] at hown'
      have hgr2 : (w2.alloc (.cells #[.string (stemA t)] 9)).heap[g]? = some (.cells cur 140 (0, 0)) := by
        rw [Below.heap_alloc _ _ _ (by have := lt_of_block hgr; omega), hb2.block g (lt_of_block hgr)]
        exact hgr
      have hgr3 : w3.heap[g]? = some (.cells cur 140 (0, 0)) := by
        rw [hgrow.block g (lt_of_block hgr2) (fun e => ?_)]
        · exact hgr2
        · rcases (ho2.alloc (.cells #[.string (stemA t)] 9)).2 with ⟨h, _⟩ | ⟨g2, _, cur2, h, _, hg2, _⟩
          · exact hnn h
          · rw [h] at e
            simp only [Value.ownBlock, Option.some.injEq] at e
            subst e
            rw [hgr2] at hg2
            simp at hg2
      have hb3 : Below w.heap.size w w3 := ((hbel.trans (hb2.mono hb1w)).alloc (by omega) _).grown hgrow (by simp; omega) (fun j hj => (hown.lt j hj).1)
      clear hgrow hown ho2 hgr2 hgr hrow
      go_wp2
      go_roundw
      case rel => exact ⟨k + 1, by omega, by go_num, hown', hnn', hgr3, hb3⟩
      case measure => simp [intOf]; omega
    · have hkl : k = (wordsOn s 0).length := by omega
      subst hkl
      clear hrow
      go_wp2
      go_ret
      exact ⟨_, rfl, hown, hbel⟩

theorem termsI2_any (s : ByteArray) (w : World) (hs : s.size ≤ 1048576) :
    Calls Tryz.prog 31 #[.string s] w fun e w' => ∃ v, e = .returned v ∧ w'.ownsRow w.heap.size 9 1 v (termsL s).length ((termsL s).map Value.string) ∧ Below w.heap.size w w' := by
  refine (termsI_any s w hs).mono ?_
  rintro e w' ⟨v, rfl, h1, _, h3⟩
  exact ⟨v, rfl, by rw [termsL_len, ← termCells_eq]; exact h1, h3⟩
theorem termsL_le (s : ByteArray) : (termsL s).length ≤ s.size := by rw [termsL_len]; exact wordsOn_len s s.size 0 (by omega)
end Go.Proofs.YtjkimadnopeakaaGreatDoor
