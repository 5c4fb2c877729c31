/- The draw of words that are looked for; of a text, words and a number. -/
import Derived.Test.YtefdbcalfaojgaaDrawMore
import Derived.Test.YtefdbcalfaojgaaStrRow
import Derived.Test.YtefdbcalfaojgaaStrs
namespace Go.Proofs.Ytefdbcalfaojgaa
open Go.RowKit

/-- Strings of the call's own. -/
def TR (w : World) (base : Nat) (v : Value) (ss : List ByteArray) : Prop := w.ownsRow base 9 1 v ss.length (ss.map Value.string)
theorem str1_one (z : ByteArray) : ∀ u ∈ [Value.string z], u.oneCell' = true := by
  intro u hu
  simp at hu
  subst hu
  rfl
theorem grown_split {w w' : World} {R : Nat} {row : Option Nat} (h : w.grownBy w' row) (hr : ∀ r, row = some r → w.heap.size ≤ r) : w.grownBy w' (some R) :=
  ⟨h.os, h.tape, h.output, h.size, fun k hk _ => h.block k hk (fun e => by have := hr k e.symm; omega)⟩
theorem rd_grown {w w' : World} {R : Nat} {a : Option Addr} {len cap : Nat} {p : Int} {row : Option Nat} (h : Rd w R a len cap p) (hg : w.grownBy w' row) (hr : row ≠ some R) : Rd w' R a len cap p := by
  have hlt := h.lt
  unfold Rd at h ⊢
  rw [hg.block R hlt (fun e => hr e.symm)]
  exact h

set_option maxHeartbeats 1000000 in
theorem l11Terms_any (R : Nat) (a : Option Addr) (len cap k : Nat) (w : World) (hR : Rd w R a len cap k) (hC : Code w R a len) (hk : k ≤ 800000) :
    Calls Try.prog 18 #[.pointer (some ⟨R, 0, none⟩)] w fun e w' => ∃ (v : Value) (ss : List ByteArray) (k' : Nat), e = .returned v ∧ ss.length ≤ 4 ∧ k' ≤ k + 5 ∧ TR w' w.heap.size v ss ∧ Rd w' R a len cap (k' : Int) ∧ w.grownBy w' (some R) := by
  obtain ⟨i0, hi, hz0, hz1, hz2⟩ := info_parts infoStrS
  have hlt := hR.lt
  have hlit : (w.alloc (.cells #[] 9)).ownsRow w.heap.size 9 1 (.slice (some ⟨w.heap.size, 0, none⟩) 0 0) 0 [] := World.ownsRow_lit w #[] 0 (Nat.le_refl _) (by decide) rfl
  have HC : Hid (Code w R a len) := hC
  have hg0 := grown_alloc w (.cells #[] 9) R
  have hR0 := hR.alloc (.cells #[] 9)
  go_enter Try.func18, Try.ntmps18
  go_wp2_with fail
  refine (pick_any R a len cap k _ _ hR0 (hC.kept hg0 hlt) (by omega) (by omega) (by omega)).mono ?_
  rintro e w1 ⟨x, rfl, hx0, hx1, hR1, hg1⟩
  obtain ⟨n, rfl⟩ := Int.eq_ofNat_of_zero_le hx0
  have hn4 : n < 4 := by omega
  have ho1 : w1.ownsRow w.heap.size 9 1 (.slice (some ⟨w.heap.size, 0, none⟩) 0 0) 0 [] := hlit.kept hg1 (.inr (by simp [Value.ownBlock]; omega))
  have hg01 := grown_trans hg0 hg1
  clear hlit hR hC hR0 hg0 hg1 hx0 hx1
  go_wp2
  go_loopw [3, 4] (fun v i wr => ∃ (ss : List ByteArray) (j : Nat), j + ss.length = n ∧ i = .int .i64 j ∧ wr.ownsRow w.heap.size 9 1 v ss.length (ss.map Value.string) ∧ Rd wr R a len cap ((k + 1 + ss.length : Nat) : Int) ∧ w.grownBy wr (some R)) (fun _ i _ => (intOf i).toNat)
  case atStart => exact ⟨[], n, rfl, rfl, ho1, hR1, hg01⟩
  case round =>
    clear ho1 hR1 hg01
    obtain ⟨ss, j, hj, rfl, hown, hRr, hgr⟩ := hrel
    have hsz := hgr.size
    have hRl := hRr.lt
    by_cases hpos : 0 < j
    · have hji : (0 : Int) < (j : Int) := by omega
      have SA := strs_new wr #[.string ⟨#[114, 101, 100]⟩, .string ⟨#[97, 112, 112, 108, 101]⟩, .string ⟨#[112, 105, 101]⟩, .string ⟨#[]⟩, .string ⟨#[103, 108, 97, 115, 115]⟩, .string ⟨#[116, 114, 101, 101]⟩] 9 9 (by decide +kernel)
      have rA := hRr.alloc (.cells #[.string ⟨#[114, 101, 100]⟩, .string ⟨#[97, 112, 112, 108, 101]⟩, .string ⟨#[112, 105, 101]⟩, .string ⟨#[]⟩, .string ⟨#[103, 108, 97, 115, 115]⟩, .string ⟨#[116, 114, 101, 101]⟩] 9)
      have gA := grown_trans hgr (grown_alloc wr (.cells #[.string ⟨#[114, 101, 100]⟩, .string ⟨#[97, 112, 112, 108, 101]⟩, .string ⟨#[112, 105, 101]⟩, .string ⟨#[]⟩, .string ⟨#[103, 108, 97, 115, 115]⟩, .string ⟨#[116, 114, 101, 101]⟩] 9) R)
      have cA := HC.out.kept gA hlt
      have oA := hown.alloc (.cells #[.string ⟨#[114, 101, 100]⟩, .string ⟨#[97, 112, 112, 108, 101]⟩, .string ⟨#[112, 105, 101]⟩, .string ⟨#[]⟩, .string ⟨#[103, 108, 97, 115, 115]⟩, .string ⟨#[116, 114, 101, 101]⟩] 9)
      clear hRr hgr
      go_wp2_with fail
      refine (of_any R wr.heap.size 6 a len cap (k + 1 + ss.length) _ _ rA cA (by omega) SA (by omega) (by omega) (by omega)).mono ?_
      rintro e w4 ⟨t, rfl, ht, hR4, hg4⟩
      have g4 := grown_trans gA hg4
      have o4 : w4.ownsRow w.heap.size 9 1 _ ss.length (ss.map Value.string) := oA.kept hg4 (by
        cases hb : Value.ownBlock _ with
        | none => exact .inl rfl
        | some q => exact .inr (by have := (hown.lt q hb).1; intro h; cases h; omega))
      have hs4 := g4.size
      clear SA rA gA cA oA hg4
      go_wp2_with (at_builtin; refine wpList_append_own _ rfl _ _ 23 rfl w.heap.size 9 i0 (.string ⟨#[]⟩) 1 16 Try.underlying23 hi hz0 hz1 hz2 rfl (by decide) _ _ _ rfl (o4.alloc _) ⟨w4.heap.size, 0, none⟩ 1 1 [.string t] rfl rfl (cells_new _ _ _) (str1_one _) (by unfold maxLen; omega) (by omega) (by simp; omega) ?_)
      intro v' w5 hown' hgrow _
      have hne : ∀ q, Value.ownBlock _ = some q → w.heap.size ≤ q := fun q hb => (o4.lt q hb).1
      have hR5 : Rd w5 R a len cap ((k + 1 + (ss ++ [t]).length : Nat) : Int) := by
        have := rd_grown (hR4.alloc (.cells #[.string t] 9)) hgrow (fun e => by have := hne R e; omega)
        rw [List.length_append]
        exact this
      have g5 : w.grownBy w5 (some R) := by
        have h1 := grown_trans g4 (grown_alloc w4 (.cells #[.string t] 9) R)
        exact ⟨hgrow.os.trans h1.os, hgrow.tape.trans h1.tape, hgrow.output.trans h1.output, Nat.le_trans h1.size hgrow.size, fun i hi hn => (hgrow.block i (by have := h1.size; omega) (fun e => by have := hne i e.symm; omega)).trans (h1.block i hi hn)⟩
      have ho5 : w5.ownsRow w.heap.size 9 1 v' (ss ++ [t]).length ((ss ++ [t]).map Value.string) := by
        rw [List.length_append, List.map_append]
        exact hown'
      clear hown' hgrow o4 hR4 g4 hown hne
      go_wp2
      go_roundw
      case rel => exact ⟨ss ++ [t], j - 1, by rw [List.length_append]; simp; omega, by go_num, ho5, hR5, g5⟩
      case measure => simp [intOf]; omega
    · have hj0 : j = 0 := by omega
      subst hj0
      go_wp2
      go_ret
      exact ⟨_, ss, k + 1 + ss.length, rfl, by omega, by omega, hown, hRr, hgr⟩
end Go.Proofs.Ytefdbcalfaojgaa
