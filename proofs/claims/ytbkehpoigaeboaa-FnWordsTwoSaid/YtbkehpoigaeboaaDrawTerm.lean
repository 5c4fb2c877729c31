/- The draw of a word, and what Stem is of what is folded. -/
import Derived.Test.YtbkehpoigaeboaaDrawMore
import Derived.Test.YtbkehpoigaeboaaFoldMore
import Derived.Test.YtbkehpoigaeboaaTermOk
namespace Go.Proofs.Ytbkehpoigaeboaa
open Go.RowKit
theorem stemA_size (s : ByteArray) : (stemA s).size ≤ 12 := by
  have h1 : (cut12 (foldA s)).size ≤ 12 := by
    unfold cut12
    split
    · simp; omega
    · omega
  have h2 : (withoutA (cut12 (foldA s))).size ≤ 12 := by
    unfold withoutA
    split
    · simp; omega
    · exact h1
  unfold stemA
  split
  · exact Nat.zero_le _
  · exact h2
theorem stemA_fold (s : ByteArray) : stemA (foldA s) = stemA s := by unfold stemA; rw [foldA_fold]

theorem drawTermOk_any (a : Option Addr) (len cap : Nat) (w : World) (h : BytesIn w a len cap) :
    Calls Try.prog 24 #[.slice a len cap] w fun e w' => ∃ t : ByteArray, e = .returned (.string t) ∧ t.size ≤ 18 ∧ Below w.heap.size w w' := by
  go_enter Try.func24, Try.ntmps24
  go_wp2_with fail
  refine (open_any a len cap _ h).mono ?_
  rintro e w1 ⟨len', rfl, hR1, hC1, hb1⟩
  have hlt1 := hR1.lt
  go_wp2_with fail
  refine (word_any w.heap.size a len' cap 0 _ hR1 hC1 (by omega)).mono ?_
  rintro e w2 ⟨t2, rfl, ht2, hR2, hg2⟩
  have hC2 := hC1.kept hg2 hlt1
  have hlt2 := hR2.lt
  clear hR1 hC1
  go_wp2_with fail
  refine (word_any w.heap.size a len' cap (0 + 1) _ hR2 hC2 (by omega)).mono ?_
  rintro e w3 ⟨t3, rfl, ht3, hR3, hg3⟩
  have hC3 := hC2.kept hg3 hlt2
  have hlt3 := hR3.lt
  clear hR2 hC2
  go_wp2_with fail
  refine (stemS_any t3 _ (by omega)).mono ?_
  rintro e w4 ⟨rfl, hb4⟩
  have hst := stemA_size t3
  have hR4 : Rd w4 w.heap.size a len' cap ((0 + 1 + 1 : Nat) : Int) := by
    unfold Rd at hR3 ⊢
    rw [hb4.block _ hlt3]
    exact hR3
  have hg4 : w3.grownBy w4 (some w.heap.size) := ⟨hb4.os, hb4.tape, hb4.output, hb4.size, fun k hk _ => hb4.block k hk⟩
  have hC4 := hC3.kept hg4 hlt3
  have hlt4 := hR4.lt
  clear hR3 hC3
  go_wp2_with fail
  refine (of_any w.heap.size w4.heap.size 4 a len' cap (0 + 1 + 1) _ _ (hR4.alloc _) (hC4.kept (grown_alloc _ _ _) hlt4) (by omega) (strs_new w4 _ _ 18 (by simp [strB, ht2]; refine ⟨by omega, ?_⟩; decide)) (by omega) (by omega) (by omega)).mono ?_
  rintro e w5 ⟨t5, rfl, ht5, hR5, hg5⟩
  clear hR5 hR4 hC4
  go_wp2
  go_ret
  exact ⟨t5, rfl, ht5, grown_below (grown_below (grown_below (grown_below hb1 hg2) hg3) hg4) (grown_trans (grown_alloc w4 _ _) hg5)⟩
end Go.Proofs.Ytbkehpoigaeboaa
