/- The draw of two texts. -/
import Derived.Test.YtlpclfeppddlfaaDrawMore
import Derived.Test.YtlpclfeppddlfaaL11Cut
namespace Go.Proofs.Ytlpclfeppddlfaa
open Go.RowKit

set_option maxHeartbeats 1000000 in
theorem drawFar_any (a : Option Addr) (len cap : Nat) (w : World) (h : BytesIn w a len cap) :
    Calls Try.prog 7 #[.slice a len cap] w fun e w' => ∃ s t : ByteArray, e = .returned (.tuple #[.string s, .string t]) ∧ s.size ≤ 110 ∧ t.size ≤ 111 ∧ Below w.heap.size w w' := by
  go_enter Try.func7, Try.ntmps7
  go_wp2_with fail
  refine (open_any a len cap _ h).mono ?_
  rintro e w1 ⟨len', rfl, hR1, hC1, hb1⟩
  have hlt1 := hR1.lt
  go_wp2_with fail
  refine (word_any w.heap.size a len' cap 0 _ hR1 hC1 (by omega)).mono ?_
  rintro e w2 ⟨t2, rfl, ht2, hR2, hg2⟩
  have hC2 := hC1.kept hg2 hlt1
  have hlt2 := hR2.lt
  clear hR1 hC1
  go_wp2_with fail
  refine (anyText_any w.heap.size a len' cap (0 + 1) _ hR2 hC2 (by omega)).mono ?_
  rintro e w3 ⟨t3, k3, rfl, ht3, hk3, hR3, hg3⟩
  have hC3 := hC2.kept hg3 hlt2
  have hlt3 := hR3.lt
  clear hR2 hC2
  go_wp2_with fail
  refine (of_any w.heap.size w3.heap.size 3 a len' cap k3 _ _ (hR3.alloc _) (hC3.kept (grown_alloc _ _ _) hlt3) (by omega) (strs_new w3 _ _ 110 (by simp [strB, ht3]; exact ⟨by omega, by decide⟩)) (by omega) (by omega) (by omega)).mono ?_
  rintro e w4 ⟨t4, rfl, ht4, hR4, hg4⟩
  have hg34 := grown_trans (grown_alloc w3 _ _) hg4
  have hC4 := hC3.kept hg34 hlt3
  have hlt4 := hR4.lt
  have hball : Below w.heap.size w w4 := grown_below (grown_below (grown_below hb1 hg2) hg3) hg34
  clear hR3 hC3 hb1 hg2 hg3 hg4 hg34
  go_wp2_with fail
  refine (pick_any w.heap.size a len' cap (k3 + 1) _ _ hR4 hC4 (by omega) (by omega) (by omega)).mono ?_
  rintro e w5 ⟨v, rfl, hv0, hv1, hR5, hg5⟩
  have hC5 := hC4.kept hg5 hlt4
  have hball5 : Below w.heap.size w w5 := grown_below hball hg5
  clear hR4 hC4 hg5 hball
  by_cases h0 : v = 0
  · subst h0
    go_wp2_with fail
    refine (l11Cut_any w.heap.size a len' cap (k3 + 1 + 1) t4 _ hR5 hC5 (by omega) (by omega)).mono ?_
    rintro e w6 ⟨t6, k6, rfl, ht6, _, _, hg6⟩
    have hball6 : Below w.heap.size w w6 := grown_below hball5 hg6
    clear hR5 hC5 hg6
    go_wp2
    go_ret2
    exact ⟨t4, t6, rfl, ht4, by omega, hball6⟩
  · have h0' : (v == 0) = false := by simpa using h0
    go_wp2_with fail
    refine (word_any w.heap.size a len' cap (k3 + 1 + 1) _ hR5 hC5 (by omega)).mono ?_
    rintro e w6 ⟨t6, rfl, ht6, _, hg6⟩
    have hball6 : Below w.heap.size w w6 := grown_below hball5 hg6
    clear hR5 hC5 hg6
    go_wp2
    go_ret2
    exact ⟨t4, t6, rfl, ht4, by omega, hball6⟩
end Go.Proofs.Ytlpclfeppddlfaa
