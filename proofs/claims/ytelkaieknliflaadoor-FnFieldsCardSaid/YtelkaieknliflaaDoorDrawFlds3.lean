/- The draw of a text of fields. -/
import Derived.Test.YtelkaieknliflaaDoorFldMore
import Derived.Test.YtelkaieknliflaaDoorL11Cut
import Derived.Test.YtelkaieknliflaaDoorFldPutS
namespace Go.Proofs.YtelkaieknliflaaDoor
open Go.RowKit
set_option linter.unusedVariables false

set_option maxHeartbeats 2000000 in
theorem drawFieldsGet_any (a : Option Addr) (len cap : Nat) (w : World) (h : BytesIn w a len cap) :
    Calls Tryd.prog 12 #[.slice a len cap] w fun e w' => ∃ t : ByteArray, e = .returned (.string t) ∧ t.size ≤ 1000 ∧ Below w.heap.size w w' := by
  go_enter Tryd.func12, Tryd.ntmps12
  go_wp2_with fail
  refine (open_any a len cap _ h).mono ?_
  rintro e w1 ⟨len', rfl, hR1, hC1, hb1⟩
  have hl1 := hR1.lt
  have HC1 : Hid (Code w1 w.heap.size a len') := hC1
  clear h
  go_wp2_with fail
  refine (l11Fields_any w.heap.size a len' cap 0 _ hR1 hC1 (by omega)).mono ?_
  rintro e w2 ⟨F, off, n, c, fs, rfl, hn, hnc, hfour, hF, hrow4, hR2, hg2⟩
  subst hn
  have hrow := four_row hfour hrow4
  have hsm := four_small hfour
  have HC2 : Hid (Code w2 w.heap.size a len') := HC1.out.kept hg2 hl1
  have hw2 : Below w.heap.size w w2 := grown_below hb1 hg2
  have hl2 := hR2.lt
  have hn4 := hsm.2.2
  have HR2 : Hid (Rd w2 w.heap.size a len' cap ((0 + 1 : Nat) : Int)) := hR2
  clear hR1 hC1 HC1 hfour hrow4 hg2 hb1 hR2
  go_wp2_with fail
  refine (putS_any (some ⟨F, off, none⟩) c fs _ (by omega) hsm.1.small hrow).mono ?_
  rintro e w3 ⟨rfl, hb3⟩
  have hR3 : Rd w3 w.heap.size a len' cap ((0 + 1 : Nat) : Int) := Blk.below HR2.out hb3 hl2
  have hC3 := HC2.out.below hb3
  have hz := putB_size fs
  have hw3 := below_trans hw2 hb3
  clear HR2 HC2 hrow hb3 hw2 hsm
  generalize putB fs = S at *
  go_wp2_with fail
  refine (l11Cut_any w.heap.size a len' cap (0 + 1) S _ hR3 hC3 (by omega) (by omega)).mono ?_
  rintro e w5 ⟨t, k5, rfl, ht, _, _, hg5⟩
  have hw5 : Below w.heap.size w w5 := grown_below hw3 hg5
  clear hR3 hC3 hg5
  go_wp2
  go_ret
  exact ⟨t, rfl, by omega, hw5⟩
end Go.Proofs.YtelkaieknliflaaDoor
