/- The draws of a text and words, and of a number besides. -/
import Derived.Test.YtefdbcalfaojgaaDrawTerms2
namespace Go.Proofs.Ytefdbcalfaojgaa
open Go.RowKit

theorem rd_below {w w' : World} {R : Nat} {a : Option Addr} {len cap : Nat} {p : Int} (h : Rd w R a len cap p) (hb : Below w.heap.size w w') : Rd w' R a len cap p := by
  have hlt := h.lt
  unfold Rd at h ⊢
  rw [hb.block R hlt]
  exact h
theorem tr_strRow {w : World} {base : Nat} {v : Value} {ss : List ByteArray} (h : TR w base v ss) : ∃ a cap, v = .slice a ss.length cap ∧ StrRow w a ss := owns_strRow h
theorem tr_grown {w w' : World} {base R : Nat} {v : Value} {ss : List ByteArray} (h : TR w base v ss) (hg : w.grownBy w' (some R)) (hR : R < base) : TR w' base v ss := World.ownsRow.kept h hg (by
  cases hb : v.ownBlock with
  | none => exact .inl rfl
  | some q => exact .inr (by have := (h.lt q hb).1; intro e; cases e; omega))

set_option maxHeartbeats 1000000 in
theorem drawMark_any (a : Option Addr) (len cap : Nat) (w : World) (h : BytesIn w a len cap) :
    Calls Try.prog 6 #[.slice a len cap] w fun e w' => ∃ (s : ByteArray) (p : Option Addr) (c : Nat) (ss : List ByteArray), e = .returned (.tuple #[.string s, .slice p ss.length c]) ∧ s.size ≤ 110 ∧ ss.length ≤ 4 ∧ StrRow w' p ss ∧ Below w.heap.size w w' := by
  go_enter Try.func6, Try.ntmps6
  go_wp2_with fail
  refine (open_any a len cap _ h).mono ?_
  rintro e w1 ⟨len', rfl, hR1, hC1, hb1⟩
  have hlt1 := hR1.lt
  go_wp2_with fail
  refine (anyText_any w.heap.size a len' cap 0 _ hR1 hC1 (by omega)).mono ?_
  rintro e w2 ⟨t2, k2, rfl, ht2, hk2, hR2, hg2⟩
  have hC2 := hC1.kept hg2 hlt1
  have hlt2 := hR2.lt
  clear hR1 hC1
  go_wp2_with fail
  refine (l11Terms_any w.heap.size a len' cap k2 _ hR2 hC2 (by omega)).mono ?_
  rintro e w3 ⟨v, ss, k3, rfl, hss, hk3, hT3, hR3, hg3⟩
  obtain ⟨p, c, rfl, hrow⟩ := tr_strRow hT3
  have hball : Below w.heap.size w w3 := grown_below (grown_below hb1 hg2) hg3
  have HROW : Hid (StrRow w3 p ss) := hrow
  clear hR2 hC2 hT3 hR3 hb1 hg2 hg3 hrow
  go_wp2
  go_ret2
  exact ⟨t2, p, c, ss, rfl, ht2, hss, HROW.out, hball⟩
end Go.Proofs.Ytefdbcalfaojgaa
