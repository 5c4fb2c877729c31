/- laws.toDoc: its cells are the call's own. -/
import Derived.Test.YtjjfabemhdhppaaGreatDoorCels
namespace Go.Proofs.YtjjfabemhdhppaaGreatDoor
open Go.RowKit
set_option linter.unusedVariables false

theorem own_set {w : World} {base : Nat} {e : TypeId} {size : Nat} {v : Value} {n : Nat} {xs : List Value} (h : w.ownsRow base e size v n xs) {p : Addr} (hp : p.block < base) (x : Value) : (w.setCell p x).ownsRow base e size v n xs := by
  refine ⟨h.1, ?_⟩
  rcases h.2 with h2 | ⟨g', c', cur, e, h3, h4, h5⟩
  · exact .inl h2
  · exact .inr ⟨g', c', cur, e, h3, (Below.heap_setCell _ _ _ _ (by omega)).trans h4, h5⟩
theorem toDocO_any (key : ByteArray) (a : Option Addr) (cap : Nat) (cs : List Cel) (w : World) (hz : cs.length ≤ 1048576) (hr : CelRow w a cs) :
    Calls Tryz.prog 8 #[.agg #[.string key, .slice a cs.length cap]] w fun e w' => ∃ p c xs, e = .returned (.agg #[.string key, .slice p cs.length c]) ∧ w'.ownsRow w.heap.size 66 2 (.slice p cs.length c) cs.length xs ∧ CelTo xs cs cs.length ∧ Below w.heap.size w w' := by
  have hb0 : Below w.heap.size w (((w.alloc (.cells #[.string key, .slice a cs.length cap] 25)).alloc (.cells #[.string ⟨#[]⟩, .slice none 0 0] 34)).alloc (.cells #[.string key, .slice none 0 0] 34)) := (((Below.refl _ w).alloc (Nat.le_refl _) _).alloc (by simp) _).alloc (by simp; omega) _
  have r0 := hr.below hb0
  clear hr
  have HB0 : Hid (Below w.heap.size w (((w.alloc (.cells #[.string key, .slice a cs.length cap] 25)).alloc (.cells #[.string ⟨#[]⟩, .slice none 0 0] 34)).alloc (.cells #[.string key, .slice none 0 0] 34))) := hb0
  clear hb0
  go_enter Tryz.func8, Tryz.ntmps8
  go_wp2_with fail
  refine (toCellS_any a cap cs _ hz r0).mono ?_
  rintro e w2 ⟨v, xs, rfl, ho, ht, hb2⟩
  obtain ⟨p, c, rfl, hc, hpn, hbb, hrow⟩ := owns_celRow ho ht
  clear hbb hc hpn
  obtain ⟨hcl, hfz⟩ := bcell hb2
  have hz2 : w.heap.size + 3 ≤ w2.heap.size := by have := hb2.size; simp at this; omega
  have hbw : Below w.heap.size w w2 := HB0.out.trans (hb2.mono (by simp; omega))
  have HO : Hid (w2.ownsRow (w.heap.size + 3) 66 2 (.slice p cs.length c) cs.length xs) := ownsRow_mono ho (by simp)
  have HT : Hid (CelTo xs cs cs.length) := ht
  clear HB0 ho ht r0 hb2 hrow
  go_wp2
  refine bodyPost_ret (v := .agg #[.string key, .slice p cs.length c]) (by simp [results, Tryz.results8, go_sem, hcl]) rfl ⟨p, c, xs, rfl, ?_, HT.out, ?_⟩
  · exact ownsRow_mono (own_set (own_set (own_set HO.out (by show w.heap.size + 1 + 1 < w.heap.size + 3; omega) _) (by show w.heap.size + 1 < w.heap.size + 3; omega) _) (by show w.heap.size + 1 < w.heap.size + 3; omega) _) (by omega)
  · exact ((hbw.setCell (by show w.heap.size ≤ w.heap.size + 1 + 1; omega) _).setCell (by show w.heap.size ≤ w.heap.size + 1; omega) _).setCell (by show w.heap.size ≤ w.heap.size + 1; omega) _
end Go.Proofs.YtjjfabemhdhppaaGreatDoor
