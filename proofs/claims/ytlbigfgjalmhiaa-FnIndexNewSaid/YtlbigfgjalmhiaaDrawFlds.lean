/- The draw of fields that are ok. -/
import Derived.Test.YtlbigfgjalmhiaaL10Flds
import Derived.Test.YtlbigfgjalmhiaaDrawMore
import Derived.Test.YtlbigfgjalmhiaaBlk
import Derived.Test.YtlbigfgjalmhiaaCodeBelow
namespace Go.Proofs.Ytlbigfgjalmhiaa
open Go.RowKit
set_option linter.unusedVariables false

/-- Fields as they are drawn: all four, the first, all but the first. -/
def Four (fs : List Fld) (off : Nat) : Prop := (fs = fields4 ∧ off = 0) ∨ (fs = fields4.take 1 ∧ off = 0) ∨ (fs = fields4.drop 1 ∧ off = 3)
theorem four_row {w : World} {F off : Nat} {fs : List Fld} (h : Four fs off) (hr : FldRow w (some ⟨F, 0, none⟩) fields4) : FldRow w (some ⟨F, off, none⟩) fs := fun hp => by
  obtain ⟨g, o, e, hg, hc⟩ := hr (by decide)
  cases e
  rcases h with ⟨rfl, rfl⟩ | ⟨rfl, rfl⟩ | ⟨rfl, rfl⟩
  · exact ⟨F, 0, rfl, hg, hc⟩
  · refine ⟨F, 0, rfl, hg, fun i hi => ?_⟩
    have hi0 : i = 0 := by have : i < 1 := hi; omega
    subst hi0
    exact hc 0 (by decide)
  · refine ⟨F, 3, rfl, hg, fun i hi => ?_⟩
    have hi3 : i < 3 := hi
    have := hc (i + 1) (by show i + 1 < 4; omega)
    rw [show (0 : Nat) + (i + 1) * 3 = 3 + i * 3 from by omega] at this
    rcases (show i = 0 ∨ i = 1 ∨ i = 2 from by omega) with rfl | rfl | rfl <;> exact this

set_option maxHeartbeats 1000000 in
theorem l11Fields_any (R : Nat) (a : Option Addr) (len cap k : Nat) (w : World) (hR : Rd w R a len cap k) (hC : Code w R a len) (hk : k ≤ 900000) :
    Calls Try.prog 18 #[.pointer (some ⟨R, 0, none⟩)] w fun e w' => ∃ (F off n c : Nat) (fs : List Fld), e = .returned (.slice (some ⟨F, off, none⟩) n c) ∧ fs.length = n ∧ n ≤ c ∧ Four fs off ∧ w.heap.size ≤ F ∧ FldRow w' (some ⟨F, 0, none⟩) fields4 ∧ Rd w' R a len cap ((k + 1 : Nat) : Int) ∧ w.grownBy w' (some R) := by
  have hlt := hR.lt
  have HR : Hid (Rd w R a len cap k) := hR
  have HC : Hid (Code w R a len) := hC
  clear hR hC
  go_enter Try.func18, Try.ntmps18
  go_wp2_with fail
  refine (l10Fields_any _).mono ?_
  rintro e w1 ⟨rfl, hF1, hb1⟩
  have HF1 : Hid (FldRow w1 (some ⟨w.heap.size, 0, none⟩) fields4) := hF1
  have HR1 : Hid (Rd w1 R a len cap k) := Blk.below HR.out hb1 hlt
  have HC1 := HC.out.below hb1
  have hs1 := hb1.size
  have h4 : fields4.length = 4 := rfl
  rw [h4]
  clear hF1 HR HC h4
  go_wp2_with fail
  refine (pick_any R a len cap k 4 _ HR1.out HC1 (by omega) (by omega) (by omega)).mono ?_
  rintro e w2 ⟨v, rfl, hv0, hv1, hR2, hg2⟩
  have hF2 : FldRow w2 (some ⟨w.heap.size, 0, none⟩) fields4 := fun hp => by
    obtain ⟨g, o, e, hg, hc⟩ := HF1.out hp
    cases e
    have hb := hg2.block w.heap.size hg (by simp; omega)
    exact ⟨_, 0, rfl, by have := hg2.size; omega, fun i hi => by
      obtain ⟨c0, c1, c2⟩ := hc i hi
      exact ⟨(World.cell?_of_block hb).trans c0, (World.cell?_of_block hb).trans c1, (World.cell?_of_block hb).trans c2⟩⟩
  have HP : Hid (FldRow w2 (some ⟨w.heap.size, 0, none⟩) fields4 ∧ Rd w2 R a len cap ((k + 1 : Nat) : Int) ∧ w.grownBy w2 (some R)) := ⟨hF2, hR2, grown_then (grown_of_below hb1) hg2⟩
  clear hF2 hR2 hg2 hb1 HC1 HR1 HF1
  obtain ⟨n, rfl⟩ := Int.eq_ofNat_of_zero_le hv0
  rcases (show n = 0 ∨ n = 1 ∨ n = 2 ∨ n = 3 from by omega) with rfl | rfl | rfl | rfl
  · go_wp2
    go_ret
    exact ⟨w.heap.size, 0, 1, 4, fields4.take 1, rfl, rfl, by omega, .inr (.inl ⟨rfl, rfl⟩), Nat.le_refl _, HP.out⟩
  · go_wp2
    go_ret
    exact ⟨w.heap.size, 3, 3, 3, fields4.drop 1, rfl, rfl, by omega, .inr (.inr ⟨rfl, rfl⟩), Nat.le_refl _, HP.out⟩
  · go_wp2
    go_ret
    exact ⟨w.heap.size, 0, 4, 4, fields4, rfl, rfl, by omega, .inl ⟨rfl, rfl⟩, Nat.le_refl _, HP.out⟩
  · go_wp2
    go_ret
    exact ⟨w.heap.size, 0, 4, 4, fields4, rfl, rfl, by omega, .inl ⟨rfl, rfl⟩, Nat.le_refl _, HP.out⟩
end Go.Proofs.Ytlbigfgjalmhiaa
