/- The bytes that came in are still read behind a call. -/
import Derived.Test.YtgmfaganaeibkaaDoorDraw
import Derived.Test.YtgmfaganaeibkaaDoorCommon
namespace Go.Proofs.YtgmfaganaeibkaaDoor
open Go.RowKit

theorem Code.below {w w' : World} {R len : Nat} {a : Option Addr} (h : Code w R a len) (hb : Below w.heap.size w w') : Code w' R a len :=
  ⟨h.1, fun hp => by
    obtain ⟨b, off, z, e, hbs, hc⟩ := h.2 hp
    exact ⟨b, off, z, e, hbs, fun i hi => ⟨by rw [hb.cell (p := ⟨b, off + i, none⟩) (by have := cell_lt (hc i hi).1; omega)]; exact (hc i hi).1, (hc i hi).2⟩⟩⟩
end Go.Proofs.YtgmfaganaeibkaaDoor
