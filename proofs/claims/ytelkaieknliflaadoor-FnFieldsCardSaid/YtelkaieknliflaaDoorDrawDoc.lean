/- Contracts of the model's draws of documents: the facts. -/
import Derived.Test.YtelkaieknliflaaDoorDrawMore
import Derived.Test.YtelkaieknliflaaDoorFldsOk
import Derived.Test.YtelkaieknliflaaDoorCelRows
namespace Go.Proofs.YtelkaieknliflaaDoor
open Go.RowKit

theorem Rd.blk {w : World} {R : Nat} {a : Option Addr} {len cap : Nat} {p : Int} (h : Rd w R a len cap p) : Blk w R #[.slice a len cap, .int .i64 p] 57 := h

theorem FldRow.kept {w w' : World} {F R : Nat} {fs : List Fld} (h : FldRow w (some ⟨F, 0, none⟩) fs) (hg : w.grownBy w' (some R)) (hne : F ≠ R) : FldRow w' (some ⟨F, 0, none⟩) fs := fun hp => by
  obtain ⟨g, off, e, hl, hc⟩ := h hp
  cases e
  have hb := hg.block F hl (by simpa using hne)
  refine ⟨F, 0, rfl, by have := hg.size; omega, fun i hi => ?_⟩
  obtain ⟨c0, c1, c2⟩ := hc i hi
  exact ⟨(World.cell?_of_block hb).trans c0, (World.cell?_of_block hb).trans c1, (World.cell?_of_block hb).trans c2⟩
end Go.Proofs.YtelkaieknliflaaDoor
