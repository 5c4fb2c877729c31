/- What the program's type switch on a content answers. -/
import Derived.Test.YtldgadmaffpghaaDoorNumTag
import Derived.Stop.Asserts
namespace Go.Proofs.YtldgadmaffpghaaDoor
open Go.RowKit
variable (s : ByteArray) (w : World)
theorem asNumNum : (Instr.typeAssert (.iface 94 (.string s)) 76 94 true).run Tryd.prog w = .ok (.tuple #[.string s, .bool true]) w := by
  simp [Instr.typeAssert, run_underlying Tryd.underlying94, typeInfo]
theorem asNumTag : (Instr.typeAssert (.iface 95 (.string s)) 76 94 true).run Tryd.prog w = .ok (.tuple #[.string ⟨#[]⟩, .bool false]) w := by
  simp [Instr.typeAssert, run_underlying Tryd.underlying94, typeInfo, Tryd.zeroValue94]
theorem asNumText : (Instr.typeAssert (.iface 96 (.string s)) 76 94 true).run Tryd.prog w = .ok (.tuple #[.string ⟨#[]⟩, .bool false]) w := by
  simp [Instr.typeAssert, run_underlying Tryd.underlying94, typeInfo, Tryd.zeroValue94]
theorem asTagTag : (Instr.typeAssert (.iface 95 (.string s)) 76 95 true).run Tryd.prog w = .ok (.tuple #[.string s, .bool true]) w := by
  simp [Instr.typeAssert, run_underlying Tryd.underlying95, typeInfo]
theorem asTagText : (Instr.typeAssert (.iface 96 (.string s)) 76 95 true).run Tryd.prog w = .ok (.tuple #[.string ⟨#[]⟩, .bool false]) w := by
  simp [Instr.typeAssert, run_underlying Tryd.underlying95, typeInfo, Tryd.zeroValue95]
end Go.Proofs.YtldgadmaffpghaaDoor
