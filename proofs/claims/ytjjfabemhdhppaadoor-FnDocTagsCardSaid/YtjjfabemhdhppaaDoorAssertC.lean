/- What the program's type switch on a content answers. -/
import Derived.Test.YtjjfabemhdhppaaDoorNumTag
import Derived.Stop.Asserts
namespace Go.Proofs.YtjjfabemhdhppaaDoor
open Go.RowKit
variable (s : ByteArray) (w : World)
theorem asNumNum : (Instr.typeAssert (.iface 77 (.string s)) 61 77 true).run Tryd.prog w = .ok (.tuple #[.string s, .bool true]) w := by
  simp [Instr.typeAssert, run_underlying Tryd.underlying77, typeInfo]
theorem asNumTag : (Instr.typeAssert (.iface 78 (.string s)) 61 77 true).run Tryd.prog w = .ok (.tuple #[.string ⟨#[]⟩, .bool false]) w := by
  simp [Instr.typeAssert, run_underlying Tryd.underlying77, typeInfo, Tryd.zeroValue77]
theorem asNumText : (Instr.typeAssert (.iface 79 (.string s)) 61 77 true).run Tryd.prog w = .ok (.tuple #[.string ⟨#[]⟩, .bool false]) w := by
  simp [Instr.typeAssert, run_underlying Tryd.underlying77, typeInfo, Tryd.zeroValue77]
theorem asTagTag : (Instr.typeAssert (.iface 78 (.string s)) 61 78 true).run Tryd.prog w = .ok (.tuple #[.string s, .bool true]) w := by
  simp [Instr.typeAssert, run_underlying Tryd.underlying78, typeInfo]
theorem asTagText : (Instr.typeAssert (.iface 79 (.string s)) 61 78 true).run Tryd.prog w = .ok (.tuple #[.string ⟨#[]⟩, .bool false]) w := by
  simp [Instr.typeAssert, run_underlying Tryd.underlying78, typeInfo, Tryd.zeroValue78]
end Go.Proofs.YtjjfabemhdhppaaDoor
