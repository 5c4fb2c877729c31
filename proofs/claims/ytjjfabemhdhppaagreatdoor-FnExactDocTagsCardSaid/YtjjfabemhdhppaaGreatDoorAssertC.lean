/- What the program's type switch on a content answers. -/
import Derived.Test.YtjjfabemhdhppaaGreatDoorNumTag
import Derived.Stop.Asserts
namespace Go.Proofs.YtjjfabemhdhppaaGreatDoor
open Go.RowKit
variable (s : ByteArray) (w : World)
theorem asNumNum : (Instr.typeAssert (.iface 88 (.string s)) 79 88 true).run Tryz.prog w = .ok (.tuple #[.string s, .bool true]) w := by
  simp [Instr.typeAssert, run_underlying Tryz.underlying88, typeInfo]
theorem asNumTag : (Instr.typeAssert (.iface 89 (.string s)) 79 88 true).run Tryz.prog w = .ok (.tuple #[.string ⟨#[]⟩, .bool false]) w := by
  simp [Instr.typeAssert, run_underlying Tryz.underlying88, typeInfo, Tryz.zeroValue88]
theorem asNumText : (Instr.typeAssert (.iface 91 (.string s)) 79 88 true).run Tryz.prog w = .ok (.tuple #[.string ⟨#[]⟩, .bool false]) w := by
  simp [Instr.typeAssert, run_underlying Tryz.underlying88, typeInfo, Tryz.zeroValue88]
theorem asTagTag : (Instr.typeAssert (.iface 89 (.string s)) 79 89 true).run Tryz.prog w = .ok (.tuple #[.string s, .bool true]) w := by
  simp [Instr.typeAssert, run_underlying Tryz.underlying89, typeInfo]
theorem asTagText : (Instr.typeAssert (.iface 91 (.string s)) 79 89 true).run Tryz.prog w = .ok (.tuple #[.string ⟨#[]⟩, .bool false]) w := by
  simp [Instr.typeAssert, run_underlying Tryz.underlying89, typeInfo, Tryz.zeroValue89]
end Go.Proofs.YtjjfabemhdhppaaGreatDoor
