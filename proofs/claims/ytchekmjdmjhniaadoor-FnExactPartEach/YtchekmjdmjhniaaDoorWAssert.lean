/- The program's own trees, asked for their kind: closed facts of the model. -/
import Derived.Test.YtchekmjdmjhniaaDoorBase
import Derived.Test.YtchekmjdmjhniaaDoorRows
namespace Go.Proofs.YtchekmjdmjhniaaDoor
open Go.RowKit

theorem Tryd.asB_B (v : Value) (w : World) : (Instr.typeAssert (.iface 116 v) 48 116 true).run Tryd.prog w = .ok (.tuple #[v, .bool true]) w := by kernel_rfl
theorem Tryd.asB_N (v : Value) (w : World) : (Instr.typeAssert (.iface 71 v) 48 116 true).run Tryd.prog w = .ok (.tuple #[.agg #[.int .i64 0], .bool false]) w := by kernel_rfl
theorem Tryd.asB_S (v : Value) (w : World) : (Instr.typeAssert (.iface 74 v) 48 116 true).run Tryd.prog w = .ok (.tuple #[.agg #[.int .i64 0], .bool false]) w := by kernel_rfl
theorem Tryd.asB_R (v : Value) (w : World) : (Instr.typeAssert (.iface 65 v) 48 116 true).run Tryd.prog w = .ok (.tuple #[.agg #[.int .i64 0], .bool false]) w := by kernel_rfl
theorem Tryd.asB_M (v : Value) (w : World) : (Instr.typeAssert (.iface 68 v) 48 116 true).run Tryd.prog w = .ok (.tuple #[.agg #[.int .i64 0], .bool false]) w := by kernel_rfl
theorem Tryd.asN_B (v : Value) (w : World) : (Instr.typeAssert (.iface 116 v) 48 71 true).run Tryd.prog w = .ok (.tuple #[.agg #[.int .i64 0], .bool false]) w := by kernel_rfl
theorem Tryd.asN_N (v : Value) (w : World) : (Instr.typeAssert (.iface 71 v) 48 71 true).run Tryd.prog w = .ok (.tuple #[v, .bool true]) w := by kernel_rfl
theorem Tryd.asN_S (v : Value) (w : World) : (Instr.typeAssert (.iface 74 v) 48 71 true).run Tryd.prog w = .ok (.tuple #[.agg #[.int .i64 0], .bool false]) w := by kernel_rfl
theorem Tryd.asN_R (v : Value) (w : World) : (Instr.typeAssert (.iface 65 v) 48 71 true).run Tryd.prog w = .ok (.tuple #[.agg #[.int .i64 0], .bool false]) w := by kernel_rfl
theorem Tryd.asN_M (v : Value) (w : World) : (Instr.typeAssert (.iface 68 v) 48 71 true).run Tryd.prog w = .ok (.tuple #[.agg #[.int .i64 0], .bool false]) w := by kernel_rfl
theorem Tryd.asS_B (v : Value) (w : World) : (Instr.typeAssert (.iface 116 v) 48 74 true).run Tryd.prog w = .ok (.tuple #[.agg #[.string ByteArray.empty], .bool false]) w := by kernel_rfl
theorem Tryd.asS_N (v : Value) (w : World) : (Instr.typeAssert (.iface 71 v) 48 74 true).run Tryd.prog w = .ok (.tuple #[.agg #[.string ByteArray.empty], .bool false]) w := by kernel_rfl
theorem Tryd.asS_S (v : Value) (w : World) : (Instr.typeAssert (.iface 74 v) 48 74 true).run Tryd.prog w = .ok (.tuple #[v, .bool true]) w := by kernel_rfl
theorem Tryd.asS_R (v : Value) (w : World) : (Instr.typeAssert (.iface 65 v) 48 74 true).run Tryd.prog w = .ok (.tuple #[.agg #[.string ByteArray.empty], .bool false]) w := by kernel_rfl
theorem Tryd.asS_M (v : Value) (w : World) : (Instr.typeAssert (.iface 68 v) 48 74 true).run Tryd.prog w = .ok (.tuple #[.agg #[.string ByteArray.empty], .bool false]) w := by kernel_rfl
theorem Tryd.asR_B (v : Value) (w : World) : (Instr.typeAssert (.iface 116 v) 48 65 true).run Tryd.prog w = .ok (.tuple #[.agg #[.slice none 0 0], .bool false]) w := by kernel_rfl
theorem Tryd.asR_N (v : Value) (w : World) : (Instr.typeAssert (.iface 71 v) 48 65 true).run Tryd.prog w = .ok (.tuple #[.agg #[.slice none 0 0], .bool false]) w := by kernel_rfl
theorem Tryd.asR_S (v : Value) (w : World) : (Instr.typeAssert (.iface 74 v) 48 65 true).run Tryd.prog w = .ok (.tuple #[.agg #[.slice none 0 0], .bool false]) w := by kernel_rfl
theorem Tryd.asR_R (v : Value) (w : World) : (Instr.typeAssert (.iface 65 v) 48 65 true).run Tryd.prog w = .ok (.tuple #[v, .bool true]) w := by kernel_rfl
theorem Tryd.asR_M (v : Value) (w : World) : (Instr.typeAssert (.iface 68 v) 48 65 true).run Tryd.prog w = .ok (.tuple #[.agg #[.slice none 0 0], .bool false]) w := by kernel_rfl
theorem Tryd.asM_B (v : Value) (w : World) : (Instr.typeAssert (.iface 116 v) 48 68 true).run Tryd.prog w = .ok (.tuple #[.agg #[.map none], .bool false]) w := by kernel_rfl
theorem Tryd.asM_N (v : Value) (w : World) : (Instr.typeAssert (.iface 71 v) 48 68 true).run Tryd.prog w = .ok (.tuple #[.agg #[.map none], .bool false]) w := by kernel_rfl
theorem Tryd.asM_S (v : Value) (w : World) : (Instr.typeAssert (.iface 74 v) 48 68 true).run Tryd.prog w = .ok (.tuple #[.agg #[.map none], .bool false]) w := by kernel_rfl
theorem Tryd.asM_R (v : Value) (w : World) : (Instr.typeAssert (.iface 65 v) 48 68 true).run Tryd.prog w = .ok (.tuple #[.agg #[.map none], .bool false]) w := by kernel_rfl
theorem Tryd.asM_M (v : Value) (w : World) : (Instr.typeAssert (.iface 68 v) 48 68 true).run Tryd.prog w = .ok (.tuple #[v, .bool true]) w := by kernel_rfl
end Go.Proofs.YtchekmjdmjhniaaDoor
