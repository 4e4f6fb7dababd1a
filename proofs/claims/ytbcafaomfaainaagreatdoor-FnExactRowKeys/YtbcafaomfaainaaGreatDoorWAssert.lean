/- The program's own trees, asked for their kind: closed facts of the model. -/
import Derived.Test.YtbcafaomfaainaaGreatDoorBase
import Derived.Test.YtbcafaomfaainaaGreatDoorRows
namespace Go.Proofs.YtbcafaomfaainaaGreatDoor
open Go.RowKit

theorem Tryz.asB_B (v : Value) (w : World) : (Instr.typeAssert (.iface 114 v) 55 114 true).run Tryz.prog w = .ok (.tuple #[v, .bool true]) w := by kernel_rfl
theorem Tryz.asB_N (v : Value) (w : World) : (Instr.typeAssert (.iface 116 v) 55 114 true).run Tryz.prog w = .ok (.tuple #[.agg #[.int .i64 0], .bool false]) w := by kernel_rfl
theorem Tryz.asB_S (v : Value) (w : World) : (Instr.typeAssert (.iface 74 v) 55 114 true).run Tryz.prog w = .ok (.tuple #[.agg #[.int .i64 0], .bool false]) w := by kernel_rfl
theorem Tryz.asB_R (v : Value) (w : World) : (Instr.typeAssert (.iface 66 v) 55 114 true).run Tryz.prog w = .ok (.tuple #[.agg #[.int .i64 0], .bool false]) w := by kernel_rfl
theorem Tryz.asB_M (v : Value) (w : World) : (Instr.typeAssert (.iface 61 v) 55 114 true).run Tryz.prog w = .ok (.tuple #[.agg #[.int .i64 0], .bool false]) w := by kernel_rfl
theorem Tryz.asN_B (v : Value) (w : World) : (Instr.typeAssert (.iface 114 v) 55 116 true).run Tryz.prog w = .ok (.tuple #[.agg #[.int .i64 0], .bool false]) w := by kernel_rfl
theorem Tryz.asN_N (v : Value) (w : World) : (Instr.typeAssert (.iface 116 v) 55 116 true).run Tryz.prog w = .ok (.tuple #[v, .bool true]) w := by kernel_rfl
theorem Tryz.asN_S (v : Value) (w : World) : (Instr.typeAssert (.iface 74 v) 55 116 true).run Tryz.prog w = .ok (.tuple #[.agg #[.int .i64 0], .bool false]) w := by kernel_rfl
theorem Tryz.asN_R (v : Value) (w : World) : (Instr.typeAssert (.iface 66 v) 55 116 true).run Tryz.prog w = .ok (.tuple #[.agg #[.int .i64 0], .bool false]) w := by kernel_rfl
theorem Tryz.asN_M (v : Value) (w : World) : (Instr.typeAssert (.iface 61 v) 55 116 true).run Tryz.prog w = .ok (.tuple #[.agg #[.int .i64 0], .bool false]) w := by kernel_rfl
theorem Tryz.asS_B (v : Value) (w : World) : (Instr.typeAssert (.iface 114 v) 55 74 true).run Tryz.prog w = .ok (.tuple #[.agg #[.string ByteArray.empty], .bool false]) w := by kernel_rfl
theorem Tryz.asS_N (v : Value) (w : World) : (Instr.typeAssert (.iface 116 v) 55 74 true).run Tryz.prog w = .ok (.tuple #[.agg #[.string ByteArray.empty], .bool false]) w := by kernel_rfl
theorem Tryz.asS_S (v : Value) (w : World) : (Instr.typeAssert (.iface 74 v) 55 74 true).run Tryz.prog w = .ok (.tuple #[v, .bool true]) w := by kernel_rfl
theorem Tryz.asS_R (v : Value) (w : World) : (Instr.typeAssert (.iface 66 v) 55 74 true).run Tryz.prog w = .ok (.tuple #[.agg #[.string ByteArray.empty], .bool false]) w := by kernel_rfl
theorem Tryz.asS_M (v : Value) (w : World) : (Instr.typeAssert (.iface 61 v) 55 74 true).run Tryz.prog w = .ok (.tuple #[.agg #[.string ByteArray.empty], .bool false]) w := by kernel_rfl
theorem Tryz.asR_B (v : Value) (w : World) : (Instr.typeAssert (.iface 114 v) 55 66 true).run Tryz.prog w = .ok (.tuple #[.agg #[.slice none 0 0], .bool false]) w := by kernel_rfl
theorem Tryz.asR_N (v : Value) (w : World) : (Instr.typeAssert (.iface 116 v) 55 66 true).run Tryz.prog w = .ok (.tuple #[.agg #[.slice none 0 0], .bool false]) w := by kernel_rfl
theorem Tryz.asR_S (v : Value) (w : World) : (Instr.typeAssert (.iface 74 v) 55 66 true).run Tryz.prog w = .ok (.tuple #[.agg #[.slice none 0 0], .bool false]) w := by kernel_rfl
theorem Tryz.asR_R (v : Value) (w : World) : (Instr.typeAssert (.iface 66 v) 55 66 true).run Tryz.prog w = .ok (.tuple #[v, .bool true]) w := by kernel_rfl
theorem Tryz.asR_M (v : Value) (w : World) : (Instr.typeAssert (.iface 61 v) 55 66 true).run Tryz.prog w = .ok (.tuple #[.agg #[.slice none 0 0], .bool false]) w := by kernel_rfl
theorem Tryz.asM_B (v : Value) (w : World) : (Instr.typeAssert (.iface 114 v) 55 61 true).run Tryz.prog w = .ok (.tuple #[.agg #[.map none], .bool false]) w := by kernel_rfl
theorem Tryz.asM_N (v : Value) (w : World) : (Instr.typeAssert (.iface 116 v) 55 61 true).run Tryz.prog w = .ok (.tuple #[.agg #[.map none], .bool false]) w := by kernel_rfl
theorem Tryz.asM_S (v : Value) (w : World) : (Instr.typeAssert (.iface 74 v) 55 61 true).run Tryz.prog w = .ok (.tuple #[.agg #[.map none], .bool false]) w := by kernel_rfl
theorem Tryz.asM_R (v : Value) (w : World) : (Instr.typeAssert (.iface 66 v) 55 61 true).run Tryz.prog w = .ok (.tuple #[.agg #[.map none], .bool false]) w := by kernel_rfl
theorem Tryz.asM_M (v : Value) (w : World) : (Instr.typeAssert (.iface 61 v) 55 61 true).run Tryz.prog w = .ok (.tuple #[v, .bool true]) w := by kernel_rfl
end Go.Proofs.YtbcafaomfaainaaGreatDoor
