/- The program's own trees, asked for their kind: closed facts of the model. -/
import Derived.Test.YtmkoeomkbbmoaaaGreatDoorBase
import Derived.Test.YtmkoeomkbbmoaaaGreatDoorRows
namespace Go.Proofs.YtmkoeomkbbmoaaaGreatDoor
open Go.RowKit

theorem Tryz.asB_B (v : Value) (w : World) : (Instr.typeAssert (.iface 92 v) 54 92 true).run Tryz.prog w = .ok (.tuple #[v, .bool true]) w := by kernel_rfl
theorem Tryz.asB_N (v : Value) (w : World) : (Instr.typeAssert (.iface 129 v) 54 92 true).run Tryz.prog w = .ok (.tuple #[.agg #[.int .i64 0], .bool false]) w := by kernel_rfl
theorem Tryz.asB_S (v : Value) (w : World) : (Instr.typeAssert (.iface 88 v) 54 92 true).run Tryz.prog w = .ok (.tuple #[.agg #[.int .i64 0], .bool false]) w := by kernel_rfl
theorem Tryz.asB_R (v : Value) (w : World) : (Instr.typeAssert (.iface 83 v) 54 92 true).run Tryz.prog w = .ok (.tuple #[.agg #[.int .i64 0], .bool false]) w := by kernel_rfl
theorem Tryz.asB_M (v : Value) (w : World) : (Instr.typeAssert (.iface 58 v) 54 92 true).run Tryz.prog w = .ok (.tuple #[.agg #[.int .i64 0], .bool false]) w := by kernel_rfl
theorem Tryz.asN_B (v : Value) (w : World) : (Instr.typeAssert (.iface 92 v) 54 129 true).run Tryz.prog w = .ok (.tuple #[.agg #[.int .i64 0], .bool false]) w := by kernel_rfl
theorem Tryz.asN_N (v : Value) (w : World) : (Instr.typeAssert (.iface 129 v) 54 129 true).run Tryz.prog w = .ok (.tuple #[v, .bool true]) w := by kernel_rfl
theorem Tryz.asN_S (v : Value) (w : World) : (Instr.typeAssert (.iface 88 v) 54 129 true).run Tryz.prog w = .ok (.tuple #[.agg #[.int .i64 0], .bool false]) w := by kernel_rfl
theorem Tryz.asN_R (v : Value) (w : World) : (Instr.typeAssert (.iface 83 v) 54 129 true).run Tryz.prog w = .ok (.tuple #[.agg #[.int .i64 0], .bool false]) w := by kernel_rfl
theorem Tryz.asN_M (v : Value) (w : World) : (Instr.typeAssert (.iface 58 v) 54 129 true).run Tryz.prog w = .ok (.tuple #[.agg #[.int .i64 0], .bool false]) w := by kernel_rfl
theorem Tryz.asS_B (v : Value) (w : World) : (Instr.typeAssert (.iface 92 v) 54 88 true).run Tryz.prog w = .ok (.tuple #[.agg #[.string ByteArray.empty], .bool false]) w := by kernel_rfl
theorem Tryz.asS_N (v : Value) (w : World) : (Instr.typeAssert (.iface 129 v) 54 88 true).run Tryz.prog w = .ok (.tuple #[.agg #[.string ByteArray.empty], .bool false]) w := by kernel_rfl
theorem Tryz.asS_S (v : Value) (w : World) : (Instr.typeAssert (.iface 88 v) 54 88 true).run Tryz.prog w = .ok (.tuple #[v, .bool true]) w := by kernel_rfl
theorem Tryz.asS_R (v : Value) (w : World) : (Instr.typeAssert (.iface 83 v) 54 88 true).run Tryz.prog w = .ok (.tuple #[.agg #[.string ByteArray.empty], .bool false]) w := by kernel_rfl
theorem Tryz.asS_M (v : Value) (w : World) : (Instr.typeAssert (.iface 58 v) 54 88 true).run Tryz.prog w = .ok (.tuple #[.agg #[.string ByteArray.empty], .bool false]) w := by kernel_rfl
theorem Tryz.asR_B (v : Value) (w : World) : (Instr.typeAssert (.iface 92 v) 54 83 true).run Tryz.prog w = .ok (.tuple #[.agg #[.slice none 0 0], .bool false]) w := by kernel_rfl
theorem Tryz.asR_N (v : Value) (w : World) : (Instr.typeAssert (.iface 129 v) 54 83 true).run Tryz.prog w = .ok (.tuple #[.agg #[.slice none 0 0], .bool false]) w := by kernel_rfl
theorem Tryz.asR_S (v : Value) (w : World) : (Instr.typeAssert (.iface 88 v) 54 83 true).run Tryz.prog w = .ok (.tuple #[.agg #[.slice none 0 0], .bool false]) w := by kernel_rfl
theorem Tryz.asR_R (v : Value) (w : World) : (Instr.typeAssert (.iface 83 v) 54 83 true).run Tryz.prog w = .ok (.tuple #[v, .bool true]) w := by kernel_rfl
theorem Tryz.asR_M (v : Value) (w : World) : (Instr.typeAssert (.iface 58 v) 54 83 true).run Tryz.prog w = .ok (.tuple #[.agg #[.slice none 0 0], .bool false]) w := by kernel_rfl
theorem Tryz.asM_B (v : Value) (w : World) : (Instr.typeAssert (.iface 92 v) 54 58 true).run Tryz.prog w = .ok (.tuple #[.agg #[.map none], .bool false]) w := by kernel_rfl
theorem Tryz.asM_N (v : Value) (w : World) : (Instr.typeAssert (.iface 129 v) 54 58 true).run Tryz.prog w = .ok (.tuple #[.agg #[.map none], .bool false]) w := by kernel_rfl
theorem Tryz.asM_S (v : Value) (w : World) : (Instr.typeAssert (.iface 88 v) 54 58 true).run Tryz.prog w = .ok (.tuple #[.agg #[.map none], .bool false]) w := by kernel_rfl
theorem Tryz.asM_R (v : Value) (w : World) : (Instr.typeAssert (.iface 83 v) 54 58 true).run Tryz.prog w = .ok (.tuple #[.agg #[.map none], .bool false]) w := by kernel_rfl
theorem Tryz.asM_M (v : Value) (w : World) : (Instr.typeAssert (.iface 58 v) 54 58 true).run Tryz.prog w = .ok (.tuple #[v, .bool true]) w := by kernel_rfl
end Go.Proofs.YtmkoeomkbbmoaaaGreatDoor
