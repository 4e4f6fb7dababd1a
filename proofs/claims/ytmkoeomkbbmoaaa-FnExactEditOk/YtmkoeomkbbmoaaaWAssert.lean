/- The program's own trees, asked for their kind: closed facts of the model. -/
import Derived.Test.YtmkoeomkbbmoaaaBase
import Derived.Test.YtmkoeomkbbmoaaaRows
namespace Go.Proofs.Ytmkoeomkbbmoaaa
open Go.RowKit

theorem Try.asB_B (v : Value) (w : World) : (Instr.typeAssert (.iface 88 v) 58 88 true).run Try.prog w = .ok (.tuple #[v, .bool true]) w := by kernel_rfl
theorem Try.asB_N (v : Value) (w : World) : (Instr.typeAssert (.iface 93 v) 58 88 true).run Try.prog w = .ok (.tuple #[.agg #[.int .i64 0], .bool false]) w := by kernel_rfl
theorem Try.asB_S (v : Value) (w : World) : (Instr.typeAssert (.iface 95 v) 58 88 true).run Try.prog w = .ok (.tuple #[.agg #[.int .i64 0], .bool false]) w := by kernel_rfl
theorem Try.asB_R (v : Value) (w : World) : (Instr.typeAssert (.iface 100 v) 58 88 true).run Try.prog w = .ok (.tuple #[.agg #[.int .i64 0], .bool false]) w := by kernel_rfl
theorem Try.asB_M (v : Value) (w : World) : (Instr.typeAssert (.iface 104 v) 58 88 true).run Try.prog w = .ok (.tuple #[.agg #[.int .i64 0], .bool false]) w := by kernel_rfl
theorem Try.asN_B (v : Value) (w : World) : (Instr.typeAssert (.iface 88 v) 58 93 true).run Try.prog w = .ok (.tuple #[.agg #[.int .i64 0], .bool false]) w := by kernel_rfl
theorem Try.asN_N (v : Value) (w : World) : (Instr.typeAssert (.iface 93 v) 58 93 true).run Try.prog w = .ok (.tuple #[v, .bool true]) w := by kernel_rfl
theorem Try.asN_S (v : Value) (w : World) : (Instr.typeAssert (.iface 95 v) 58 93 true).run Try.prog w = .ok (.tuple #[.agg #[.int .i64 0], .bool false]) w := by kernel_rfl
theorem Try.asN_R (v : Value) (w : World) : (Instr.typeAssert (.iface 100 v) 58 93 true).run Try.prog w = .ok (.tuple #[.agg #[.int .i64 0], .bool false]) w := by kernel_rfl
theorem Try.asN_M (v : Value) (w : World) : (Instr.typeAssert (.iface 104 v) 58 93 true).run Try.prog w = .ok (.tuple #[.agg #[.int .i64 0], .bool false]) w := by kernel_rfl
theorem Try.asS_B (v : Value) (w : World) : (Instr.typeAssert (.iface 88 v) 58 95 true).run Try.prog w = .ok (.tuple #[.agg #[.string ByteArray.empty], .bool false]) w := by kernel_rfl
theorem Try.asS_N (v : Value) (w : World) : (Instr.typeAssert (.iface 93 v) 58 95 true).run Try.prog w = .ok (.tuple #[.agg #[.string ByteArray.empty], .bool false]) w := by kernel_rfl
theorem Try.asS_S (v : Value) (w : World) : (Instr.typeAssert (.iface 95 v) 58 95 true).run Try.prog w = .ok (.tuple #[v, .bool true]) w := by kernel_rfl
theorem Try.asS_R (v : Value) (w : World) : (Instr.typeAssert (.iface 100 v) 58 95 true).run Try.prog w = .ok (.tuple #[.agg #[.string ByteArray.empty], .bool false]) w := by kernel_rfl
theorem Try.asS_M (v : Value) (w : World) : (Instr.typeAssert (.iface 104 v) 58 95 true).run Try.prog w = .ok (.tuple #[.agg #[.string ByteArray.empty], .bool false]) w := by kernel_rfl
theorem Try.asR_B (v : Value) (w : World) : (Instr.typeAssert (.iface 88 v) 58 100 true).run Try.prog w = .ok (.tuple #[.agg #[.slice none 0 0], .bool false]) w := by kernel_rfl
theorem Try.asR_N (v : Value) (w : World) : (Instr.typeAssert (.iface 93 v) 58 100 true).run Try.prog w = .ok (.tuple #[.agg #[.slice none 0 0], .bool false]) w := by kernel_rfl
theorem Try.asR_S (v : Value) (w : World) : (Instr.typeAssert (.iface 95 v) 58 100 true).run Try.prog w = .ok (.tuple #[.agg #[.slice none 0 0], .bool false]) w := by kernel_rfl
theorem Try.asR_R (v : Value) (w : World) : (Instr.typeAssert (.iface 100 v) 58 100 true).run Try.prog w = .ok (.tuple #[v, .bool true]) w := by kernel_rfl
theorem Try.asR_M (v : Value) (w : World) : (Instr.typeAssert (.iface 104 v) 58 100 true).run Try.prog w = .ok (.tuple #[.agg #[.slice none 0 0], .bool false]) w := by kernel_rfl
theorem Try.asM_B (v : Value) (w : World) : (Instr.typeAssert (.iface 88 v) 58 104 true).run Try.prog w = .ok (.tuple #[.agg #[.map none], .bool false]) w := by kernel_rfl
theorem Try.asM_N (v : Value) (w : World) : (Instr.typeAssert (.iface 93 v) 58 104 true).run Try.prog w = .ok (.tuple #[.agg #[.map none], .bool false]) w := by kernel_rfl
theorem Try.asM_S (v : Value) (w : World) : (Instr.typeAssert (.iface 95 v) 58 104 true).run Try.prog w = .ok (.tuple #[.agg #[.map none], .bool false]) w := by kernel_rfl
theorem Try.asM_R (v : Value) (w : World) : (Instr.typeAssert (.iface 100 v) 58 104 true).run Try.prog w = .ok (.tuple #[.agg #[.map none], .bool false]) w := by kernel_rfl
theorem Try.asM_M (v : Value) (w : World) : (Instr.typeAssert (.iface 104 v) 58 104 true).run Try.prog w = .ok (.tuple #[v, .bool true]) w := by kernel_rfl
end Go.Proofs.Ytmkoeomkbbmoaaa
