/- What a type assertion gives: each kind of part held against each. -/
import Derived.Test.YtanmhbopalchoaaDoorProg
import Derived.WalkKit
namespace Go.Proofs.YtanmhbopalchoaaDoor
open Go.RowKit

theorem Tryd.ta_num_num (v : Value) (w : World) : (Instr.typeAssert (.iface 125 v) 103 125 true).run Tryd.prog w = .ok (.tuple #[v, .bool true]) w := by kernel_rfl
theorem Tryd.ta_num_var (v : Value) (w : World) : (Instr.typeAssert (.iface 125 v) 103 111 true).run Tryd.prog w = .ok (.tuple #[.agg #[.string ⟨#[]⟩], .bool false]) w := by kernel_rfl
theorem Tryd.ta_num_here (v : Value) (w : World) : (Instr.typeAssert (.iface 125 v) 103 128 true).run Tryd.prog w = .ok (.tuple #[.agg #[], .bool false]) w := by kernel_rfl
theorem Tryd.ta_num_pair (v : Value) (w : World) : (Instr.typeAssert (.iface 125 v) 103 130 true).run Tryd.prog w = .ok (.tuple #[.agg #[.int .i64 0, .int .i64 0, .int .i64 0], .bool false]) w := by kernel_rfl
theorem Tryd.ta_num_not (v : Value) (w : World) : (Instr.typeAssert (.iface 125 v) 103 133 true).run Tryd.prog w = .ok (.tuple #[.agg #[.int .i64 0], .bool false]) w := by kernel_rfl
theorem Tryd.ta_var_num (v : Value) (w : World) : (Instr.typeAssert (.iface 111 v) 103 125 true).run Tryd.prog w = .ok (.tuple #[.agg #[.int .i64 0], .bool false]) w := by kernel_rfl
theorem Tryd.ta_var_var (v : Value) (w : World) : (Instr.typeAssert (.iface 111 v) 103 111 true).run Tryd.prog w = .ok (.tuple #[v, .bool true]) w := by kernel_rfl
theorem Tryd.ta_var_here (v : Value) (w : World) : (Instr.typeAssert (.iface 111 v) 103 128 true).run Tryd.prog w = .ok (.tuple #[.agg #[], .bool false]) w := by kernel_rfl
theorem Tryd.ta_var_pair (v : Value) (w : World) : (Instr.typeAssert (.iface 111 v) 103 130 true).run Tryd.prog w = .ok (.tuple #[.agg #[.int .i64 0, .int .i64 0, .int .i64 0], .bool false]) w := by kernel_rfl
theorem Tryd.ta_var_not (v : Value) (w : World) : (Instr.typeAssert (.iface 111 v) 103 133 true).run Tryd.prog w = .ok (.tuple #[.agg #[.int .i64 0], .bool false]) w := by kernel_rfl
theorem Tryd.ta_here_num (v : Value) (w : World) : (Instr.typeAssert (.iface 128 v) 103 125 true).run Tryd.prog w = .ok (.tuple #[.agg #[.int .i64 0], .bool false]) w := by kernel_rfl
theorem Tryd.ta_here_var (v : Value) (w : World) : (Instr.typeAssert (.iface 128 v) 103 111 true).run Tryd.prog w = .ok (.tuple #[.agg #[.string ⟨#[]⟩], .bool false]) w := by kernel_rfl
theorem Tryd.ta_here_here (v : Value) (w : World) : (Instr.typeAssert (.iface 128 v) 103 128 true).run Tryd.prog w = .ok (.tuple #[v, .bool true]) w := by kernel_rfl
theorem Tryd.ta_here_pair (v : Value) (w : World) : (Instr.typeAssert (.iface 128 v) 103 130 true).run Tryd.prog w = .ok (.tuple #[.agg #[.int .i64 0, .int .i64 0, .int .i64 0], .bool false]) w := by kernel_rfl
theorem Tryd.ta_here_not (v : Value) (w : World) : (Instr.typeAssert (.iface 128 v) 103 133 true).run Tryd.prog w = .ok (.tuple #[.agg #[.int .i64 0], .bool false]) w := by kernel_rfl
theorem Tryd.ta_pair_num (v : Value) (w : World) : (Instr.typeAssert (.iface 130 v) 103 125 true).run Tryd.prog w = .ok (.tuple #[.agg #[.int .i64 0], .bool false]) w := by kernel_rfl
theorem Tryd.ta_pair_var (v : Value) (w : World) : (Instr.typeAssert (.iface 130 v) 103 111 true).run Tryd.prog w = .ok (.tuple #[.agg #[.string ⟨#[]⟩], .bool false]) w := by kernel_rfl
theorem Tryd.ta_pair_here (v : Value) (w : World) : (Instr.typeAssert (.iface 130 v) 103 128 true).run Tryd.prog w = .ok (.tuple #[.agg #[], .bool false]) w := by kernel_rfl
theorem Tryd.ta_pair_pair (v : Value) (w : World) : (Instr.typeAssert (.iface 130 v) 103 130 true).run Tryd.prog w = .ok (.tuple #[v, .bool true]) w := by kernel_rfl
theorem Tryd.ta_pair_not (v : Value) (w : World) : (Instr.typeAssert (.iface 130 v) 103 133 true).run Tryd.prog w = .ok (.tuple #[.agg #[.int .i64 0], .bool false]) w := by kernel_rfl
theorem Tryd.ta_not_num (v : Value) (w : World) : (Instr.typeAssert (.iface 133 v) 103 125 true).run Tryd.prog w = .ok (.tuple #[.agg #[.int .i64 0], .bool false]) w := by kernel_rfl
theorem Tryd.ta_not_var (v : Value) (w : World) : (Instr.typeAssert (.iface 133 v) 103 111 true).run Tryd.prog w = .ok (.tuple #[.agg #[.string ⟨#[]⟩], .bool false]) w := by kernel_rfl
theorem Tryd.ta_not_here (v : Value) (w : World) : (Instr.typeAssert (.iface 133 v) 103 128 true).run Tryd.prog w = .ok (.tuple #[.agg #[], .bool false]) w := by kernel_rfl
theorem Tryd.ta_not_pair (v : Value) (w : World) : (Instr.typeAssert (.iface 133 v) 103 130 true).run Tryd.prog w = .ok (.tuple #[.agg #[.int .i64 0, .int .i64 0, .int .i64 0], .bool false]) w := by kernel_rfl
theorem Tryd.ta_not_not (v : Value) (w : World) : (Instr.typeAssert (.iface 133 v) 103 133 true).run Tryd.prog w = .ok (.tuple #[v, .bool true]) w := by kernel_rfl

end Go.Proofs.YtanmhbopalchoaaDoor
