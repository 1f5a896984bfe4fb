/- What a type assertion gives: each kind of part held against each. -/
import Derived.Test.YtokgkjfgknjbbaaDoorProg
import Derived.WalkKit
namespace Go.Proofs.YtokgkjfgknjbbaaDoor
open Go.RowKit

theorem Tryd.ta_num_num (v : Value) (w : World) : (Instr.typeAssert (.iface 116 v) 94 116 true).run Tryd.prog w = .ok (.tuple #[v, .bool true]) w := by kernel_rfl
theorem Tryd.ta_num_var (v : Value) (w : World) : (Instr.typeAssert (.iface 116 v) 94 100 true).run Tryd.prog w = .ok (.tuple #[.agg #[.string ⟨#[]⟩], .bool false]) w := by kernel_rfl
theorem Tryd.ta_num_here (v : Value) (w : World) : (Instr.typeAssert (.iface 116 v) 94 118 true).run Tryd.prog w = .ok (.tuple #[.agg #[], .bool false]) w := by kernel_rfl
theorem Tryd.ta_num_pair (v : Value) (w : World) : (Instr.typeAssert (.iface 116 v) 94 121 true).run Tryd.prog w = .ok (.tuple #[.agg #[.int .i64 0, .int .i64 0, .int .i64 0], .bool false]) w := by kernel_rfl
theorem Tryd.ta_num_not (v : Value) (w : World) : (Instr.typeAssert (.iface 116 v) 94 123 true).run Tryd.prog w = .ok (.tuple #[.agg #[.int .i64 0], .bool false]) w := by kernel_rfl
theorem Tryd.ta_var_num (v : Value) (w : World) : (Instr.typeAssert (.iface 100 v) 94 116 true).run Tryd.prog w = .ok (.tuple #[.agg #[.int .i64 0], .bool false]) w := by kernel_rfl
theorem Tryd.ta_var_var (v : Value) (w : World) : (Instr.typeAssert (.iface 100 v) 94 100 true).run Tryd.prog w = .ok (.tuple #[v, .bool true]) w := by kernel_rfl
theorem Tryd.ta_var_here (v : Value) (w : World) : (Instr.typeAssert (.iface 100 v) 94 118 true).run Tryd.prog w = .ok (.tuple #[.agg #[], .bool false]) w := by kernel_rfl
theorem Tryd.ta_var_pair (v : Value) (w : World) : (Instr.typeAssert (.iface 100 v) 94 121 true).run Tryd.prog w = .ok (.tuple #[.agg #[.int .i64 0, .int .i64 0, .int .i64 0], .bool false]) w := by kernel_rfl
theorem Tryd.ta_var_not (v : Value) (w : World) : (Instr.typeAssert (.iface 100 v) 94 123 true).run Tryd.prog w = .ok (.tuple #[.agg #[.int .i64 0], .bool false]) w := by kernel_rfl
theorem Tryd.ta_here_num (v : Value) (w : World) : (Instr.typeAssert (.iface 118 v) 94 116 true).run Tryd.prog w = .ok (.tuple #[.agg #[.int .i64 0], .bool false]) w := by kernel_rfl
theorem Tryd.ta_here_var (v : Value) (w : World) : (Instr.typeAssert (.iface 118 v) 94 100 true).run Tryd.prog w = .ok (.tuple #[.agg #[.string ⟨#[]⟩], .bool false]) w := by kernel_rfl
theorem Tryd.ta_here_here (v : Value) (w : World) : (Instr.typeAssert (.iface 118 v) 94 118 true).run Tryd.prog w = .ok (.tuple #[v, .bool true]) w := by kernel_rfl
theorem Tryd.ta_here_pair (v : Value) (w : World) : (Instr.typeAssert (.iface 118 v) 94 121 true).run Tryd.prog w = .ok (.tuple #[.agg #[.int .i64 0, .int .i64 0, .int .i64 0], .bool false]) w := by kernel_rfl
theorem Tryd.ta_here_not (v : Value) (w : World) : (Instr.typeAssert (.iface 118 v) 94 123 true).run Tryd.prog w = .ok (.tuple #[.agg #[.int .i64 0], .bool false]) w := by kernel_rfl
theorem Tryd.ta_pair_num (v : Value) (w : World) : (Instr.typeAssert (.iface 121 v) 94 116 true).run Tryd.prog w = .ok (.tuple #[.agg #[.int .i64 0], .bool false]) w := by kernel_rfl
theorem Tryd.ta_pair_var (v : Value) (w : World) : (Instr.typeAssert (.iface 121 v) 94 100 true).run Tryd.prog w = .ok (.tuple #[.agg #[.string ⟨#[]⟩], .bool false]) w := by kernel_rfl
theorem Tryd.ta_pair_here (v : Value) (w : World) : (Instr.typeAssert (.iface 121 v) 94 118 true).run Tryd.prog w = .ok (.tuple #[.agg #[], .bool false]) w := by kernel_rfl
theorem Tryd.ta_pair_pair (v : Value) (w : World) : (Instr.typeAssert (.iface 121 v) 94 121 true).run Tryd.prog w = .ok (.tuple #[v, .bool true]) w := by kernel_rfl
theorem Tryd.ta_pair_not (v : Value) (w : World) : (Instr.typeAssert (.iface 121 v) 94 123 true).run Tryd.prog w = .ok (.tuple #[.agg #[.int .i64 0], .bool false]) w := by kernel_rfl
theorem Tryd.ta_not_num (v : Value) (w : World) : (Instr.typeAssert (.iface 123 v) 94 116 true).run Tryd.prog w = .ok (.tuple #[.agg #[.int .i64 0], .bool false]) w := by kernel_rfl
theorem Tryd.ta_not_var (v : Value) (w : World) : (Instr.typeAssert (.iface 123 v) 94 100 true).run Tryd.prog w = .ok (.tuple #[.agg #[.string ⟨#[]⟩], .bool false]) w := by kernel_rfl
theorem Tryd.ta_not_here (v : Value) (w : World) : (Instr.typeAssert (.iface 123 v) 94 118 true).run Tryd.prog w = .ok (.tuple #[.agg #[], .bool false]) w := by kernel_rfl
theorem Tryd.ta_not_pair (v : Value) (w : World) : (Instr.typeAssert (.iface 123 v) 94 121 true).run Tryd.prog w = .ok (.tuple #[.agg #[.int .i64 0, .int .i64 0, .int .i64 0], .bool false]) w := by kernel_rfl
theorem Tryd.ta_not_not (v : Value) (w : World) : (Instr.typeAssert (.iface 123 v) 94 123 true).run Tryd.prog w = .ok (.tuple #[v, .bool true]) w := by kernel_rfl

end Go.Proofs.YtokgkjfgknjbbaaDoor
