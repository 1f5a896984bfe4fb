/- What a type assertion gives: each kind of part held against each. -/
import Derived.Test.YtjjdeiclfbcicaaGreatDoorProg
import Derived.WalkKit
namespace Go.Proofs.YtjjdeiclfbcicaaGreatDoor
open Go.RowKit

theorem Tryz.ta_num_num (v : Value) (w : World) : (Instr.typeAssert (.iface 149 v) 131 149 true).run Tryz.prog w = .ok (.tuple #[v, .bool true]) w := by kernel_rfl
theorem Tryz.ta_num_var (v : Value) (w : World) : (Instr.typeAssert (.iface 149 v) 131 137 true).run Tryz.prog w = .ok (.tuple #[.agg #[.string ⟨#[]⟩], .bool false]) w := by kernel_rfl
theorem Tryz.ta_num_here (v : Value) (w : World) : (Instr.typeAssert (.iface 149 v) 131 150 true).run Tryz.prog w = .ok (.tuple #[.agg #[], .bool false]) w := by kernel_rfl
theorem Tryz.ta_num_pair (v : Value) (w : World) : (Instr.typeAssert (.iface 149 v) 131 153 true).run Tryz.prog w = .ok (.tuple #[.agg #[.int .i64 0, .int .i64 0, .int .i64 0], .bool false]) w := by kernel_rfl
theorem Tryz.ta_num_not (v : Value) (w : World) : (Instr.typeAssert (.iface 149 v) 131 155 true).run Tryz.prog w = .ok (.tuple #[.agg #[.int .i64 0], .bool false]) w := by kernel_rfl
theorem Tryz.ta_var_num (v : Value) (w : World) : (Instr.typeAssert (.iface 137 v) 131 149 true).run Tryz.prog w = .ok (.tuple #[.agg #[.int .i64 0], .bool false]) w := by kernel_rfl
theorem Tryz.ta_var_var (v : Value) (w : World) : (Instr.typeAssert (.iface 137 v) 131 137 true).run Tryz.prog w = .ok (.tuple #[v, .bool true]) w := by kernel_rfl
theorem Tryz.ta_var_here (v : Value) (w : World) : (Instr.typeAssert (.iface 137 v) 131 150 true).run Tryz.prog w = .ok (.tuple #[.agg #[], .bool false]) w := by kernel_rfl
theorem Tryz.ta_var_pair (v : Value) (w : World) : (Instr.typeAssert (.iface 137 v) 131 153 true).run Tryz.prog w = .ok (.tuple #[.agg #[.int .i64 0, .int .i64 0, .int .i64 0], .bool false]) w := by kernel_rfl
theorem Tryz.ta_var_not (v : Value) (w : World) : (Instr.typeAssert (.iface 137 v) 131 155 true).run Tryz.prog w = .ok (.tuple #[.agg #[.int .i64 0], .bool false]) w := by kernel_rfl
theorem Tryz.ta_here_num (v : Value) (w : World) : (Instr.typeAssert (.iface 150 v) 131 149 true).run Tryz.prog w = .ok (.tuple #[.agg #[.int .i64 0], .bool false]) w := by kernel_rfl
theorem Tryz.ta_here_var (v : Value) (w : World) : (Instr.typeAssert (.iface 150 v) 131 137 true).run Tryz.prog w = .ok (.tuple #[.agg #[.string ⟨#[]⟩], .bool false]) w := by kernel_rfl
theorem Tryz.ta_here_here (v : Value) (w : World) : (Instr.typeAssert (.iface 150 v) 131 150 true).run Tryz.prog w = .ok (.tuple #[v, .bool true]) w := by kernel_rfl
theorem Tryz.ta_here_pair (v : Value) (w : World) : (Instr.typeAssert (.iface 150 v) 131 153 true).run Tryz.prog w = .ok (.tuple #[.agg #[.int .i64 0, .int .i64 0, .int .i64 0], .bool false]) w := by kernel_rfl
theorem Tryz.ta_here_not (v : Value) (w : World) : (Instr.typeAssert (.iface 150 v) 131 155 true).run Tryz.prog w = .ok (.tuple #[.agg #[.int .i64 0], .bool false]) w := by kernel_rfl
theorem Tryz.ta_pair_num (v : Value) (w : World) : (Instr.typeAssert (.iface 153 v) 131 149 true).run Tryz.prog w = .ok (.tuple #[.agg #[.int .i64 0], .bool false]) w := by kernel_rfl
theorem Tryz.ta_pair_var (v : Value) (w : World) : (Instr.typeAssert (.iface 153 v) 131 137 true).run Tryz.prog w = .ok (.tuple #[.agg #[.string ⟨#[]⟩], .bool false]) w := by kernel_rfl
theorem Tryz.ta_pair_here (v : Value) (w : World) : (Instr.typeAssert (.iface 153 v) 131 150 true).run Tryz.prog w = .ok (.tuple #[.agg #[], .bool false]) w := by kernel_rfl
theorem Tryz.ta_pair_pair (v : Value) (w : World) : (Instr.typeAssert (.iface 153 v) 131 153 true).run Tryz.prog w = .ok (.tuple #[v, .bool true]) w := by kernel_rfl
theorem Tryz.ta_pair_not (v : Value) (w : World) : (Instr.typeAssert (.iface 153 v) 131 155 true).run Tryz.prog w = .ok (.tuple #[.agg #[.int .i64 0], .bool false]) w := by kernel_rfl
theorem Tryz.ta_not_num (v : Value) (w : World) : (Instr.typeAssert (.iface 155 v) 131 149 true).run Tryz.prog w = .ok (.tuple #[.agg #[.int .i64 0], .bool false]) w := by kernel_rfl
theorem Tryz.ta_not_var (v : Value) (w : World) : (Instr.typeAssert (.iface 155 v) 131 137 true).run Tryz.prog w = .ok (.tuple #[.agg #[.string ⟨#[]⟩], .bool false]) w := by kernel_rfl
theorem Tryz.ta_not_here (v : Value) (w : World) : (Instr.typeAssert (.iface 155 v) 131 150 true).run Tryz.prog w = .ok (.tuple #[.agg #[], .bool false]) w := by kernel_rfl
theorem Tryz.ta_not_pair (v : Value) (w : World) : (Instr.typeAssert (.iface 155 v) 131 153 true).run Tryz.prog w = .ok (.tuple #[.agg #[.int .i64 0, .int .i64 0, .int .i64 0], .bool false]) w := by kernel_rfl
theorem Tryz.ta_not_not (v : Value) (w : World) : (Instr.typeAssert (.iface 155 v) 131 155 true).run Tryz.prog w = .ok (.tuple #[v, .bool true]) w := by kernel_rfl

end Go.Proofs.YtjjdeiclfbcicaaGreatDoor
