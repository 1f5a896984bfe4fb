/- FnGrammars, walked whole. -/
/- What the condition on errors.errorType gives a walk: the variable's one cell. -/
import Derived.Test.YtpbicppcehhphaaGreatDoorGrW
import Derived.Test.YtpbicppcehhphaaGreatDoorAyW
import Derived.Test.YtpbicppcehhphaaGreatDoorRows
import Derived.Test.YtpbicppcehhphaaGreatDoorXFault2
import Derived.LaidLaws
import Derived.LaidHandle
namespace Go.Proofs.YtpbicppcehhphaaGreatDoor
open Go.RowKit
theorem fnGrammars_walk (a : Option Addr) (n cap : Nat) (w : World) (hcode : CodeRow w (.slice a n cap) n) (hErr : errTy w) :
  Calls Tryz.prog 3 #[.slice a n cap] w fun e w' => e = .returned (.bool true) ∧ Below w.heap.size w w' :=
 fnGrammars_of (any06_of _ (fun _ hG => cp_of (gr_of hG).1) hG13g) a n cap w hcode hErr
end Go.Proofs.YtpbicppcehhphaaGreatDoor

namespace Go.Proofs.YtpbicppcehhphaaGreatDoor
open Go.RowKit
theorem Tryz.et : Tryz.prog.globalNamed "errors.errorType" = some 1 := by kernel_rfl
theorem Tryz.rt : (Tryz.prog.cutTypes.find? (·.1 == "internal/reflectlite.rtype")).map (·.2) = some 211 := by kernel_rfl
theorem Tryz.oneRow : ((List.range 262).filter fun t => Tryz.prog.rowNamed t [101, 114, 114, 111, 114]) = [153] := by kernel_rfl
theorem Tryz.size : Tryz.prog.types.size = 262 := by kernel_rfl
theorem errTy_of {W : World} (h : handlesMet Tryz.prog [("errors.errorType", Rows.laid_errors_errorType)] W) : errTy W := by
 obtain ⟨name, u, ty, e1, e2, e3, e4, e5⟩ := h _ (List.mem_singleton.2 rfl)
 have en : name = [101, 114, 114, 111, 114] := (Option.some.inj e1).symm
 subst en
 obtain rfl := Option.some.inj (Tryz.rt.symm.trans e2)
 have hm : ty ∈ (List.range 262).filter fun t => Tryz.prog.rowNamed t [101, 114, 114, 111, 114] := List.mem_filter.2 ⟨List.mem_range.2 (by rw [← Tryz.size]; exact e3), e4⟩
 rw [Tryz.oneRow] at hm
 obtain rfl := List.mem_singleton.1 hm
 have hh : typeHandle Tryz.prog 153 = .pointer (some ⟨2, 153, none⟩) := by kernel_rfl
 rw [hh] at e5
 exact World.var?_cell Tryz.et e5 0
end Go.Proofs.YtpbicppcehhphaaGreatDoor
