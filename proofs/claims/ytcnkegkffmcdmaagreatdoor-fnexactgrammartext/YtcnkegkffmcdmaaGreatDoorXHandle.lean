/- The exact law on GrammarText, walked (the code as mended at b9bd698). -/
/- What the condition on errors.errorType gives a walk: the variable's one cell. -/
import Derived.Test.YtcnkegkffmcdmaaGreatDoorE16H
import Derived.Test.YtcnkegkffmcdmaaGreatDoorGOpen
import Derived.Test.YtcnkegkffmcdmaaGreatDoorRows
import Derived.Test.YtcnkegkffmcdmaaGreatDoorXFault2
import Derived.LaidLaws
import Derived.LaidHandle
namespace Go.Proofs.YtcnkegkffmcdmaaGreatDoor
open Go.RowKit

theorem fnExactGrammarText_walk (v : Value) (xs : List RuleD) (w : World) (h : RowC 3 RuleE w v xs) (hin : GrammarIn xs) (hg : errTy w ∧ Turns w) :
    Calls Tryz.prog 3 #[.agg #[v]] w fun e w' => e = .returned (.bool true) ∧ Below w.heap.size w w' :=
  fnExactGrammarText_of v xs w (fun v W hb hz hn hv => implGrammarText_any v xs W (hg.1.below hb) (tab_below hg.2 hb) hz hn hv) h hin

end Go.Proofs.YtcnkegkffmcdmaaGreatDoor

namespace Go.Proofs.YtcnkegkffmcdmaaGreatDoor
open Go.RowKit
theorem Tryz.et : Tryz.prog.globalNamed "errors.errorType" = some 2 := by kernel_rfl
theorem Tryz.rt : (Tryz.prog.cutTypes.find? (·.1 == "internal/reflectlite.rtype")).map (·.2) = some 218 := by kernel_rfl
theorem Tryz.oneRow : ((List.range 273).filter fun t => Tryz.prog.rowNamed t [101, 114, 114, 111, 114]) = [153] := by kernel_rfl
theorem Tryz.size : Tryz.prog.types.size = 273 := by kernel_rfl
theorem errTy_of {W : World} (h : handlesMet Tryz.prog [("errors.errorType", Rows.laid_errors_errorType)] W) : errTy W := by
  obtain ⟨name, u, ty, e1, e2, e3, e4, e5⟩ := h _ (List.mem_singleton.2 rfl)
  have en : name = [101, 114, 114, 111, 114] := (Option.some.inj e1).symm
  subst en
  obtain rfl := Option.some.inj (Tryz.rt.symm.trans e2)
  have hm : ty ∈ (List.range 273).filter fun t => Tryz.prog.rowNamed t [101, 114, 114, 111, 114] := List.mem_filter.2 ⟨List.mem_range.2 (by rw [← Tryz.size]; exact e3), e4⟩
  rw [Tryz.oneRow] at hm
  obtain rfl := List.mem_singleton.1 hm
  have hh : typeHandle Tryz.prog 153 = .pointer (some ⟨3, 153, none⟩) := by kernel_rfl
  rw [hh] at e5
  exact World.var?_cell Tryz.et e5 0
end Go.Proofs.YtcnkegkffmcdmaaGreatDoor
