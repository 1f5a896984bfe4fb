/- SameGrammar: the program's. -/
import Derived.Test.YtccbbghlckbihaaGmB
namespace Go.Proofs.Ytccbbghlckbihaa
open Go.RowKit
set_option linter.unusedVariables false

set_option maxHeartbeats 1600000 in
theorem implSameG_any (rv rv' : Value) (x y : List RuleD) (w : World) (hx : grammarTot x ≤ 1048576) (hy : grammarTot y ≤ 1048576) (h0 : RowC 3 RuleE w rv x) (h1 : RowC 3 RuleE w rv' y) :
    Calls Try.prog 7 #[.agg #[rv], .agg #[rv']] w fun e w' => e = .returned (.bool (same x y)) ∧ Below w.heap.size w w' := by
  have R0 : Hid (RowC 3 RuleE w rv x) := h0
  have R1 : Hid (RowC 3 RuleE w rv' y) := h1
  obtain ⟨a0, c0, rfl⟩ := h0.slice
  obtain ⟨a1, c1, rfl⟩ := h1.slice
  clear h0 h1
  have BW : Hid (Below w.heap.size w ((w.alloc (.cells #[.slice a0 x.length c0] 29)).alloc (.cells #[.slice a1 y.length c1] 29))) := ((Below.refl _ _).alloc (Nat.le_refl _) _).alloc (by simp) _
  have e0 : ((w.alloc (.cells #[.slice a0 x.length c0] 29)).alloc (.cells #[.slice a1 y.length c1] 29)).cell? ⟨w.heap.size, 0, none⟩ = some (.slice a0 x.length c0) := box_two _ _ _ _ _ 0 _ rfl
  have e1 : ((w.alloc (.cells #[.slice a0 x.length c0] 29)).alloc (.cells #[.slice a1 y.length c1] 29)).cell? ⟨w.heap.size + 1, 0, none⟩ = some (.slice a1 y.length c1) := box_two' _ _ _ _ _ 0 _ rfl
  have HN : Hid (∀ W, Below w.heap.size w W → _) := fun W hW => eqfRule_any (.slice a0 x.length c0) (.slice a1 y.length c1) x y W hx hy (RowC.below RuleE_stable R0.out hW) (RowC.below RuleE_stable R1.out hW)
  clear hx hy
  go_enter Try.func7, Try.ntmps7
  go_wp2_with (go_at_call 13; refine (HN.out _ BW.out).mono ?_; rintro e w1 ⟨rfl, hb1⟩)
  go_ret
  exact ⟨rfl, BW.out.trans (hb1.mono BW.out.size)⟩

end Go.Proofs.Ytccbbghlckbihaa
