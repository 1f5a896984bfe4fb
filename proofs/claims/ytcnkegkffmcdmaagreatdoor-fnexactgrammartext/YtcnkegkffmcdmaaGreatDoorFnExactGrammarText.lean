/- Proved: the tied card of the law FnExactGrammarText: called with any arguments, where the listed package-level variables hold what their initialisers lay, it returns true, and each argument reads behind the call as it read before. The condition: the listed variables start as the program's text lays them (the card ties them). -/
import Derived.Test.YtcnkegkffmcdmaaGreatDoorXHandle
import Derived.Test.YtcnkegkffmcdmaaGreatDoorTie
import Derived.Test.YtcnkegkffmcdmaaGreatDoorCards
import Derived.Test.YtcnkegkffmcdmaaGreatDoorVars
import Derived.OpenShut
import Derived.OpenVars
import Derived.ChangeOld
import Derived.LaidMore
import Derived.Stop.Joined
import Derived.Stop.LaidErr
import Derived.SevenTiedAt
namespace Go.Proofs.YtcnkegkffmcdmaaGreatDoor
open Go.ChangeShapes Go.WideShapes Go.ChangeAt Go.RowKit
open Go.ChangeMaps (open_string shut_string)
set_option linter.unusedVariables false

theorem fnExactGrammarText_own : ownKnob Tryz.prog.godebug = none := by kernel_rfl
theorem fnExactGrammarText_laidOut : laidOutB Tryz.prog = true := by kernel_rfl

theorem fnExactGrammarText_door (os : Os) (args : Array Value) : laidMetH Tryz.prog Rows.fnExactGrammarTextRow.laid ((World.doorLaid Tryz.prog 21 os).forCall (fun _ _ => 0) ⟨#[], args, []⟩).memory :=
  laidMetH_of_parts3 (fuel := 8) (laidMet_of_run' 8 (by kernel_rfl) (by kernel_rfl)) (by kernel_rfl) (by kernel_rfl)

/-- What the condition gives the walk: what errors.errorType holds, and the program's table. -/
theorem fnExactGrammarText_of_laid {W : World} (h : laidMetH Tryz.prog Rows.fnExactGrammarTextRow.laid W) : errTy W ∧ Turns W := by
  have h' : laidMet Tryz.prog [("loop.example/g00243/impl.halfTurns", Rows.laid_loop_example_g00243_impl_halfTurns)] W ∧ handlesMet Tryz.prog [("errors.errorType", Rows.laid_errors_errorType)] W := h
  exact ⟨errTy_of h'.2, Lib.tabIs_of_head (n := 16) (show Tryz.prog.globalNamed "loop.example/g00243/impl.halfTurns" = some 0 by kernel_rfl) (show (Tryz.prog.globals[0]?).map (·.type) = some 144 by kernel_rfl) Tryz.underlying144 Tryz.underlying73 (by kernel_rfl) (by kernel_rfl) (zs := turnTab) h'.1⟩

set_option maxRecDepth 100000 in
theorem fnExactGrammarText_lifted (os : Os) (started : os.Started) (H : Type) (enc : TypeId × Value → H) :
    ReturnsInHanded {} Tryz.checked os 3 .any (fun w args => (Rows.fnExactGrammarTextSpec.pre enc Tryz.prog Tryz.f3 [] false w args ∧ laidMetH Tryz.prog Rows.fnExactGrammarTextRow.laid w) ∧ sizedMet enc Tryz.prog Tryz.f3 (OpenSpec.ofChange Rows.fnExactGrammarTextSpec) false w args)
      (Rows.fnExactGrammarTextSpec.post enc Tryz.prog Tryz.f3 false true false false) := by
  refine returnsInHanded_of_change_and (C := Tryz.checked) (X := fun w _ => laidMetH Tryz.prog Rows.fnExactGrammarTextRow.laid w) (fun _ _ _ hh h => h.of_heap hh) fnExactGrammarText_own started (by kernel_rfl) Tryz.func3
    (ChangeSpec.witness_shaped (enc := enc) (C := Tryz.checked) (os := os) (X := fun w _ => laidMetH Tryz.prog Rows.fnExactGrammarTextRow.laid w) false (World.doorLaid Tryz.prog 21 os) #[.agg #[.slice none 0 0]] 8 rfl (World.shaped_of_RefB (by kernel_rfl) (by kernel_rfl)) (by kernel_rfl) (by kernel_rfl) (by kernel_rfl) (fnExactGrammarText_door os _)) ?_
  intro W base args ds gs before hval0 hW _ _ hL _
  have hval : ∀ (j : Nat) t v, Tryz.f3.params[j]? = some t → args[j]? = some v → Value.okWide Tryz.prog W .any base t v := hval0
  have hW' := hW
  obtain ⟨p, q, hA0, hV, rfl, hfz, hnd⟩ := hW
  have hA : DataW.TrodAll enc Tryz.prog W 0 (fun _ => true) true Tryz.f3.params.toList args.toList ds p := hA0
  rw [Tryz.params3] at hA hval
  obtain ⟨v0, vs0, d0, ds0, p0, q0, hargs, rfl, rfl, h0, r0⟩ := trodAll_cons hA
  obtain ⟨rfl, rfl, rfl⟩ := trodAll_nil r0
  obtain rfl : args = #[v0] := by cases args; simp_all
  obtain ⟨g0, rfl⟩ : ∃ g0, gs = [g0] := vars_1 hV
  have k0 := h0
  have lt0 : ∀ x ∈ p0, x.block < W.heap.size := by obtain ⟨m, hm⟩ := k0; exact DataW.trod_lt m _ _ _ hm
  obtain ⟨a0, xs0, rfl, w0, i0⟩ := gramArg_of (hval 0 24 v0 rfl rfl) h0
  clear hA0 hval0
  refine (fnExactGrammarText_walk a0 xs0 W w0 i0 (fnExactGrammarText_of_laid hL)).mono fun e W' ⟨he, bel⟩ => ?_
  subst he
  exact ⟨_, rfl, _, _, _, _, _, _, hW', trodAll_mk1 (shut_bool Tryz.underlying4 _), (trodAll_cons_mk (Below.trod fnExactGrammarText_laidOut (by kernel_rfl) (of_decide_eq_true (by kernel_rfl)) k0 bel lt0) trodAll_mk0), Below.trodVars fnExactGrammarText_laidOut bel (by kernel_rfl) hV, bel.frame _, fun h => by cases h⟩

theorem fnExactGrammarText_row : Rows.FnExactGrammarTextSaid :=
  OpenClaim.holds_of_wide 3 Tryz.f3 rfl rfl rfl rfl rfl rfl rfl ⟨rfl, rfl, rfl, rfl, rfl⟩ rfl rfl rfl rfl rfl (by kernel_rfl) Tryz.func3 (by kernel_rfl)
    (of_decide_eq_true (by kernel_rfl)) (by unfold Func.isWrapper; first | (rw [if_pos (by decide +kernel)]; kernel_rfl) | (rw [if_neg (by decide +kernel)]; exact ⟨rfl, rfl⟩))
    (fun os started H enc _ => fnExactGrammarText_lifted os started H enc)

theorem fnExactGrammarText_holds : Rows.FnExactGrammarTextCardSaid :=
  Claim7.holds_tied_plain_at .later [] [.handle, .data] true (true, "9d1ec678950b388a59544ce46922dc8502be1512147cd022f626811f30546929") true
    fnExactGrammarText_row (fun _ h => by cases h) (by kernel_rfl) (fun _ h => by cases h) fnExactGrammarText_row_tie rfl ⟨rfl, rfl⟩ (by kernel_rfl) rfl
    (fun f fn hf hfn => by
      obtain rfl : f = 3 := Option.some.inj ((show Tryz.prog.funcNamed Rows.fnExactGrammarTextRow.func = some 3 by kernel_rfl).symm.trans hf) |>.symm
      obtain rfl : fn = Tryz.f3 := (Option.some.inj (Tryz.func3.symm.trans hfn)).symm
      exact ⟨by kernel_rfl, fun j t ht => by
        rw [Tryz.params3] at ht
        have hm : t ∈ [24] := by simpa using Array.mem_of_getElem? ht
        have hall : ([24].all fun u => !Tryz.prog.wantsStandIn u) = true := by kernel_rfl
        exact (show Tryz.prog.wantsStandIn t = false by simpa using List.all_eq_true.1 hall t hm)⟩)
    (by kernel_rfl)
#print axioms fnExactGrammarText_holds
end Go.Proofs.YtcnkegkffmcdmaaGreatDoor
