/- Proved: the tied card of the law FnExactReadGrammar: called with any arguments, where the listed package-level variables hold what their initialisers lay, it returns true, and each argument reads behind the call as it read before. The condition: the listed variables start as the program's text lays them (the card ties them). -/
import Derived.Test.YtokidlklkgghkaaGreatDoorE16M
import Derived.Test.YtokidlklkgghkaaGreatDoorVars
import Derived.Test.YtokidlklkgghkaaGreatDoorTie
import Derived.Test.YtokidlklkgghkaaGreatDoorCards
import Derived.OpenShut
import Derived.OpenVars
import Derived.ChangeOld
import Derived.LaidMore
import Derived.Stop.Joined
import Derived.Stop.LaidErr
import Derived.SevenTiedAt
namespace Go.Proofs.YtokidlklkgghkaaGreatDoor
open Go.ChangeShapes Go.WideShapes Go.ChangeAt Go.RowKit
open Go.ChangeMaps (open_string shut_string)
set_option linter.unusedVariables false

theorem fnExactReadGrammar_own : ownKnob Tryz.prog.godebug = none := by kernel_rfl
theorem fnExactReadGrammar_laidOut : laidOutB Tryz.prog = true := by kernel_rfl

theorem fnExactReadGrammar_door (os : Os) (args : Array Value) : laidMetH Tryz.prog Rows.fnExactReadGrammarRow.laid ((World.doorLaid Tryz.prog 21 os).forCall (fun _ _ => 0) ⟨#[], args, []⟩).memory :=
  laidMetH_of_parts3 (fuel := 8) (laidMet_of_run' 8 (by kernel_rfl) (by kernel_rfl)) (by kernel_rfl) (by kernel_rfl)

/-- What the condition gives the walk: what errors.errorType holds, and the program's table. -/
theorem fnExactReadGrammar_of_laid {W : World} (h : laidMetH Tryz.prog Rows.fnExactReadGrammarRow.laid W) : errTy W ∧ Turns W := by
  have h' : laidMet Tryz.prog [("loop.example/g00243/impl.halfTurns", Rows.laid_loop_example_g00243_impl_halfTurns)] W ∧ handlesMet Tryz.prog [("errors.errorType", Rows.laid_errors_errorType)] W := h
  exact ⟨errTy_of h'.2, Lib.tabIs_of_head (n := 16) (show Tryz.prog.globalNamed "loop.example/g00243/impl.halfTurns" = some 0 by kernel_rfl) (show (Tryz.prog.globals[0]?).map (·.type) = some 141 by kernel_rfl) Tryz.underlying141 Tryz.underlying58 (by kernel_rfl) (by kernel_rfl) (zs := turnTab) h'.1⟩

set_option maxRecDepth 100000 in
theorem fnExactReadGrammar_lifted (os : Os) (started : os.Started) (H : Type) (enc : TypeId × Value → H) :
    ReturnsInHanded {} Tryz.checked os 3 .any (fun w args => (Rows.fnExactReadGrammarSpec.pre enc Tryz.prog Tryz.f3 [] false w args ∧ laidMetH Tryz.prog Rows.fnExactReadGrammarRow.laid w) ∧ sizedMet enc Tryz.prog Tryz.f3 (OpenSpec.ofChange Rows.fnExactReadGrammarSpec) false w args)
      (Rows.fnExactReadGrammarSpec.post enc Tryz.prog Tryz.f3 false true false false) := by
  refine returnsInHanded_of_change_and (C := Tryz.checked) (X := fun w _ => laidMetH Tryz.prog Rows.fnExactReadGrammarRow.laid w) (fun _ _ _ hh h => h.of_heap hh) fnExactReadGrammar_own started (by kernel_rfl) Tryz.func3
    (ChangeSpec.witness_shaped (enc := enc) (C := Tryz.checked) (os := os) (X := fun w _ => laidMetH Tryz.prog Rows.fnExactReadGrammarRow.laid w) false (World.doorLaid Tryz.prog 21 os) #[.string ByteArray.empty] 8 rfl (World.shaped_of_RefB (by kernel_rfl) (by kernel_rfl)) (by kernel_rfl) (by kernel_rfl) (by kernel_rfl) (fnExactReadGrammar_door os _)) ?_
  intro W base args ds gs before hval0 hW _ _ hL _
  have hval : ∀ (j : Nat) t v, Tryz.f3.params[j]? = some t → args[j]? = some v → Value.okWide Tryz.prog W .any base t v := hval0
  have hW' := hW
  obtain ⟨p, q, hA0, hV, rfl, hfz, hnd⟩ := hW
  have hA : DataW.TrodAll enc Tryz.prog W 0 (fun _ => true) true Tryz.f3.params.toList args.toList ds p := hA0
  rw [Tryz.params3] at hA hval
  obtain ⟨v0, vs0, d0, ds0, p0, q0, hargs, rfl, rfl, h0, r0⟩ := trodAll_cons hA
  obtain ⟨rfl, rfl, rfl⟩ := trodAll_nil r0
  obtain rfl : args = #[v0] := by cases args; simp_all
  obtain ⟨g0, rfl⟩ : ∃ g0, gs = [g0] := vars_1 hV
  obtain ⟨a0, rfl, rfl, rfl, w0⟩ := open_string Tryz.underlying9 (hval 0 9 v0 rfl rfl) h0
  clear hA0 hval0
  refine (fnExactReadGrammar_walk a0 w0 W (fnExactReadGrammar_of_laid hL)).mono fun e W' ⟨he, bel⟩ => ?_
  subst he
  exact ⟨_, rfl, _, _, _, _, _, _, hW', trodAll_mk1 (shut_bool Tryz.underlying4 _), (trodAll_cons_mk (shut_string Tryz.underlying9 w0) trodAll_mk0), Below.trodVars fnExactReadGrammar_laidOut bel (by kernel_rfl) hV, bel.frame _, fun h => by cases h⟩

theorem fnExactReadGrammar_row : Rows.FnExactReadGrammarSaid :=
  OpenClaim.holds_of_wide 3 Tryz.f3 rfl rfl rfl rfl rfl rfl rfl ⟨rfl, rfl, rfl, rfl, rfl⟩ rfl rfl rfl rfl rfl (by kernel_rfl) Tryz.func3 (by kernel_rfl)
    (of_decide_eq_true (by kernel_rfl)) (by unfold Func.isWrapper; first | (rw [if_pos (by decide +kernel)]; kernel_rfl) | (rw [if_neg (by decide +kernel)]; exact ⟨rfl, rfl⟩))
    (fun os started H enc _ => fnExactReadGrammar_lifted os started H enc)

theorem fnExactReadGrammar_holds : Rows.FnExactReadGrammarCardSaid :=
  Claim7.holds_tied_plain_at .later [] [.handle, .data] true (true, "bdcd00d219ff0209d9853acb16f467b70f1456352a4ca8b3513a098af640c500") true
    fnExactReadGrammar_row (fun _ h => by cases h) (by kernel_rfl) (fun _ h => by cases h) fnExactReadGrammar_row_tie rfl ⟨rfl, rfl⟩ (by kernel_rfl) rfl
    (fun f fn hf hfn => by
      obtain rfl : f = 3 := Option.some.inj ((show Tryz.prog.funcNamed Rows.fnExactReadGrammarRow.func = some 3 by kernel_rfl).symm.trans hf) |>.symm
      obtain rfl : fn = Tryz.f3 := (Option.some.inj (Tryz.func3.symm.trans hfn)).symm
      exact ⟨by kernel_rfl, fun j t ht => by
        rw [Tryz.params3] at ht
        have hm : t ∈ [9] := by simpa using Array.mem_of_getElem? ht
        have hall : ([9].all fun u => !Tryz.prog.wantsStandIn u) = true := by kernel_rfl
        exact (show Tryz.prog.wantsStandIn t = false by simpa using List.all_eq_true.1 hall t hm)⟩)
    (by kernel_rfl)
#print axioms fnExactReadGrammar_holds
end Go.Proofs.YtokidlklkgghkaaGreatDoor
