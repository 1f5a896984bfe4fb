/- Of so many named variables there are so many data. -/
import GoSem.ClaimChange
namespace Go.Proofs.YtcnkegkffmcdmaaGreatDoor

theorem vars_len {H : Type} {enc : TypeId × Value → H} {P : Program} {w : World} {sp : Nat → Bool} : ∀ {ns : List String} {gs : List (DataW H)} {ps : List MemPlace}, DataW.TrodVars enc P w sp ns gs ps → gs.length = ns.length
  | [], [], _, _ => rfl
  | [], _ :: _, _, h => h.elim
  | _ :: _, [], _, h => h.elim
  | _ :: ns, _ :: gs, _, h => by
    obtain ⟨g, t, cs, fuel, p, q, _, _, _, _, hr, _⟩ := h
    simp [vars_len hr]

theorem vars_1 {H : Type} {enc : TypeId × Value → H} {P : Program} {w : World} {sp : Nat → Bool} {a : String} {gs : List (DataW H)} {ps : List MemPlace} (h : DataW.TrodVars enc P w sp [a] gs ps) : ∃ g0, gs = [g0] :=
  List.length_eq_one_iff.1 (vars_len h)

theorem vars_2 {H : Type} {enc : TypeId × Value → H} {P : Program} {w : World} {sp : Nat → Bool} {a b : String} {gs : List (DataW H)} {ps : List MemPlace} (h : DataW.TrodVars enc P w sp [a, b] gs ps) : ∃ g0 g1, gs = [g0, g1] := by
  have := vars_len h
  match gs, this with
  | [g0, g1], _ => exact ⟨g0, g1, rfl⟩

end Go.Proofs.YtcnkegkffmcdmaaGreatDoor
