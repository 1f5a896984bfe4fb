/- A surface that lies in new memory; l12Flat, as SurfaceOk asks it. -/
/- At the verifier's thirteen texts: ReadSurface and Flatten, as the draws ask them. -/
/- At the verifier's thirteen texts: what FnRuleNames asks of the plain grammars. -/
/- At the verifier's thirteen texts: what FnGrammars asks of the plain grammars. -/
/- The law on same grammars, walked. -/
import Derived.Test.YtipkbkhnaekceaaFlF
import Derived.Test.YtipkbkhnaekceaaFlY
import Derived.Test.YtipkbkhnaekceaaRdW
import Derived.Test.YtipkbkhnaekceaaAyO
import Derived.Test.YtipkbkhnaekceaaFlP
import Derived.Test.YtipkbkhnaekceaaGRule
import Derived.Test.YtipkbkhnaekceaaSgW
import Derived.Test.YtipkbkhnaekceaaAyW
namespace Go.Proofs.Ytipkbkhnaekceaa
open Go.RowKit
set_option linter.unusedVariables false

theorem rowO_fresh {α : Type} {sz : Nat} {T : TypeId} {E : World → List Value → α → Prop} {B : Nat} {v : Value} {xs : List α} {w : World} (hE : ∀ V : World, w.heap.size ≤ V.heap.size → (∀ k, B ≤ k → k < w.heap.size → V.heap[k]? = w.heap[k]?) → ∀ vs x, E w vs x → E V vs x) (h : RowO sz T E B v xs w) : Fresh B w (fun V => RowO sz T E B v xs V) := fun V h1 h2 => h.world (fun n cs ho => own_fresh ho V h1 h2) (hE V h1 h2)
theorem nodesA_fresh {A : Nat → Prop} {B : Nat} {v : Value} {es : List NodeD} {w : World} (h : NodesA A B v es w) : Fresh B w (fun V => NodesA A B v es V) := rowO_fresh (fun V h1 h2 vs x hx => by
  obtain ⟨kv, e, hz, hk⟩ := hx
  exact ⟨kv, e, own_fresh hz V h1 h2, hk⟩) h
theorem argsA_fresh {A : Nat → Prop} {B : Nat} {v : Value} {es : List (List NodeD)} {w : World} (h : ArgsA A B v es w) : Fresh B w (fun V => ArgsA A B v es V) := rowO_fresh (fun V h1 h2 vs x hx => by
  obtain ⟨nv, e, hn⟩ := hx
  exact ⟨nv, e, nodesA_fresh hn V h1 h2⟩) h
theorem sNodes_fresh {A : Nat → Prop} {B : Nat} {v : Value} {xs : List SNodeD} {w : World} (h : SNodesO A B v xs w) : Fresh B w (fun V => SNodesO A B v xs V) := rowO_fresh (fun V h1 h2 vs x hx => by
  obtain ⟨av, kv, e, ha, hz, hk⟩ := hx
  exact ⟨av, kv, e, argsA_fresh ha V h1 h2, own_fresh hz V h1 h2, hk⟩) h
theorem sRules_fresh {B : Nat} {v : Value} {xs : List SRuleD} {w : World} (h : SRulesO B v xs w) : Fresh B w (fun V => SRulesO B v xs V) := rowO_fresh (fun V h1 h2 vs x hx => by
  obtain ⟨pv, e, hp⟩ := hx
  exact ⟨pv, e, own_fresh hp V h1 h2⟩) h
theorem flatC_of {ns : List SNodeD} {rs : List SRuleD} (hF : FlatOk ns rs) (hg : flatB ns rs = some (flatM ns rs)) : FlatC ns rs := fun hfo B nv rv W hN hR => by
  obtain ⟨an, cn, rfl⟩ := RowO.slice hN
  obtain ⟨ar, cr, rfl⟩ := RowO.slice hR
  refine (flatW_any (fun _ => False) ns rs hF an ar cn cr W (fun k h => h.elim) (Held.of_fresh (Fresh.imp (sNodes_fresh hN) (fun V h => sNs_of h)) (fun k h => h.elim)) (Held.of_fresh (Fresh.imp (sRules_fresh hR) (fun V h => sRs_of h)) (fun k h => h.elim))).mono ?_
  rintro e w' ⟨o, rfl, hH, hb⟩
  obtain ⟨a, c, rfl⟩ := hH.here.slice
  exact ⟨a, _, c, by rw [hg]; rfl, hb⟩

end Go.Proofs.Ytipkbkhnaekceaa

namespace Go.Proofs.Ytipkbkhnaekceaa
open Go.RowKit
set_option linter.unusedVariables false

noncomputable def all13z : Bool := texts11.all fun s => decide ((cut11 s).1.size ≤ 1048576)
theorem all13z_is : all13z = true := by kernel_rfl
/-- What is asked of the thirteen is so. -/
theorem grC13 {s : ByteArray} (h : s ∈ texts11) : ∃ ns rs, parseB (cut11 s).1 = some (ns, rs) ∧ flatB ns rs = some (flatM ns rs) ∧ GrC (cut11 s).1 (flatM ns rs) := by
  obtain ⟨ns, rs, hp, hI, hfo, hg, hF⟩ := good13y h
  have hsz : (cut11 s).1.size ≤ 1048576 := of_decide_eq_true (List.all_eq_true.1 all13z_is s h)
  have hr : readB (cut11 s).1 = some (ns, rs) := by
    unfold readB
    rw [hp]
    simp only [surfOkB, hfo, hg, Option.isSome_some, Bool.and_self, if_true]
  refine ⟨ns, rs, hp, hg, ns, rs, fun W => ?_, fun A W nv rv hA hH => ?_⟩
  · refine (readSurface_of (cut11 s).1 W hsz (fun ns' rs' hp' B nv rv V hN hR => ?_)).mono ?_
    · rw [hp] at hp'
      cases hp'
      exact surfaceOk_of ns rs (formC_of hI) (flatC_of hF hg) B nv rv V hN hR
    · rintro e w' ⟨nv, rv, rfl, hb, hS⟩
      unfold SurfR at hS
      rw [hr] at hS
      exact ⟨nv, rv, _, rfl, Fresh.and (Fresh.imp (sNodes_fresh hS.1) (fun V h => sNs_of h)) (Fresh.imp (sRules_fresh hS.2) (fun V h => sRs_of h)), hb⟩
  · exact flatten_any A ns rs hI hfo hF nv rv W hA hH

end Go.Proofs.Ytipkbkhnaekceaa

namespace Go.Proofs.Ytipkbkhnaekceaa
open Go.RowKit
set_option linter.unusedVariables false

def cpB (G : List RuleD) : Bool := decide (0 < G.length) && decide (G.length ≤ 30) && G.all fun r => decide (r.params.length ≤ 20) && decide (0 < r.alts.length) && decide (r.alts.length ≤ 20) && r.alts.all fun a => decide (a.length ≤ 20) && a.all fun s => decide (s.args.length ≤ 20) && s.args.all fun e => decide (e.length ≤ 200) && e.all fun x => decide (x.kids.length ≤ 10)
def none4 : ByteArray := ⟨#[110, 111, 110, 101]⟩
theorem cp_of {G : List RuleD} (h : cpB G = true) : 0 < G.length ∧ CopyIn G ∧ ∀ r ∈ G, 0 < r.alts.length := by
  unfold cpB at h
  simp only [Bool.and_eq_true, decide_eq_true_eq, List.all_eq_true] at h
  obtain ⟨⟨h0, h1⟩, h2⟩ := h
  refine ⟨h0, ⟨by omega, fun r hr => ?_⟩, fun r hr => (h2 r hr).1.1.2⟩
  obtain ⟨⟨⟨a, b⟩, c⟩, d⟩ := h2 r hr
  refine ⟨by omega, by omega, fun x hx => ⟨by have := (d x hx).1; omega, fun s hs => ?_⟩⟩
  obtain ⟨e, f⟩ := (d x hx).2 s hs
  exact ⟨by omega, fun y hy => ⟨by have := (f y hy).1; omega, fun z hz => by have := (f y hy).2 z hz; omega⟩⟩

end Go.Proofs.Ytipkbkhnaekceaa

namespace Go.Proofs.Ytipkbkhnaekceaa
open Go.RowKit
set_option linter.unusedVariables false

def moreN : ByteArray := ⟨#[77, 111, 114, 101]⟩
def more1 : RuleD := ⟨moreN, [], [[]]⟩
def more2 : RuleD := ⟨moreN, [], [[⟨3, none4, [], em⟩]]⟩
def grB (G : List RuleD) : Bool := cpB G && decide (grammarTot G ≤ 100000) && decide (GrammarIn G) && gramB G && gramB (G ++ [more1]) && !gramB (G ++ [G.getD 0 default]) && !gramB (G ++ [more2])
noncomputable def all13g : Bool := texts11.all fun s => match parseB (cut11 s).1 with | some (ns, rs) => grB (flatM ns rs) | none => false
theorem all13g_is : all13g = true := by kernel_rfl
theorem hG13g : ∀ s ∈ texts11, ∃ g, grB g = true ∧ GrC (cut11 s).1 g := fun s h => by
  obtain ⟨ns, rs, hp, hg, hC⟩ := grC13 h
  have := List.all_eq_true.1 all13g_is s h
  rw [hp] at this
  exact ⟨_, this, hC⟩
theorem gr_of {G : List RuleD} (h : grB G = true) : cpB G = true ∧ grammarTot G ≤ 100000 ∧ GrammarIn G ∧ gramB G = true ∧ gramB (G ++ [more1]) = true ∧ (∀ h0 : 0 < G.length, gramB (G ++ [G[0]]) = false) ∧ gramB (G ++ [more2]) = false := by
  unfold grB at h
  simp only [Bool.and_eq_true, decide_eq_true_eq, Bool.not_eq_true'] at h
  obtain ⟨⟨⟨⟨⟨⟨h0, h1⟩, h2⟩, h3⟩, h4⟩, h5⟩, h6⟩ := h
  refine ⟨h0, h1, h2, h3, h4, fun hl => ?_, h6⟩
  rwa [List.getD_eq_getElem?_getD, List.getElem?_eq_getElem hl] at h5

end Go.Proofs.Ytipkbkhnaekceaa

namespace Go.Proofs.Ytipkbkhnaekceaa
open Go.RowKit

theorem fnSameGrammars_walk (a : Option Addr) (n cap : Nat) (w : World) (hcode : CodeRow w (.slice a n cap) n) :
    Calls Try.prog 3 #[.slice a n cap] w fun e w' => e = .returned (.bool true) ∧ Below w.heap.size w w' :=
  fnSameGrammars_of _ (fun _ hG => ⟨(gr_of hG).2.1, (gr_of hG).2.2.1⟩) (any06_of _ (fun _ hG => cp_of (gr_of hG).1) hG13g) a n cap w hcode

end Go.Proofs.Ytipkbkhnaekceaa
