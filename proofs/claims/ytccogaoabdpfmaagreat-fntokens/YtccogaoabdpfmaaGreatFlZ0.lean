/- A surface that lies in new memory; l12Flat, as SurfaceOk asks it. -/
import Derived.Test.YtccogaoabdpfmaaGreatFlF
import Derived.Test.YtccogaoabdpfmaaGreatFlY
import Derived.Test.YtccogaoabdpfmaaGreatRdW
namespace Go.Proofs.YtccogaoabdpfmaaGreat
open Go.RowKit
set_option linter.unusedVariables false
theorem rowO_fresh {α : Type} {sz : Nat} {T : TypeId} {E : World → List Value → α → Prop} {B : Nat} {v : Value} {xs : List α} {w : World} (hE : ∀ V : World, w.heap.size ≤ V.heap.size → (∀ k, B ≤ k → k < w.heap.size → V.heap[k]? = w.heap[k]?) → ∀ vs x, E w vs x → E V vs x) (h : RowO sz T E B v xs w) : Fresh B w (fun V => RowO sz T E B v xs V) := fun V h1 h2 => h.world (fun n cs ho => own_fresh ho V h1 h2) (hE V h1 h2)
theorem nodesA_fresh {A : Nat → Prop} {B : Nat} {v : Value} {es : List NodeD} {w : World} (h : NodesA A B v es w) : Fresh B w (fun V => NodesA A B v es V) := rowO_fresh (fun V h1 h2 vs x hx => by
 obtain ⟨kv, e, hz, hk⟩ := hx
 exact ⟨kv, e, own_fresh hz V h1 h2, hk⟩) h
theorem argsA_fresh {A : Nat → Prop} {B : Nat} {v : Value} {es : List (List NodeD)} {w : World} (h : ArgsA A B v es w) : Fresh B w (fun V => ArgsA A B v es V) := rowO_fresh (fun V h1 h2 vs x hx => by
 obtain ⟨nv, e, hn⟩ := hx
 exact ⟨nv, e, nodesA_fresh hn V h1 h2⟩) h
theorem sNodes_fresh {A : Nat → Prop} {B : Nat} {v : Value} {xs : List SNodeD} {w : World} (h : SNodesO A B v xs w) : Fresh B w (fun V => SNodesO A B v xs V) := rowO_fresh (fun V h1 h2 vs x hx => by
 obtain ⟨av, kv, e, ha, hz, hk⟩ := hx
 exact ⟨av, kv, e, argsA_fresh ha V h1 h2, own_fresh hz V h1 h2, hk⟩) h
theorem sRules_fresh {B : Nat} {v : Value} {xs : List SRuleD} {w : World} (h : SRulesO B v xs w) : Fresh B w (fun V => SRulesO B v xs V) := rowO_fresh (fun V h1 h2 vs x hx => by
 obtain ⟨pv, e, hp⟩ := hx
 exact ⟨pv, e, own_fresh hp V h1 h2⟩) h
theorem flatC_of {ns : List SNodeD} {rs : List SRuleD} (hF : FlatOk ns rs) (hg : flatB ns rs = some (flatM ns rs)) : FlatC ns rs := fun hfo B nv rv W hN hR => by
 obtain ⟨an, cn, rfl⟩ := RowO.slice hN
 obtain ⟨ar, cr, rfl⟩ := RowO.slice hR
 refine (flatW_any (fun _ => False) ns rs hF an ar cn cr W (fun k h => h.elim) (Held.of_fresh (Fresh.imp (sNodes_fresh hN) (fun V h => sNs_of h)) (fun k h => h.elim)) (Held.of_fresh (Fresh.imp (sRules_fresh hR) (fun V h => sRs_of h)) (fun k h => h.elim))).mono ?_
 rintro e w' ⟨o, rfl, hH, hb⟩
 obtain ⟨a, c, rfl⟩ := hH.here.slice
 exact ⟨a, _, c, by rw [hg]; rfl, hb⟩
end Go.Proofs.YtccogaoabdpfmaaGreat
