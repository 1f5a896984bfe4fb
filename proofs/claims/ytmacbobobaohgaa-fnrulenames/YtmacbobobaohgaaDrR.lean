/- At the verifier's thirteen texts: ReadSurface and Flatten, as the draws ask them. -/
/- At the verifier's thirteen texts: what FnRuleNames asks of the plain grammars. -/
/- DrawPair, out of contracts on ReadSurface and Flatten. -/
import Derived.Test.YtmacbobobaohgaaFlY
import Derived.Test.YtmacbobobaohgaaRdW
import Derived.Test.YtmacbobobaohgaaDrP
import Derived.Test.YtmacbobobaohgaaFlP
import Derived.Test.YtmacbobobaohgaaGRule
import Derived.Test.YtmacbobobaohgaaFlG2
namespace Go.Proofs.Ytmacbobobaohgaa
open Go.RowKit
set_option linter.unusedVariables false

theorem rowO_fresh {α : Type} {sz : Nat} {T : TypeId} {E : World → List Value → α → Prop} {B : Nat} {v : Value} {xs : List α} {w : World} (hE : ∀ V : World, w.heap.size ≤ V.heap.size → (∀ k, B ≤ k → k < w.heap.size → V.heap[k]? = w.heap[k]?) → ∀ vs x, E w vs x → E V vs x) (h : RowO sz T E B v xs w) : Fresh B w (fun V => RowO sz T E B v xs V) := fun V h1 h2 => h.world (fun n cs ho => own_fresh ho V h1 h2) (hE V h1 h2)
theorem nodesA_fresh {A : Nat → Prop} {B : Nat} {v : Value} {es : List NodeD} {w : World} (h : NodesA A B v es w) : Fresh B w (fun V => NodesA A B v es V) := rowO_fresh (fun V h1 h2 vs x hx => by
  obtain ⟨kv, e, hz, hk⟩ := hx
  exact ⟨kv, e, own_fresh hz V h1 h2, hk⟩) h
theorem argsA_fresh {A : Nat → Prop} {B : Nat} {v : Value} {es : List (List NodeD)} {w : World} (h : ArgsA A B v es w) : Fresh B w (fun V => ArgsA A B v es V) := rowO_fresh (fun V h1 h2 vs x hx => by
  obtain ⟨nv, e, hn⟩ := hx
  exact ⟨nv, e, nodesA_fresh hn V h1 h2⟩) h
theorem sNodes_fresh {A : Nat → Prop} {B : Nat} {v : Value} {xs : List SNodeD} {w : World} (h : SNodesO A B v xs w) : Fresh B w (fun V => SNodesO A B v xs V) := rowO_fresh (fun V h1 h2 vs x hx => by
  obtain ⟨av, kv, e, ha, hz, hk⟩ := hx
  exact ⟨av, kv, e, argsA_fresh ha V h1 h2, own_fresh hz V h1 h2, hk⟩) h
theorem sRules_fresh {B : Nat} {v : Value} {xs : List SRuleD} {w : World} (h : SRulesO B v xs w) : Fresh B w (fun V => SRulesO B v xs V) := rowO_fresh (fun V h1 h2 vs x hx => by
  obtain ⟨pv, e, hp⟩ := hx
  exact ⟨pv, e, own_fresh hp V h1 h2⟩) h
theorem flatC_of {ns : List SNodeD} {rs : List SRuleD} (hF : FlatOk ns rs) (hg : flatB ns rs = some (flatM ns rs)) : FlatC ns rs := fun hfo B nv rv W hN hR => by
  obtain ⟨an, cn, rfl⟩ := RowO.slice hN
  obtain ⟨ar, cr, rfl⟩ := RowO.slice hR
  refine (flatW_any (fun _ => False) ns rs hF an ar cn cr W (fun k h => h.elim) (Held.of_fresh (Fresh.imp (sNodes_fresh hN) (fun V h => sNs_of h)) (fun k h => h.elim)) (Held.of_fresh (Fresh.imp (sRules_fresh hR) (fun V h => sRs_of h)) (fun k h => h.elim))).mono ?_
  rintro e w' ⟨o, rfl, hH, hb⟩
  obtain ⟨a, c, rfl⟩ := hH.here.slice
  exact ⟨a, _, c, by rw [hg]; rfl, hb⟩
noncomputable def all13z : Bool := texts11.all fun s => decide ((cut11 s).1.size ≤ 1048576)
theorem all13z_is : all13z = true := by kernel_rfl
/-- What is asked of the thirteen is so. -/
theorem grC13 {s : ByteArray} (h : s ∈ texts11) : ∃ ns rs, parseB (cut11 s).1 = some (ns, rs) ∧ flatB ns rs = some (flatM ns rs) ∧ GrC (cut11 s).1 (flatM ns rs) := by
  obtain ⟨ns, rs, hp, hI, hfo, hg, hF⟩ := good13y h
  have hsz : (cut11 s).1.size ≤ 1048576 := of_decide_eq_true (List.all_eq_true.1 all13z_is s h)
  have hr : readB (cut11 s).1 = some (ns, rs) := by
    unfold readB
    rw [hp]
    simp only [surfOkB, hfo, hg, Option.isSome_some, Bool.and_self, if_true]
  refine ⟨ns, rs, hp, hg, ns, rs, fun W => ?_, fun A W nv rv hA hH => ?_⟩
  · refine (readSurface_of (cut11 s).1 W hsz (fun ns' rs' hp' B nv rv V hN hR => ?_)).mono ?_
    · rw [hp] at hp'
      cases hp'
      exact surfaceOk_of ns rs (formC_of hI) (flatC_of hF hg) B nv rv V hN hR
    · rintro e w' ⟨nv, rv, rfl, hb, hS⟩
      unfold SurfR at hS
      rw [hr] at hS
      exact ⟨nv, rv, _, rfl, Fresh.and (Fresh.imp (sNodes_fresh hS.1) (fun V h => sNs_of h)) (Fresh.imp (sRules_fresh hS.2) (fun V h => sRs_of h)), hb⟩
  · exact flatten_any A ns rs hI hfo hF nv rv W hA hH

end Go.Proofs.Ytmacbobobaohgaa

namespace Go.Proofs.Ytmacbobobaohgaa
open Go.RowKit
set_option linter.unusedVariables false

def cpB (G : List RuleD) : Bool := decide (0 < G.length) && decide (G.length ≤ 30) && G.all fun r => decide (r.params.length ≤ 20) && decide (0 < r.alts.length) && decide (r.alts.length ≤ 20) && r.alts.all fun a => decide (a.length ≤ 20) && a.all fun s => decide (s.args.length ≤ 20) && s.args.all fun e => decide (e.length ≤ 200) && e.all fun x => decide (x.kids.length ≤ 10)
def none4 : ByteArray := ⟨#[110, 111, 110, 101]⟩
def rnB (G : List RuleD) : Bool := cpB G && G.all (fun r => ruleNameB r.name && decide (r.name.size ≤ 6)) && (List.range G.length).all (fun i => decide (ruleAtI G (G.getD i default).name = (i : Int))) && decide (ruleAtI G none4 = -1)
noncomputable def all13r : Bool := texts11.all fun s => match parseB (cut11 s).1 with | some (ns, rs) => rnB (flatM ns rs) | none => false
theorem all13r_is : all13r = true := by kernel_rfl
theorem hG13 : ∀ s ∈ texts11, ∃ g, rnB g = true ∧ GrC (cut11 s).1 g := fun s h => by
  obtain ⟨ns, rs, hp, hg, hC⟩ := grC13 h
  have := List.all_eq_true.1 all13r_is s h
  rw [hp] at this
  exact ⟨_, this, hC⟩
theorem cp_of {G : List RuleD} (h : cpB G = true) : 0 < G.length ∧ CopyIn G ∧ ∀ r ∈ G, 0 < r.alts.length := by
  unfold cpB at h
  simp only [Bool.and_eq_true, decide_eq_true_eq, List.all_eq_true] at h
  obtain ⟨⟨h0, h1⟩, h2⟩ := h
  refine ⟨h0, ⟨by omega, fun r hr => ?_⟩, fun r hr => (h2 r hr).1.1.2⟩
  obtain ⟨⟨⟨a, b⟩, c⟩, d⟩ := h2 r hr
  refine ⟨by omega, by omega, fun x hx => ⟨by have := (d x hx).1; omega, fun s hs => ?_⟩⟩
  obtain ⟨e, f⟩ := (d x hx).2 s hs
  exact ⟨by omega, fun y hy => ⟨by have := (f y hy).1; omega, fun z hz => by have := (f y hy).2 z hz; omega⟩⟩
theorem rn_of {G : List RuleD} (h : rnB G = true) : cpB G = true ∧ (∀ r ∈ G, ruleNameB r.name = true ∧ r.name.size ≤ 6) ∧ (∀ i (hi : i < G.length), ruleAtI G G[i].name = (i : Int)) ∧ ruleAtI G none4 = -1 := by
  unfold rnB at h
  simp only [Bool.and_eq_true, decide_eq_true_eq, List.all_eq_true] at h
  obtain ⟨⟨⟨h0, h1⟩, h2⟩, h3⟩ := h
  refine ⟨h0, h1, fun i hi => ?_, h3⟩
  have := h2 i (List.mem_range.2 hi)
  rw [List.getD_eq_getElem?_getD, List.getElem?_eq_getElem hi] at this
  exact this

end Go.Proofs.Ytmacbobobaohgaa

namespace Go.Proofs.Ytmacbobobaohgaa
open Go.RowKit
set_option linter.unusedVariables false

set_option maxHeartbeats 1600000 in
set_option maxRecDepth 100000 in
theorem drawPair_of (P : List RuleD → Prop) (hG : ∀ s ∈ texts11, ∃ g, P g ∧ GrC (cut11 s).1 g) (W : World) (v : Value) (n : Nat) (w : World) (hn : n ≤ 1000000000000) (hcode : CodeRow W v n) (hb : Below W.heap.size W w) :
    Calls Try.prog 5 #[v] w fun e w' => ∃ (G : List RuleD) (o : Value) (t : ByteArray), P G ∧ e = .returned (.tuple #[.agg #[o], .string t]) ∧ t.size ≤ 8 ∧ Held (fun k => k < w.heap.size) w' (fun V => RowC 3 RuleE V o G) ∧ Below w.heap.size w w' := by
  have HC : Hid (CodeRow W v n) := hcode
  have HB : Hid (Below W.heap.size W w) := hb
  have HG : Hid (∀ s ∈ texts11, ∃ g, P g ∧ GrC (cut11 s).1 g) := hG
  have ba : Below w.heap.size w (w.alloc (.cells #[.slice none 0 0] 26)) := (Below.refl _ _).alloc (Nat.le_refl _) _
  have HA : Hid (Below w.heap.size w (w.alloc (.cells #[.slice none 0 0] 26))) := ba
  clear hcode hb hG ba
  go_enter Try.func5, Try.ntmps5
  go_wp2_with fail
  refine (new_any W v n _ hn HC.out (HB.out.trans (HA.out.mono HB.out.size))).mono ?_
  rintro e w1 ⟨g, rfl, hc1, hb1, hg⟩
  have H1 : Hid (Cur W v n g w1) := hc1
  have B1 : Hid (Below (w.alloc (.cells #[.slice none 0 0] 26)).heap.size (w.alloc (.cells #[.slice none 0 0] 26)) w1) := hb1
  have hg1 : w.heap.size < g := by simp at hg; omega
  have hs1 : w.heap.size < w1.heap.size := by have := hb1.size; simp at this; omega
  have hgl := hc1.lt
  clear hc1 hb1 hg
  go_wp2_with fail
  refine (pair11_of P HG.out W v n g _ hn HC.out H1.out).mono ?_
  rintro e w2 ⟨G, o, t, hP, rfl, ht, hh, hw2⟩
  obtain ⟨ao, co, rfl⟩ := RowC.slice hh.here
  have HP : Hid (P G) := hP
  have X2 : w2.heap[w.heap.size]? = some (.cells #[.slice none 0 0] 26 (0, 0)) := by
    rw [hw2.2.block _ hs1 (fun e => by have := Option.some.inj e; omega), B1.out.block _ (by simp)]
    exact heap_alloc_new _ _
  have HL : Hid (Held (fun k => k < w.heap.size) (w2.setCell ⟨w.heap.size, 0, none⟩ (.slice ao G.length co)) (fun V => RowC 3 RuleE V (.slice ao G.length co) G)) :=
    (hh.fr (FrA.set (A := fun k => k < w1.heap.size) _ hs1)).away (fun k _ hk => Nat.lt_trans hk hs1)
  have B2 : Hid (Below w.heap.size w (w2.setCell ⟨w.heap.size, 0, none⟩ (.slice ao G.length co))) :=
    ((HA.out.trans (B1.out.mono (by simp))).trans (went_bel hw2 (Nat.le_of_lt hs1) (Nat.le_of_lt hg1))).setCell (Nat.le_refl _) _
  have HZ : Hid ((w2.setCell ⟨w.heap.size, 0, none⟩ (.slice ao G.length co)).cell? ⟨w.heap.size, 0, none⟩ = some (.slice ao G.length co)) := run_cell (j := 0) (setCell_self (j := 0) _ X2) rfl
  have c1 := run_cell (j := 0) X2 rfl
  have f1 := run_frozen (j := 0) X2
  clear hP hh hw2 X2
  go_wp2
  have zz := HZ.out
  refine bodyPost_ret (by simp [results, Try.results5, go_sem, zz]; try rfl) rfl ?_
  exact ⟨G, _, _, HP.out, rfl, ht, HL.out, B2.out⟩

end Go.Proofs.Ytmacbobobaohgaa
