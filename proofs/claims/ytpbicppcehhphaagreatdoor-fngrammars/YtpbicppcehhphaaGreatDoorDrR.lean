/- A surface that lies in new memory; l12Flat, as SurfaceOk asks it. -/
/- At the verifier's thirteen texts: ReadSurface and Flatten, as the draws ask them. -/
/- At the verifier's thirteen texts: what FnRuleNames asks of the plain grammars. -/
/- At the verifier's thirteen texts: what FnGrammars asks of the plain grammars. -/
/- A whole list of rules appended to one that the call has made. -/
/- One rule more behind a list that the call has made, and a box that is written behind it. -/
/- A drawn grammar, turned in one place: how great it is. -/
/- DrawPair, out of contracts on ReadSurface and Flatten. -/
import Derived.Test.YtpbicppcehhphaaGreatDoorFlF
import Derived.Test.YtpbicppcehhphaaGreatDoorFlY
import Derived.Test.YtpbicppcehhphaaGreatDoorRdW
import Derived.Test.YtpbicppcehhphaaGreatDoorDrP
import Derived.Test.YtpbicppcehhphaaGreatDoorFlP
import Derived.Test.YtpbicppcehhphaaGreatDoorGRule
import Derived.Test.YtpbicppcehhphaaGreatDoorDec
namespace Go.Proofs.YtpbicppcehhphaaGreatDoor
open Go.RowKit
set_option linter.unusedVariables false
theorem rowO_fresh {α : Type} {sz : Nat} {T : TypeId} {E : World → List Value → α → Prop} {B : Nat} {v : Value} {xs : List α} {w : World} (hE : ∀ V : World, w.heap.size ≤ V.heap.size → (∀ k, B ≤ k → k < w.heap.size → V.heap[k]? = w.heap[k]?) → ∀ vs x, E w vs x → E V vs x) (h : RowO sz T E B v xs w) : Fresh B w (fun V => RowO sz T E B v xs V) := fun V h1 h2 => h.world (fun n cs ho => own_fresh ho V h1 h2) (hE V h1 h2)
theorem nodesA_fresh {A : Nat → Prop} {B : Nat} {v : Value} {es : List NodeD} {w : World} (h : NodesA A B v es w) : Fresh B w (fun V => NodesA A B v es V) := rowO_fresh (fun V h1 h2 vs x hx => by
 obtain ⟨kv, e, hz, hk⟩ := hx
 exact ⟨kv, e, own_fresh hz V h1 h2, hk⟩) h
theorem argsA_fresh {A : Nat → Prop} {B : Nat} {v : Value} {es : List (List NodeD)} {w : World} (h : ArgsA A B v es w) : Fresh B w (fun V => ArgsA A B v es V) := rowO_fresh (fun V h1 h2 vs x hx => by
 obtain ⟨nv, e, hn⟩ := hx
 exact ⟨nv, e, nodesA_fresh hn V h1 h2⟩) h
theorem sNodes_fresh {A : Nat → Prop} {B : Nat} {v : Value} {xs : List SNodeD} {w : World} (h : SNodesO A B v xs w) : Fresh B w (fun V => SNodesO A B v xs V) := rowO_fresh (fun V h1 h2 vs x hx => by
 obtain ⟨av, kv, e, ha, hz, hk⟩ := hx
 exact ⟨av, kv, e, argsA_fresh ha V h1 h2, own_fresh hz V h1 h2, hk⟩) h
theorem sRules_fresh {B : Nat} {v : Value} {xs : List SRuleD} {w : World} (h : SRulesO B v xs w) : Fresh B w (fun V => SRulesO B v xs V) := rowO_fresh (fun V h1 h2 vs x hx => by
 obtain ⟨pv, e, hp⟩ := hx
 exact ⟨pv, e, own_fresh hp V h1 h2⟩) h
theorem flatC_of {ns : List SNodeD} {rs : List SRuleD} (hF : FlatOk ns rs) (hg : flatB ns rs = some (flatM ns rs)) : FlatC ns rs := fun hfo B nv rv W hN hR => by
 obtain ⟨an, cn, rfl⟩ := RowO.slice hN
 obtain ⟨ar, cr, rfl⟩ := RowO.slice hR
 refine (flatW_any (fun _ => False) ns rs hF an ar cn cr W (fun k h => h.elim) (Held.of_fresh (Fresh.imp (sNodes_fresh hN) (fun V h => sNs_of h)) (fun k h => h.elim)) (Held.of_fresh (Fresh.imp (sRules_fresh hR) (fun V h => sRs_of h)) (fun k h => h.elim))).mono ?_
 rintro e w' ⟨o, rfl, hH, hb⟩
 obtain ⟨a, c, rfl⟩ := hH.here.slice
 exact ⟨a, _, c, by rw [hg]; rfl, hb⟩
end Go.Proofs.YtpbicppcehhphaaGreatDoor

namespace Go.Proofs.YtpbicppcehhphaaGreatDoor
open Go.RowKit
set_option linter.unusedVariables false
noncomputable def all13z : Bool := texts11.all fun s => decide ((cut11 s).1.size ≤ 1048576)
theorem all13z_is : all13z = true := by kernel_rfl
theorem grC13 {s : ByteArray} (h : s ∈ texts11) : ∃ ns rs, parseB (cut11 s).1 = some (ns, rs) ∧ flatB ns rs = some (flatM ns rs) ∧ GrC (cut11 s).1 (flatM ns rs) := by
 obtain ⟨ns, rs, hp, hI, hfo, hg, hF⟩ := good13y h
 have hsz : (cut11 s).1.size ≤ 1048576 := of_decide_eq_true (List.all_eq_true.1 all13z_is s h)
 have hr : readB (cut11 s).1 = some (ns, rs) := by
  unfold readB
  rw [hp]
  simp only [surfOkB, hfo, hg, Option.isSome_some, Bool.and_self, if_true]
 refine ⟨ns, rs, hp, hg, ns, rs, fun W => ?_, fun A W nv rv hA hH => ?_⟩
 ·refine (readSurface_of (cut11 s).1 W hsz (fun ns' rs' hp' B nv rv V hN hR => ?_)).mono ?_
  ·rw [hp] at hp'
   cases hp'
   exact surfaceOk_of ns rs (formC_of hI) (flatC_of hF hg) B nv rv V hN hR
  ·rintro e w' ⟨nv, rv, rfl, hb, hS⟩
   unfold SurfR at hS
   rw [hr] at hS
   exact ⟨nv, rv, _, rfl, Fresh.and (Fresh.imp (sNodes_fresh hS.1) (fun V h => sNs_of h)) (Fresh.imp (sRules_fresh hS.2) (fun V h => sRs_of h)), hb⟩
 ·exact flatten_any A ns rs hI hfo hF nv rv W hA hH
end Go.Proofs.YtpbicppcehhphaaGreatDoor

namespace Go.Proofs.YtpbicppcehhphaaGreatDoor
open Go.RowKit
set_option linter.unusedVariables false
def cpB (G : List RuleD) : Bool := decide (0 < G.length) && decide (G.length ≤ 30) && G.all fun r => decide (r.params.length ≤ 20) && decide (0 < r.alts.length) && decide (r.alts.length ≤ 20) && r.alts.all fun a => decide (a.length ≤ 20) && a.all fun s => decide (s.args.length ≤ 20) && s.args.all fun e => decide (e.length ≤ 200) && e.all fun x => decide (x.kids.length ≤ 10)
def none4 : ByteArray := ⟨#[110, 111, 110, 101]⟩
theorem cp_of {G : List RuleD} (h : cpB G = true) : 0 < G.length ∧ CopyIn G ∧ ∀ r ∈ G, 0 < r.alts.length := by
 unfold cpB at h
 simp only [Bool.and_eq_true, decide_eq_true_eq, List.all_eq_true] at h
 obtain ⟨⟨h0, h1⟩, h2⟩ := h
 refine ⟨h0, ⟨by omega, fun r hr => ?_⟩, fun r hr => (h2 r hr).1.1.2⟩
 obtain ⟨⟨⟨a, b⟩, c⟩, d⟩ := h2 r hr
 refine ⟨by omega, by omega, fun x hx => ⟨by have := (d x hx).1; omega, fun s hs => ?_⟩⟩
 obtain ⟨e, f⟩ := (d x hx).2 s hs
 exact ⟨by omega, fun y hy => ⟨by have := (f y hy).1; omega, fun z hz => by have := (f y hy).2 z hz; omega⟩⟩
end Go.Proofs.YtpbicppcehhphaaGreatDoor

namespace Go.Proofs.YtpbicppcehhphaaGreatDoor
open Go.RowKit
set_option linter.unusedVariables false
def moreN : ByteArray := ⟨#[77, 111, 114, 101]⟩
def more1 : RuleD := ⟨moreN, [], [[]]⟩
def more2 : RuleD := ⟨moreN, [], [[⟨3, none4, [], em⟩]]⟩
def grB (G : List RuleD) : Bool := cpB G && decide (grammarTot G ≤ 100000) && decide (GrammarIn G) && gramB G && gramB (G ++ [more1]) && !gramB (G ++ [G.getD 0 default]) && !gramB (G ++ [more2])
noncomputable def all13g : Bool := texts11.all fun s => match parseB (cut11 s).1 with | some (ns, rs) => grB (flatM ns rs) | none => false
theorem all13g_is : all13g = true := by kernel_rfl
theorem hG13g : ∀ s ∈ texts11, ∃ g, grB g = true ∧ GrC (cut11 s).1 g := fun s h => by
 obtain ⟨ns, rs, hp, hg, hC⟩ := grC13 h
 have := List.all_eq_true.1 all13g_is s h
 rw [hp] at this
 exact ⟨_, this, hC⟩
theorem gr_none : gramB [] = false := by kernel_rfl
theorem gr_of {G : List RuleD} (h : grB G = true) : cpB G = true ∧ grammarTot G ≤ 100000 ∧ GrammarIn G ∧ gramB G = true ∧ gramB (G ++ [more1]) = true ∧ (∀ h0 : 0 < G.length, gramB (G ++ [G[0]]) = false) ∧ gramB (G ++ [more2]) = false := by
 unfold grB at h
 simp only [Bool.and_eq_true, decide_eq_true_eq, Bool.not_eq_true'] at h
 obtain ⟨⟨⟨⟨⟨⟨h0, h1⟩, h2⟩, h3⟩, h4⟩, h5⟩, h6⟩ := h
 refine ⟨h0, h1, h2, h3, h4, fun hl => ?_, h6⟩
 rwa [List.getD_eq_getElem?_getD, List.getElem?_eq_getElem hl] at h5
end Go.Proofs.YtpbicppcehhphaaGreatDoor

namespace Go.Proofs.YtpbicppcehhphaaGreatDoor
open Go.RowKit
set_option linter.unusedVariables false
theorem flat3_len : ∀ (vss : List (List Value)), (∀ vs ∈ vss, vs.length = 3) → vss.flatten.length = vss.length * 3
 | [], _ => rfl
 | y :: ys, h => by rw [List.flatten_cons, List.length_append, flat3_len ys (fun v hv => h v (by simp [hv])), h y (by simp), List.length_cons, Nat.succ_mul]; omega
theorem rowC_cells {w : World} {a : Option Addr} {n cap : Nat} {xs : List RuleD} (h : RowC 3 RuleE w (.slice a n cap) xs) (h0 : 0 < xs.length) :
  ∃ (b off : Nat) (vss : List (List Value)), a = some ⟨b, off, none⟩ ∧ vss.length = xs.length ∧ (∀ vs ∈ vss, vs.length = 3) ∧ (∀ j u, vss.flatten[j]? = some u → w.cell? ((⟨b, off, none⟩ : Addr).add j) = some u) ∧ (∀ u ∈ vss.flatten, u.oneCell' = true) ∧ ∀ i (h : i < vss.length) (h' : i < xs.length), RuleE w vss[i] xs[i] := by
 obtain ⟨a', cap', e, _, hh⟩ := h
 cases e
 obtain ⟨b, off, rfl, _, hc⟩ := hh h0
 have key : ∀ m, m ≤ xs.length → ∃ vss : List (List Value), vss.length = m ∧ (∀ vs ∈ vss, vs.length = 3) ∧ (∀ j u, vss.flatten[j]? = some u → w.cell? ⟨b, off + j, none⟩ = some u) ∧ (∀ u ∈ vss.flatten, u.oneCell' = true) ∧ ∀ i (h : i < vss.length) (h' : i < xs.length), RuleE w vss[i] xs[i] := by
  intro m
  induction m with
  | zero => exact fun _ => ⟨[], rfl, fun _ h => (by cases h), fun j u h => (by simp at h), fun u h => (by simp at h), fun i h => by simp at h⟩
  | succ m ih =>
   intro hm
   obtain ⟨vss, h1, h2, h3, h4, h5⟩ := ih (by omega)
   obtain ⟨vs, k1, k2, k3⟩ := hc m (by omega)
   have hfl : vss.flatten.length = m * 3 := by rw [flat3_len vss h2, h1]
   refine ⟨vss ++ [vs], by simp [h1], fun v hv => ?_, fun j u hu => ?_, fun u hu => ?_, fun i hi hi' => ?_⟩
   ·rcases List.mem_append.1 hv with hv | hv
    ·exact h2 v hv
    ·rw [List.mem_singleton.1 hv]; exact k1
   ·rw [List.flatten_append] at hu
    by_cases hj : j < vss.flatten.length
    ·rw [List.getElem?_append_left hj] at hu
     exact h3 j u hu
    ·rw [List.getElem?_append_right (by omega), hfl] at hu
     simp only [List.flatten_cons, List.flatten_nil, List.append_nil] at hu
     obtain ⟨hlt, he⟩ := List.getElem?_eq_some_iff.1 hu
     have := k2 (j - m * 3) hlt
     rw [he, show off + m * 3 + (j - m * 3) = off + j by omega] at this
     exact this
   ·rw [List.flatten_append] at hu
    rcases List.mem_append.1 hu with hu | hu
    ·exact h4 u hu
    ·simp only [List.flatten_cons, List.flatten_nil, List.append_nil] at hu
     obtain ⟨r0, r1, rfl, hr0, hr1⟩ := k3
     obtain ⟨a0, c0, rfl⟩ := hr0.slice
     obtain ⟨a1, c1, rfl⟩ := hr1.slice
     simp only [List.mem_cons, List.not_mem_nil, or_false] at hu
     rcases hu with rfl | rfl | rfl <;> rfl
   ·by_cases hlt : i < vss.length
    ·rw [List.getElem_append_left hlt]
     exact h5 i hlt hi'
    ·have e : i = m := by simp at hi; omega
     subst e
     rw [List.getElem_append_right (by omega)]
     simp only [h1, Nat.sub_self, List.getElem_cons_zero]
     exact k3
 obtain ⟨vss, h1, h2, h3, h4, h5⟩ := key xs.length (Nat.le_refl _)
 exact ⟨b, off, vss, rfl, h1, h2, fun j u hu => by rw [Addr.add_lit]; exact h3 j u hu, h4, h5⟩
theorem held_low3 {A : Nat → Prop} {w : World} {b off n cap : Nat} {xs : List RuleD} (h : Held A w (fun V => RowC 3 RuleE V (.slice (some ⟨b, off, none⟩) n cap) xs)) (h0 : 0 < xs.length) (hb : b < w.heap.size) : ¬ A b := fun hA => by
 obtain ⟨b', off', vs, e, hl, hc, _⟩ := (h (putW w b (.stringIter ⟨#[]⟩ 0)) (by rw [putW_size]; exact Nat.le_refl _) (fun k hk hn => putW_other w _ (fun e => hn (e ▸ hA)))).at h0
 cases e
 have := hc 0 (by omega)
 unfold World.cell? at this
 rw [show (putW w b (.stringIter ⟨#[]⟩ 0)).heap[b]? = some (.stringIter ⟨#[]⟩ 0) from putW_self w _ hb] at this
 simp at this
theorem append_rulesF {P : Program} {w : World} {ops : Array Oper} {rest : List Oper} {o : Oper} {a : Act} {Q : Exit → Act → World → Prop} (hgd : o.guard = none) (s x : Operand) (t : TypeId)
  (ho : o.op = .call { callee := .builtin .append, args := #[s, x], argTypes := #[t, t] })
  (base g0 : Nat) (i : TypeInfo) (z : Value) (ht : P.underlying t = some (.slice 36)) (hi : P.info? 36 = some i) (hz : i.zero = some z)
  (hsize : i.size = 3) (hby : i.bytes = 64) (hzs : z.cells.size = 3)
  (hs : a.eval s = .slice (some ⟨g0, 0, none⟩) 0 0) (hg0 : w.heap[g0]? = some (.cells #[] 36 (0, 0))) (hb0 : base ≤ g0) (xs : List RuleD) (pa : Option Addr) (c : Nat) (hx : a.eval x = .slice pa xs.length c) (A : Nat → Prop) (hA : A g0) (hp : Held A w (fun V => RowC 3 RuleE V (.slice pa xs.length c) xs)) (h0 : 0 < xs.length)
  (hl : xs.length ≤ 1048576)
  (h : ∀ g cap w', RowH 3 36 RuleE A base (.slice (some ⟨g, 0, none⟩) xs.length cap) xs w' → w.grownBy w' (some g0) → (g = g0 ∨ g = w.heap.size) → wpList P ops Q rest (a.put o.dst (.slice (some ⟨g, 0, none⟩) xs.length cap)) w') : wpList P ops Q (o :: rest) a w := by
 obtain ⟨b, off, vss, rfl, h1, h2, h3, h4, h5⟩ := rowC_cells hp.here h0
 have hgl : g0 < w.heap.size := (Array.getElem?_eq_some_iff.1 hg0).1
 have hbl : b < w.heap.size := by
  have h6 : vss[0].length = 3 := h2 _ (List.getElem_mem (by omega))
  have h7 := h3 (0 * 3 + 0) _ (flat_at 3 vss h2 0 0 (by omega) (by omega))
  rw [Addr.add_lit] at h7
  exact World.block_lt_of_cell? w _ h7
 have hnb : ¬ A b := held_low3 hp h0 hbl
 have hown : w.ownsRow base 36 3 (.slice (some ⟨g0, 0, none⟩) 0 0) 0 [] := ⟨rfl, .inr ⟨g0, 0, #[], rfl, hb0, hg0, Nat.le_refl _, Nat.zero_le _, rfl, rfl⟩⟩
 refine wpList_append_lies w hgd s x t ho base 36 i z 3 64 ht hi hz hsize hby hzs (by decide) _ 0 [] hs hown ⟨b, off, none⟩ xs.length c vss.flatten hx (by rw [flat3_len vss h2, h1]) h3 h4 h0 (by unfold maxLen; omega) (by omega) (by omega) _ rfl ?_
 intro g cap w' hown' hgr hat hlt
 rw [Nat.zero_add, List.nil_append] at hown'
 rw [Nat.zero_add]
 refine h g cap w' ⟨vss, h1, h2, hown', fun k hk hk' => ?_⟩ hgr (hat.imp (fun e => (Option.some.inj e).symm) id)
 intro V hV hbl2
 have hVw : ∀ k, k < w.heap.size → ¬ A k → V.heap[k]? = w.heap[k]? := fun k hk hn => (hbl2 k (Nat.lt_of_lt_of_le hk hgr.size) hn).trans (hgr.block k hk (fun e => hn ((Option.some.inj e).symm ▸ hA)))
 obtain ⟨b', off', vs, e, hl3, hc, hE⟩ := (hp V (Nat.le_trans hgr.size hV) hVw).at hk'
 cases e
 have e : vs = vss[k] := by
  have h6 : vss[k].length = 3 := h2 _ (List.getElem_mem hk)
  refine List.ext_getElem (by omega) (fun j hj hj' => ?_)
  have h7 := h3 (k * 3 + j) _ (flat_at 3 vss h2 k j (by omega) hj')
  have h8 := hc j hj
  rw [Addr.add_lit, ← Nat.add_assoc] at h7
  rw [World.cell?_of_block (w := w) (w' := V) (hVw b hbl hnb), h7] at h8
  exact (Option.some.inj h8).symm
 rw [← e]
 exact hE
theorem step_append_rulesF {P : Program} {w : World} {ops : Array Oper} {o : Oper} {a : Act} {K : Act → World → Prop} {Q : Exit → Act → World → Prop} {E : Prop} (hgd : o.guard = none) (s x : Operand) (t : TypeId)
  (ho : o.op = .call { callee := .builtin .append, args := #[s, x], argTypes := #[t, t] })
  (base g0 : Nat) (i : TypeInfo) (z : Value) (ht : P.underlying t = some (.slice 36)) (hi : P.info? 36 = some i) (hz : i.zero = some z)
  (hsize : i.size = 3) (hby : i.bytes = 64) (hzs : z.cells.size = 3)
  (hs : a.eval s = .slice (some ⟨g0, 0, none⟩) 0 0) (hg0 : w.heap[g0]? = some (.cells #[] 36 (0, 0))) (hb0 : base ≤ g0) (xs : List RuleD) (pa : Option Addr) (c : Nat) (hx : a.eval x = .slice pa xs.length c) (A : Nat → Prop) (hA : A g0) (hp : Held A w (fun V => RowC 3 RuleE V (.slice pa xs.length c) xs)) (h0 : 0 < xs.length)
  (hl : xs.length ≤ 1048576)
  (h : ∀ g cap w', RowH 3 36 RuleE A base (.slice (some ⟨g, 0, none⟩) xs.length cap) xs w' → w.grownBy w' (some g0) → (g = g0 ∨ g = w.heap.size) → K (a.put o.dst (.slice (some ⟨g, 0, none⟩) xs.length cap)) w') : if Region.wanted o (yielded ops a.tmps) = true then Oper.wp P o a w K Q else E := by
 obtain ⟨b, off, vss, rfl, h1, h2, h3, h4, h5⟩ := rowC_cells hp.here h0
 have hgl : g0 < w.heap.size := (Array.getElem?_eq_some_iff.1 hg0).1
 have hbl : b < w.heap.size := by
  have h6 : vss[0].length = 3 := h2 _ (List.getElem_mem (by omega))
  have h7 := h3 (0 * 3 + 0) _ (flat_at 3 vss h2 0 0 (by omega) (by omega))
  rw [Addr.add_lit] at h7
  exact World.block_lt_of_cell? w _ h7
 have hnb : ¬ A b := held_low3 hp h0 hbl
 have hown : w.ownsRow base 36 3 (.slice (some ⟨g0, 0, none⟩) 0 0) 0 [] := ⟨rfl, .inr ⟨g0, 0, #[], rfl, hb0, hg0, Nat.le_refl _, Nat.zero_le _, rfl, rfl⟩⟩
 refine step_append_lies w hgd s x t ho base 36 i z 3 64 ht hi hz hsize hby hzs (by decide) _ 0 [] hs hown ⟨b, off, none⟩ xs.length c vss.flatten hx (by rw [flat3_len vss h2, h1]) h3 h4 h0 (by unfold maxLen; omega) (by omega) (by omega) _ rfl ?_
 intro g cap w' hown' hgr hat hlt
 rw [Nat.zero_add, List.nil_append] at hown'
 rw [Nat.zero_add]
 refine h g cap w' ⟨vss, h1, h2, hown', fun k hk hk' => ?_⟩ hgr (hat.imp (fun e => (Option.some.inj e).symm) id)
 intro V hV hbl2
 have hVw : ∀ k, k < w.heap.size → ¬ A k → V.heap[k]? = w.heap[k]? := fun k hk hn => (hbl2 k (Nat.lt_of_lt_of_le hk hgr.size) hn).trans (hgr.block k hk (fun e => hn ((Option.some.inj e).symm ▸ hA)))
 obtain ⟨b', off', vs, e, hl3, hc, hE⟩ := (hp V (Nat.le_trans hgr.size hV) hVw).at hk'
 cases e
 have e : vs = vss[k] := by
  have h6 : vss[k].length = 3 := h2 _ (List.getElem_mem hk)
  refine List.ext_getElem (by omega) (fun j hj hj' => ?_)
  have h7 := h3 (k * 3 + j) _ (flat_at 3 vss h2 k j (by omega) hj')
  have h8 := hc j hj
  rw [Addr.add_lit, ← Nat.add_assoc] at h7
  rw [World.cell?_of_block (w := w) (w' := V) (hVw b hbl hnb), h7] at h8
  exact (Option.some.inj h8).symm
 rw [← e]
 exact hE
end Go.Proofs.YtpbicppcehhphaaGreatDoor

namespace Go.Proofs.YtpbicppcehhphaaGreatDoor
open Go.RowKit
set_option linter.unusedVariables false
theorem grow_one {N base b g7 cap7 : Nat} {G : List RuleD} {r : RuleD} {vs : List Value} {w7 w7b : World} (hN : N ≤ base) (hbN : N ≤ b) (h7 : RowH 3 36 RuleE (fun k => N ≤ k) base (.slice (some ⟨g7, 0, none⟩) G.length cap7) G w7) (hb7 : Below w7.heap.size w7 w7b) (hl : vs.length = 3) (hbl : b < w7.heap.size) (hbg : b < base) (hv : Held (fun k => k = b ∨ k = g7) w7b (fun V => RuleE V vs r)) :
  ∃ cs, w7b.ownsRow base 36 3 (.slice (some ⟨g7, 0, none⟩) G.length cap7) G.length cs ∧ ∀ (g8 cap8 : Nat) (w8 : World) (u : Value), w8.ownsRow base 36 3 (.slice (some ⟨g8, 0, none⟩) (G.length + 1) cap8) (G.length + 1) (cs ++ vs) → w7b.grownBy w8 (some g7) → RowC 3 RuleE (w8.setCell ⟨b, 0, none⟩ u) (.slice (some ⟨g8, 0, none⟩) (G.length + 1) cap8) (G ++ [r]) := by
 have hg7 := RowO.lt h7 g7 rfl
 have h7b : RowH 3 36 RuleE (fun k => k = b ∨ k = g7) base (.slice (some ⟨g7, 0, none⟩) G.length cap7) G w7b := RowH.go h7 (FrA.below hb7) (fun k hk h => by rcases h with rfl | rfl <;> omega) (fun k hk => hb7.block k (RowO.lt h7 k hk).2)
 obtain ⟨cs, ho, hK⟩ := RowH.add h7b (fun k hk => .inr (Option.some.inj hk).symm)
 refine ⟨cs, ho, fun g8 cap8 w8 u ho8 hgr => ?_⟩
 have hR := hK g8 cap8 w8 vs r (fun k => k = b) hl hv ho8 hgr (fun k _ hk => .inl hk)
 have hH := RowH.held hR (fun k hk e => by
  have h1 := (World.ownsRow.lt ho8 k hk).1
  omega)
 have e : (G ++ [r]).length = G.length + 1 := by simp
 exact (hH.fr (FrA.set (A := fun k => k = b) u rfl)).here
theorem held_first {A : Nat → Prop} {w : World} {a : Option Addr} {n cap : Nat} {xs : List RuleD} (h : Held A w (fun V => RowC 3 RuleE V (.slice a n cap) xs)) (h0 : 0 < xs.length) :
  ∃ (b off : Nat) (vs : List Value), a = some ⟨b, off, none⟩ ∧ b < w.heap.size ∧ ¬ A b ∧ vs.length = 3 ∧ (∀ j (hj : j < vs.length), w.cell? ⟨b, off + j, none⟩ = some vs[j]) ∧ Held A w (fun V => RuleE V vs xs[0]) := by
 obtain ⟨b, off, vs, rfl, hl, hc, hE⟩ := h.here.at h0
 have hc' : ∀ j (hj : j < vs.length), w.cell? ⟨b, off + j, none⟩ = some vs[j] := fun j hj => by
  have := hc j hj
  rwa [Nat.zero_mul, Nat.add_zero] at this
 have hbl : b < w.heap.size := World.block_lt_of_cell? w _ (hc' 0 (by omega))
 have hnb := held_low3 h h0 hbl
 refine ⟨b, off, vs, rfl, hbl, hnb, hl, hc', fun V hV hbl2 => ?_⟩
 obtain ⟨b', off', vs', e, hl', hc2, hE'⟩ := (h V hV hbl2).at h0
 cases e
 have e : vs' = vs := List.ext_getElem (by omega) (fun j hj hj' => by
  have h8 := hc2 j hj
  rw [Nat.zero_mul, Nat.add_zero, World.cell?_of_block (w := w) (w' := V) (hbl2 b hbl hnb), hc' j hj'] at h8
  exact (Option.some.inj h8).symm)
 rw [← e]
 exact hE'
end Go.Proofs.YtpbicppcehhphaaGreatDoor

namespace Go.Proofs.YtpbicppcehhphaaGreatDoor
open Go.RowKit
set_option linter.unusedVariables false
theorem sum_set {α : Type} (f : α → Nat) : ∀ (xs : List α) (i : Nat) (h : i < xs.length) (y : α), ((xs.set i y).map f).sum + f xs[i] = (xs.map f).sum + f y
 | x :: xs, 0, h, y => by simp; omega
 | x :: xs, i + 1, h, y => by
  have := sum_set f xs i (by simpa using h) y
  simp only [List.set_cons_succ, List.map_cons, List.sum_cons, List.getElem_cons_succ]
  omega
theorem rowTot_set {α : Type} (f : α → Nat) (xs : List α) (i : Nat) (h : i < xs.length) (y : α) : rowTot f (xs.set i y) + f xs[i] = rowTot f xs + f y := by
 unfold rowTot
 have := sum_set f xs i h y
 rw [List.length_set]
 omega
theorem rowTot_snoc {α : Type} (f : α → Nat) (xs : List α) (y : α) : rowTot f (xs ++ [y]) = rowTot f xs + 1 + f y := by
 unfold rowTot
 simp
 omega
theorem rowInn_set {α : Type} {P : α → Prop} {xs : List α} (h : RowInn P xs) (i : Nat) {y : α} (hy : P y) : RowInn P (xs.set i y) := ⟨by rw [List.length_set]; exact h.1, fun x hx => by
 rcases List.mem_or_eq_of_mem_set hx with hx | rfl
 ·exact h.2 x hx
 ·exact hy⟩
theorem rowInn_snoc {α : Type} {P : α → Prop} {xs : List α} (h : RowInn P xs) (hl : xs.length + 1 ≤ maxLen) {y : α} (hy : P y) : RowInn P (xs ++ [y]) := ⟨by rw [List.length_append]; exact hl, fun x hx => by
 rcases List.mem_append.1 hx with hx | hx
 ·exact h.2 x hx
 ·rw [List.mem_singleton.1 hx]; exact hy⟩
theorem strIn_small {s : ByteArray} (h : s.size ≤ 7) : StrIn s := by unfold StrIn maxLen; omega
theorem varE_in {s : ByteArray} (h : s.size ≤ 7) : ExprIn (varE s) := by
 refine ⟨by unfold maxLen; simp [varE], fun x hx => ?_⟩
 rw [List.mem_singleton.1 hx]
 refine ⟨by unfold i64; simp, by unfold i64; simp, strIn_small h, by unfold maxLen; simp, fun k hk => by cases hk⟩
theorem ay_tot {G G' : List RuleD} (h : AyOut G G') : grammarTot G' ≤ grammarTot G + 64 := by
 have e : ∀ (i : Nat) (hi : i < G.length) (r : RuleD), grammarTot (G.set i r) + ruleTot G[i] = grammarTot G + ruleTot r := fun i hi r => rowTot_set ruleTot G i hi r
 have er : ∀ r : RuleD, ruleTot r = r.name.size + rowTot ByteArray.size r.params + rowTot altTot r.alts := fun _ => rfl
 cases h with
 | same => omega
 | name i hi s hs =>
  have := e i hi { G[i] with name := s }
  have ho := er G[i]
  have hn : ruleTot { G[i] with name := s } = s.size + rowTot ByteArray.size G[i].params + rowTot altTot G[i].alts := rfl
  omega
 | params i hi s hs =>
  have := e i hi { G[i] with params := G[i].params ++ [s] }
  have ho := er G[i]
  have hn : ruleTot { G[i] with params := G[i].params ++ [s] } = G[i].name.size + rowTot ByteArray.size (G[i].params ++ [s]) + rowTot altTot G[i].alts := rfl
  rw [rowTot_snoc] at hn
  omega
 | noAlts i hi =>
  have := e i hi { G[i] with alts := [] }
  have ho := er G[i]
  have hn : ruleTot { G[i] with alts := [] } = G[i].name.size + rowTot ByteArray.size G[i].params + rowTot altTot ([]) := rfl
  have h0 : rowTot altTot ([] : List (List SymD)) = 0 := rfl
  omega
 | kind i j hi hj z hz =>
  have := e i hi { G[i] with alts := G[i].alts.set j (G[i].alts[j] ++ [⟨z, ⟨#[120]⟩, [], em⟩]) }
  have ho := er G[i]
  have hn : ruleTot { G[i] with alts := G[i].alts.set j (G[i].alts[j] ++ [⟨z, ⟨#[120]⟩, [], em⟩]) } = G[i].name.size + rowTot ByteArray.size G[i].params + rowTot altTot (G[i].alts.set j (G[i].alts[j] ++ [⟨z, ⟨#[120]⟩, [], em⟩])) := rfl
  have h1 := rowTot_set altTot G[i].alts j hj (G[i].alts[j] ++ [⟨z, ⟨#[120]⟩, [], em⟩])
  have h2 : altTot (G[i].alts[j] ++ [⟨z, ⟨#[120]⟩, [], em⟩]) = altTot G[i].alts[j] + 1 + symTot ⟨z, ⟨#[120]⟩, [], em⟩ := rowTot_snoc symTot _ _
  have h3 : symTot ⟨z, ⟨#[120]⟩, [], em⟩ = 1 := rfl
  omega
 | cond i j hi hj s hs =>
  have := e i hi { G[i] with alts := G[i].alts.set j (G[i].alts[j] ++ [⟨4, em, [varE s], em⟩]) }
  have ho := er G[i]
  have hn : ruleTot { G[i] with alts := G[i].alts.set j (G[i].alts[j] ++ [⟨4, em, [varE s], em⟩]) } = G[i].name.size + rowTot ByteArray.size G[i].params + rowTot altTot (G[i].alts.set j (G[i].alts[j] ++ [⟨4, em, [varE s], em⟩])) := rfl
  have h1 := rowTot_set altTot G[i].alts j hj (G[i].alts[j] ++ [⟨4, em, [varE s], em⟩])
  have h2 : altTot (G[i].alts[j] ++ [⟨4, em, [varE s], em⟩]) = altTot G[i].alts[j] + 1 + symTot ⟨4, em, [varE s], em⟩ := rowTot_snoc symTot _ _
  have h3 : symTot ⟨4, em, [varE s], em⟩ = 2 + s.size := by
   show 0 + (1 + (exprTot (varE s) + 0)) + 0 = _
   have : exprTot (varE s) = 1 + (s.size + 0 + 0) := rfl
   omega
  omega
 | bind i j hi hj h0 s hs =>
  have := e i hi { G[i] with alts := G[i].alts.set j (G[i].alts[j].set 0 { G[i].alts[j][0] with bind := s }) }
  have ho := er G[i]
  have hn : ruleTot { G[i] with alts := G[i].alts.set j (G[i].alts[j].set 0 { G[i].alts[j][0] with bind := s }) } = G[i].name.size + rowTot ByteArray.size G[i].params + rowTot altTot (G[i].alts.set j (G[i].alts[j].set 0 { G[i].alts[j][0] with bind := s })) := rfl
  have h1 := rowTot_set altTot G[i].alts j hj (G[i].alts[j].set 0 { G[i].alts[j][0] with bind := s })
  have h2 : altTot (G[i].alts[j].set 0 { G[i].alts[j][0] with bind := s }) + symTot G[i].alts[j][0] = altTot G[i].alts[j] + symTot { G[i].alts[j][0] with bind := s } := rowTot_set symTot _ 0 h0 _
  have h3 : ∀ y : SymD, symTot y = y.text.size + rowTot exprTot y.args + y.bind.size := fun _ => rfl
  have h4 := h3 G[i].alts[j][0]
  have h5 : symTot { G[i].alts[j][0] with bind := s } = G[i].alts[j][0].text.size + rowTot exprTot G[i].alts[j][0].args + s.size := rfl
  omega
 | rest =>
  cases G with
  | nil => simp [grammarTot, rowTot]
  | cons x xs => simp [grammarTot, rowTot]; omega
theorem ay_in {G G' : List RuleD} (h : AyOut G G') (hG : GrammarIn G) (ht : grammarTot G ≤ 1048000) : GrammarIn G' := by
 have hr : ∀ i (hi : i < G.length), RuleIn G[i] ∧ ruleTot G[i] ≤ 1048000 := fun i hi => ⟨hG.2 _ (List.getElem_mem hi), Nat.le_trans (rowTot_mem ruleTot (List.getElem_mem hi)) ht⟩
 have er : ∀ r : RuleD, ruleTot r = r.name.size + rowTot ByteArray.size r.params + rowTot altTot r.alts := fun _ => rfl
 cases h with
 | same => exact hG
 | name i hi s hs => exact rowInn_set hG i ⟨strIn_small hs, (hr i hi).1.2⟩
 | params i hi s hs =>
  refine rowInn_set hG i ⟨(hr i hi).1.1, rowInn_snoc (hr i hi).1.2.1 ?_ (strIn_small hs), (hr i hi).1.2.2⟩
  have h1 := (hr i hi).2
  rw [er] at h1
  have h2 := rowTot_len ByteArray.size G[i].params
  unfold maxLen
  omega
 | noAlts i hi => exact rowInn_set hG i ⟨(hr i hi).1.1, (hr i hi).1.2.1, by unfold maxLen; simp, fun x hx => by cases hx⟩
 | kind i j hi hj z hz =>
  have ha := (hr i hi).1.2.2
  refine rowInn_set hG i ⟨(hr i hi).1.1, (hr i hi).1.2.1, rowInn_set ha j (rowInn_snoc (ha.2 _ (List.getElem_mem hj)) ?_ ⟨show i64 (z : Int) by unfold i64; omega, show StrIn ⟨#[120]⟩ from strIn_small (by decide), ⟨by unfold maxLen; simp, fun x hx => by cases hx⟩, show StrIn em from strIn_small (by decide)⟩)⟩
  have h1 := (hr i hi).2
  rw [er] at h1
  have h2 := rowTot_mem altTot (List.getElem_mem hj)
  have h3 : G[i].alts[j].length ≤ altTot G[i].alts[j] := rowTot_len symTot _
  unfold maxLen
  omega
 | cond i j hi hj s hs =>
  have ha := (hr i hi).1.2.2
  refine rowInn_set hG i ⟨(hr i hi).1.1, (hr i hi).1.2.1, rowInn_set ha j (rowInn_snoc (ha.2 _ (List.getElem_mem hj)) ?_ ⟨by unfold i64; simp, show StrIn em from strIn_small (by decide), ⟨by unfold maxLen; simp, fun x hx => by rw [List.mem_singleton.1 hx]; exact varE_in hs⟩, show StrIn em from strIn_small (by decide)⟩)⟩
  have h1 := (hr i hi).2
  rw [er] at h1
  have h2 := rowTot_mem altTot (List.getElem_mem hj)
  have h3 : G[i].alts[j].length ≤ altTot G[i].alts[j] := rowTot_len symTot _
  unfold maxLen
  omega
 | bind i j hi hj h0 s hs =>
  have ha := (hr i hi).1.2.2
  have hs0 := (ha.2 _ (List.getElem_mem hj)).2 _ (List.getElem_mem h0)
  exact rowInn_set hG i ⟨(hr i hi).1.1, (hr i hi).1.2.1, rowInn_set ha j (rowInn_set (ha.2 _ (List.getElem_mem hj)) 0 ⟨hs0.1, hs0.2.1, hs0.2.2.1, strIn_small hs⟩)⟩
 | rest => exact ⟨by rw [List.length_drop]; have := hG.1; omega, fun x hx => hG.2 x (List.mem_of_mem_drop hx)⟩
end Go.Proofs.YtpbicppcehhphaaGreatDoor

namespace Go.Proofs.YtpbicppcehhphaaGreatDoor
open Go.RowKit
set_option maxHeartbeats 1600000
set_option maxRecDepth 100000
set_option linter.unusedVariables false
theorem drawPair_of (P : List RuleD → Prop) (hG : ∀ s ∈ texts11, ∃ g, P g ∧ GrC (cut11 s).1 g) (W : World) (v : Value) (n : Nat) (w : World) (hn : n ≤ 1000000000000) (hcode : CodeRow W v n) (hb : Below W.heap.size W w) :
  Calls Tryz.prog 6 #[v] w fun e w' => ∃ (G : List RuleD) (o : Value) (t : ByteArray), P G ∧ e = .returned (.tuple #[.agg #[o], .string t]) ∧ t.size ≤ 8 ∧ Held (fun k => k < w.heap.size) w' (fun V => RowC 3 RuleE V o G) ∧ Below w.heap.size w w' := by
 have HC : Hid (CodeRow W v n) := hcode
 have HB : Hid (Below W.heap.size W w) := hb
 have HG : Hid (∀ s ∈ texts11, ∃ g, P g ∧ GrC (cut11 s).1 g) := hG
 have ba : Below w.heap.size w (w.alloc (.cells #[.slice none 0 0] 26)) := (Below.refl _ _).alloc (Nat.le_refl _) _
 have HA : Hid (Below w.heap.size w (w.alloc (.cells #[.slice none 0 0] 26))) := ba
 clear hcode hb hG ba
 go_enter Tryz.func6, Tryz.ntmps6
 go_wp2_with fail
 refine (new_any W v n _ hn HC.out (HB.out.trans (HA.out.mono HB.out.size))).mono ?_
 rintro e w1 ⟨g, rfl, hc1, hb1, hg⟩
 have H1 : Hid (Cur W v n g w1) := hc1
 have B1 : Hid (Below (w.alloc (.cells #[.slice none 0 0] 26)).heap.size (w.alloc (.cells #[.slice none 0 0] 26)) w1) := hb1
 have hg1 : w.heap.size < g := by simp at hg; omega
 have hs1 : w.heap.size < w1.heap.size := by have := hb1.size; simp at this; omega
 have hgl := hc1.lt
 clear hc1 hb1 hg
 go_wp2_with fail
 refine (pair11_of P HG.out W v n g _ hn HC.out H1.out).mono ?_
 rintro e w2 ⟨G, o, t, hP, rfl, ht, hh, hw2⟩
 obtain ⟨ao, co, rfl⟩ := RowC.slice hh.here
 have HP : Hid (P G) := hP
 have X2 : w2.heap[w.heap.size]? = some (.cells #[.slice none 0 0] 26 (0, 0)) := by
  rw [hw2.2.block _ hs1 (fun e => by have := Option.some.inj e; omega), B1.out.block _ (by simp)]
  exact heap_alloc_new _ _
 have HL : Hid (Held (fun k => k < w.heap.size) (w2.setCell ⟨w.heap.size, 0, none⟩ (.slice ao G.length co)) (fun V => RowC 3 RuleE V (.slice ao G.length co) G)) :=
  (hh.fr (FrA.set (A := fun k => k < w1.heap.size) _ hs1)).away (fun k _ hk => Nat.lt_trans hk hs1)
 have B2 : Hid (Below w.heap.size w (w2.setCell ⟨w.heap.size, 0, none⟩ (.slice ao G.length co))) :=
  ((HA.out.trans (B1.out.mono (by simp))).trans (went_bel hw2 (Nat.le_of_lt hs1) (Nat.le_of_lt hg1))).setCell (Nat.le_refl _) _
 have HZ : Hid ((w2.setCell ⟨w.heap.size, 0, none⟩ (.slice ao G.length co)).cell? ⟨w.heap.size, 0, none⟩ = some (.slice ao G.length co)) := run_cell (j := 0) (setCell_self (j := 0) _ X2) rfl
 have c1 := run_cell (j := 0) X2 rfl
 have f1 := run_frozen (j := 0) X2
 clear hP hh hw2 X2
 go_wp2
 have zz := HZ.out
 refine bodyPost_ret (by simp [results, Tryz.results6, go_sem, zz]; try rfl) rfl ?_
 exact ⟨G, _, _, HP.out, rfl, ht, HL.out, B2.out⟩
end Go.Proofs.YtpbicppcehhphaaGreatDoor
