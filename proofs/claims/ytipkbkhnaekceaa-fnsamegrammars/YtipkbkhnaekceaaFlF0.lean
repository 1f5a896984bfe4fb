/- A rule's alternatives stored into l12Make's grammar. -/
/- The specification's l12Flat: what is asked of a grammar with groups that it makes plain; what is kept within a rule's body. -/
import Derived.Test.YtipkbkhnaekceaaFlR
import Derived.Test.YtipkbkhnaekceaaDec
namespace Go.Proofs.Ytipkbkhnaekceaa
open Go.RowKit
set_option linter.unusedVariables false

theorem setAlts_is (rs : List RuleD) (i : Nat) (alts : List (List SymD)) (h : i < rs.length) : setAlts rs i alts = rs.set i { rs[i] with alts := alts } := by
  unfold setAlts
  apply List.ext_getElem
  · simp
  · intro j h1 h2
    rw [List.getElem_modify, List.getElem_set]
    by_cases e : i = j
    · subst e
      simp
    · simp [e]
section
variable {A A' : Nat → Prop} {ns : List SNodeD} {rs : List SRuleD} {an ar : Option Addr} {cn cr B p : Nat} {W0 : World} {m : MkD} {gv qv : Value} {w w' : World}
theorem MkI.alts (h : MkI A ns rs an ar cn cr B p W0 m gv qv w) {ri : Nat} (hri : ri < m.rules.length) (o : Value) (alts : List (List SymD)) (ho : Held (MutA A p gv qv) w (fun V => RowC 1 AltE V o alts)) :
    ∃ g cap, gv = .slice (some ⟨g, 0, none⟩) m.rules.length cap ∧ (∃ c, w.cell? ⟨g, ri * 3 + 2, none⟩ = some c ∧ w.frozen? ⟨g, ri * 3 + 2, none⟩ = false) ∧ w.cell? ⟨g, ri * 3, none⟩ = some (.string m.rules[ri].name) ∧
      MkI A ns rs an ar cn cr B p W0 { m with rules := setAlts m.rules ri alts } gv qv (w.setCell ⟨g, ri * 3 + 2, none⟩ o) ∧ FrA (Mut p gv qv) w (w.setCell ⟨g, ri * 3 + 2, none⟩ o) := by
  obtain ⟨g, cap, vs, rfl, hBg, hv3, hcell, hx⟩ := RowO.at h.rul hri
  have hmut : Mut p (.slice (some ⟨g, 0, none⟩) m.rules.length cap) qv g := .inr (.inl rfl)
  have hf : FrA (Mut p (.slice (some ⟨g, 0, none⟩) m.rules.length cap) qv) w (w.setCell ⟨g, ri * 3 + 2, none⟩ o) := FrA.set _ hmut
  have hfA : FrA (MutA A p (.slice (some ⟨g, 0, none⟩) m.rules.length cap) qv) w (w.setCell ⟨g, ri * 3 + 2, none⟩ o) := hf.wide (fun k _ a => .inr a)
  have hne := h.offs.1 g rfl
  refine ⟨g, cap, rfl, ?_, ?_, ⟨?_, ?_, ?_, h.bel.setCell hBg _, h.pB⟩, hf⟩
  · obtain ⟨vss, _, _, h3, _⟩ := h.rul
    exact own_cell h3 (ri * 3 + 2) (by omega)
  · obtain ⟨r0, r1, hvs, _⟩ := Held.here hx
    have := hcell 0 (by omega)
    rw [Nat.add_zero] at this
    rw [this]
    subst hvs
    rfl
  · exact (setCell_other _ (fun e => hne.1 e.symm)).trans h.box
  · rw [setAlts_is _ _ _ hri]
    have hl : (m.rules.set ri { m.rules[ri] with alts := alts }).length = m.rules.length := List.length_set
    exact RowO.set h.rul hri (by omega) o { m.rules[ri] with alts := alts } (fun vs y hy => Held.fr hy hfA) (fun vs hv hy => by
      refine Held.imp (Held.and (Held.fr hy hfA) (Held.fr ho hfA)) ?_
      rintro V ⟨⟨r0, r1, rfl, hp, _⟩, hal⟩
      exact ⟨r0, o, rfl, hp, hal⟩)
  · exact h.que.go hfA (fun _ _ a => a) (fun k hk => setCell_other _ (fun e => hne.2 (e ▸ hk)))
end
end Go.Proofs.Ytipkbkhnaekceaa

namespace Go.Proofs.Ytipkbkhnaekceaa
open Go.RowKit
set_option linter.unusedVariables false

def bodyOk (ns : List SNodeD) (rs : List SRuleD) (r : SRuleD) : Bool := decide (0 ≤ r.body ∧ r.body.toNat < ns.length ∧ (nodeS ns r.body).kind = 6 ∧ r.params.length ≤ 6 ∧ 9 * r.body.toNat + 20 ≤ 2000) && knF ns rs 2000 false (nodeS ns r.body).kids r.params
def grpOk (ns : List SNodeD) (rs : List SRuleD) (m : MkD) (q : Int × Nat × List ByteArray) : Bool := decide (0 ≤ q.1 ∧ q.1.toNat < ns.length ∧ ¬ (nodeS ns q.1).kind ≤ 4 ∧ ¬ (nodeS ns q.1).kind = 5 ∧ q.2.1 < m.rules.length ∧ q.2.2.length ≤ 6 ∧ 9 * q.1.toNat + 10 ≤ 2000 ∧ m.rules.length ≤ 4000 ∧ m.queue.length ≤ 4000 ∧ m.count ≤ 4000) && knF ns rs 2000 false (nodeS ns (groupS ns q.1)).kids q.2.2
def stepsB (ns : List SNodeD) (rs : List SRuleD) : Nat → Nat → MkD → Bool
  | 0, i, m => decide (m.queue.length ≤ i)
  | f + 1, i, m => if i < m.queue.length then grpOk ns rs m (m.queue.getD i default) && stepsB ns rs f (i + 1) (groupM ns m (m.queue.getD i default)) else true
def heads (rs : List SRuleD) : List RuleD := rs.map fun r => ⟨r.name, r.params, []⟩
def startM (ns : List SNodeD) (rs : List SRuleD) : MkD := bodiesM ns ⟨heads rs, [], 0⟩ 0 rs
/-- A grammar with groups that is made into a right one, within bounds. -/
structure FlatOk (ns : List SNodeD) (rs : List SRuleD) : Prop where
  shp : Shaped ns
  lf : LeafsIn ns
  nl : ns.length ≤ 100000
  rl : rs.length ≤ 8
  pl : ∀ r ∈ rs, r.params.length ≤ 6
  nam : ∀ r ∈ rs, xFig r.name = false
  nsz : ∀ r ∈ rs, r.name.size ≤ 1048576
  bod : ∀ r ∈ rs, bodyOk ns rs r = true
  stp : stepsB ns rs 130 0 (startM ns rs) = true
  gok : gramB (flatM ns rs) = true
  tot : grammarTot (flatM ns rs) ≤ 1048576
  gin : GrammarIn (flatM ns rs)
theorem flatM_is (ns : List SNodeD) (rs : List SRuleD) : flatM ns rs = (queueM ns 130 0 (startM ns rs)).rules := rfl
/-- Grown, rules rewritten in their places. -/
structure GrewN (m m' : MkD) (n : Nat) : Prop where
  lo : m.rules.length ≤ m'.rules.length
  rl : m'.rules.length ≤ m.rules.length + n
  ql : m'.queue.length ≤ m.queue.length + n
  cl : m'.count ≤ m.count + n
theorem Grew.n {m m' : MkD} {n : Nat} (h : Grew m m' n) : GrewN m m' n := by
  obtain ⟨l, e⟩ := h.rules
  exact ⟨by rw [e, List.length_append]; omega, h.rl, h.ql, h.cl⟩
theorem setAlts_len (rs : List RuleD) (i : Nat) (alts : List (List SymD)) : (setAlts rs i alts).length = rs.length := by simp [setAlts]

/-- Within a rule's body: the grammar in the making, and the body's alternatives. -/
structure BwI (A : Nat → Prop) (ns : List SNodeD) (rs : List SRuleD) (an ar : Option Addr) (cn cr B p : Nat) (W0 : World) (m : MkD) (gv qv av : Value) (alts : List (List SymD)) (wr : World) : Prop where
  mki : MkI (AO A av) ns rs an ar cn cr B p W0 m gv qv wr
  als : RowH 1 48 AltE (MutA (AO A av) p gv qv) B av alts wr
section
variable {A : Nat → Prop} {ns : List SNodeD} {rs : List SRuleD} {an ar : Option Addr} {cn cr B p : Nat} {W0 : World} {m m' : MkD} {gv qv av gv' qv' : Value} {alts : List (List SymD)} {wr wr' : World}
theorem BwI.step (h : BwI A ns rs an ar cn cr B p W0 m gv qv av alts wr) (hb : Below wr.heap.size wr wr') : BwI A ns rs an ar cn cr B p W0 m gv qv av alts wr' := ⟨h.mki.step hb, h.als.below hb⟩
theorem BwI.off (h : BwI A ns rs an ar cn cr B p W0 m gv qv av alts wr) : ∀ k, av.ownBlock = some k → ¬ Mut p gv qv k := fun k hk => by
  obtain ⟨cur, hc⟩ := RowO.type h.als hk
  exact h.mki.off hc (by decide) (by decide) (by decide)
theorem BwI.ao_lt (h : BwI A ns rs an ar cn cr B p W0 m gv qv av alts wr) (hA : ∀ k, A k → k < B) : ∀ k, AO A av k → k < wr.heap.size := by
  rintro k (hk | hk)
  · exact Nat.lt_of_lt_of_le (hA k hk) h.mki.lt
  · exact (RowO.lt h.als k hk).2
theorem BwI.mut_lt (h : BwI A ns rs an ar cn cr B p W0 m gv qv av alts wr) (hA : ∀ k, A k → k < B) : ∀ k, MutA (AO A av) p gv qv k → k < wr.heap.size := by
  rintro k (hk | hk)
  · exact h.ao_lt hA k hk
  · exact (h.mki.ge k hk).2
theorem BwI.turn (h : BwI A ns rs an ar cn cr B p W0 m gv qv av alts wr) (hM : MkI (AO A av) ns rs an ar cn cr B p W0 m' gv' qv' wr') (hf : FrA (Mut p gv qv) wr wr') (lk : ∀ k, k < wr.heap.size → Mut p gv' qv' k → Mut p gv qv k) : BwI A ns rs an ar cn cr B p W0 m' gv' qv' av alts wr' :=
  ⟨hM, h.als.go (hf.wide (fun k _ a => .inr a)) (fun k hk a => a.imp id (lk k hk)) (fun k hk => hf.block k (RowO.lt h.als k hk).2 (h.off k hk))⟩
theorem BwI.add (h : BwI A ns rs an ar cn cr B p W0 m gv qv av alts wr) : ∃ cs, wr.ownsRow B 48 1 av alts.length cs ∧ ∀ (g cap : Nat) (w2 : World) (vs : List Value) (x : List SymD), vs.length = 1 → Held (MutA (AO A av) p gv qv) wr (fun V => AltE V vs x) → w2.ownsRow B 48 1 (.slice (some ⟨g, 0, none⟩) (alts.length + 1) cap) (alts.length + 1) (cs ++ vs) → wr.grownBy w2 av.ownBlock → (av.ownBlock = some g ∨ g = wr.heap.size) →
    BwI A ns rs an ar cn cr B p W0 m gv qv (.slice (some ⟨g, 0, none⟩) (alts.length + 1) cap) (alts ++ [x]) w2 := by
  obtain ⟨cs, ho, hK⟩ := RowH.add h.als (fun k hk => .inl (.inr hk))
  refine ⟨cs, ho, fun g cap w2 vs x hl hx ho2 hg hat => ?_⟩
  have lk1 : ∀ k, k < wr.heap.size → AO A (.slice (some ⟨g, 0, none⟩) (alts.length + 1) cap) k → AO A av k := fun k hk a => a.imp id (own_was hat hk)
  have f1 : FrA (fun k => av.ownBlock = some k) wr w2 := FrA.grown hg (fun k hk => hk)
  have bel : Below B W0 w2 := h.mki.bel.grown hg h.mki.lt (fun k hk => (RowO.lt h.als k hk).1)
  exact ⟨h.mki.other f1 (fun k hk => .inr hk) h.off bel lk1, hK g cap w2 vs x _ hl hx ho2 hg (fun k hk a => a.imp (lk1 k hk) id)⟩
theorem BwI.fin (h : BwI A ns rs an ar cn cr B p W0 m gv qv av alts wr) (hA : ∀ k, A k → k < B) : MkI A ns rs an ar cn cr B p W0 m gv qv wr ∧ Held (MutA A p gv qv) wr (fun V => RowC 1 AltE V av alts) := by
  refine ⟨h.mki.away (fun k hk a => .inl (.inl a)), ?_⟩
  have h2 : RowH 1 48 AltE (MutA A p gv qv) B av alts wr := h.als.go (FrA.refl _ _) (fun k hk a => a.imp .inl id) (fun _ _ => rfl)
  refine RowH.held h2 (fun k hk a => ?_)
  rcases a with a | a
  · have := hA k a
    have := (RowO.lt h.als k hk).1
    omega
  · exact h.off k hk a
theorem BwI.start (h : MkI A ns rs an ar cn cr B p W0 m gv qv wr) (hA : ∀ k, A k → k < B) : BwI A ns rs an ar cn cr B p W0 m gv qv (.slice (some ⟨wr.heap.size, 0, none⟩) 0 0) [] (wr.alloc (.cells #[] 48)) := by
  have bal : Below wr.heap.size wr (wr.alloc (.cells #[] 48)) := (Below.refl _ _).alloc (Nat.le_refl _) _
  have ho : ∀ k, k < wr.heap.size → AO A (.slice (some ⟨wr.heap.size, 0, none⟩) 0 0) k → A k := fun k hk a => a.elim id (fun e => by
    have : wr.heap.size = k := Option.some.inj e
    omega)
  exact ⟨(h.away (fun k hk a => .inl (ho k hk a))).step bal, RowO.made h.lt⟩
end
/-- The grammar at its start. -/
theorem MkI.start {A : Nat → Prop} {ns : List SNodeD} {rs : List SRuleD} {an ar : Option Addr} {cn cr : Nat} (W0 : World) : MkI A ns rs an ar cn cr W0.heap.size W0.heap.size W0 ⟨[], [], 0⟩ (.slice none 0 0) (.slice none 0 0) (W0.alloc (.cells #[.slice an ns.length cn, .slice ar rs.length cr, .slice none 0 0, .slice none 0 0, .int .i64 0] 128)) :=
  ⟨heap_alloc_new W0 _, RowO.nil, RowO.nil, (Below.refl _ _).alloc (Nat.le_refl _) _, Nat.le_refl _⟩

/-- What hangs on none of A in a world hangs on none of it later, nor on what is new. -/
theorem held_low {A Z : Nat → Prop} {W2 V : World} {P : World → Prop} (h : Held A W2 P) (hb : Below W2.heap.size W2 V) (hZ : ∀ k, Z k → A k ∨ W2.heap.size ≤ k) : Held Z V P := fun V' h1 h2 =>
  h V' (Nat.le_trans hb.size h1) (fun k hk ha => (h2 k (Nat.lt_of_lt_of_le hk hb.size) (fun z => (hZ k z).elim ha (fun h => by omega))).trans (hb.block k hk))
/-- The names of a rule of what is held. -/
theorem params_held {A : Nat → Prop} {W2 : World} {rb ro cr i pc : Nat} {pa : Option Addr} {rs : List SRuleD} (h : Held A W2 (fun V => SRs V (.slice (some ⟨rb, ro, none⟩) rs.length cr) rs)) (hi : i < rs.length) (hc : W2.cell? ⟨rb, ro + i * 3 + 1, none⟩ = some (.slice pa rs[i].params.length pc)) : Held A W2 (fun V => SRow V (.slice pa rs[i].params.length pc) rs[i].params) := by
  have hlt := World.block_lt_of_cell? W2 _ hc
  have hna : ¬ A rb := fun ha => by
    have h1 := h (putW W2 rb (.stringIter ⟨#[]⟩ 0)) (by rw [putW_size]; exact Nat.le_refl _) (fun k hk hn => putW_other W2 _ (fun e => hn (e ▸ ha)))
    obtain ⟨b, off, pa', pc', e, h2, _⟩ := sRs_at h1 hi
    cases e
    have h3 := putW_self W2 (k := rb) (.stringIter ⟨#[]⟩ 0) hlt
    simp [World.cell?, h3] at h2
  intro V h1 h2
  obtain ⟨b, off, pa', pc', e, _, h3, _, h4⟩ := sRs_at (h V h1 h2) hi
  cases e
  have e2 : V.cell? ⟨rb, ro + i * 3 + 1, none⟩ = W2.cell? ⟨rb, ro + i * 3 + 1, none⟩ := World.cell?_of_block (h2 rb hlt hna)
  rw [e2, hc] at h3
  cases h3
  exact h4

end Go.Proofs.Ytipkbkhnaekceaa
