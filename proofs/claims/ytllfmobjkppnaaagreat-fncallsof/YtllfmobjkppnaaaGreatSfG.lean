/- Rows made plain: what grows, and how much. No program is named. -/
/- The end of the specification's l12Make.group: the alternatives by the group's kind. -/
/- Small helpers of the specification's l11Form: l11InRow, l11Group, l11Params, l11Leaf. -/
import Derived.Test.YtllfmobjkppnaaaGreatItv
import Derived.Test.YtllfmobjkppnaaaGreatFlP
import Derived.Test.YtllfmobjkppnaaaGreatFlV
namespace Go.Proofs.YtllfmobjkppnaaaGreat
open Go.RowKit
set_option linter.unusedVariables false

structure Grew (m m' : MkD) (n : Nat) : Prop where
  rules : ∃ l, m'.rules = m.rules ++ l
  rl : m'.rules.length ≤ m.rules.length + n
  ql : m'.queue.length ≤ m.queue.length + n
  cl : m'.count ≤ m.count + n
theorem Grew.refl (m : MkD) : Grew m m 0 := ⟨⟨[], by simp⟩, by omega, by omega, by omega⟩
theorem Grew.trans {m m1 m2 : MkD} {a b c : Nat} (h : Grew m m1 a) (k : Grew m1 m2 b) (hc : a + b ≤ c) : Grew m m2 c := by
  obtain ⟨l, e⟩ := h.rules
  obtain ⟨l2, e2⟩ := k.rules
  have h1 := h.rl
  have h2 := h.ql
  have h3 := h.cl
  have k1 := k.rl
  have k2 := k.ql
  have k3 := k.cl
  exact ⟨⟨l ++ l2, by rw [e2, e, List.append_assoc]⟩, by omega, by omega, by omega⟩
theorem Grew.at {m m' : MkD} {n ri : Nat} (h : Grew m m' n) (hr : ri < m.rules.length) : ∃ h' : ri < m'.rules.length, m'.rules[ri] = m.rules[ri] := by
  obtain ⟨l, e⟩ := h.rules
  refine ⟨by rw [e, List.length_append]; omega, ?_⟩
  simp only [e]
  exact List.getElem_append_left hr
theorem rowK_grew (ns : List SNodeD) : ∀ (ks : List Int) (m : MkD) (kn : List ByteArray) (out : List SymD), Grew m (rowK ns m kn out ks).1 ks.length ∧ (rowK ns m kn out ks).2.length = out.length + ks.length
  | [], m, kn, out => ⟨Grew.refl m, rfl⟩
  | k :: ks, m, kn, out => by
    rw [rowK]
    split
    · obtain ⟨h1, h2⟩ := rowK_grew ns ks m (if (nodeS ns k).bind = em then kn else putS kn (nodeS ns k).bind) (out ++ [leafS (nodeS ns k)])
      exact ⟨(Grew.refl m).trans h1 (by simp), by rw [h2]; simp; omega⟩
    · obtain ⟨h1, h2⟩ := rowK_grew ns ks { rules := m.rules ++ [⟨xName m.count, kn, []⟩], queue := m.queue ++ [(k, m.rules.length, kn)], count := m.count + 1 } kn (out ++ [⟨3, xName m.count, kn.map varE, em⟩])
      refine ⟨Grew.trans (a := 1) ⟨⟨_, rfl⟩, by simp, by simp, Nat.le_refl _⟩ h1 (by simp; omega), by rw [h2]; simp; omega⟩
/-- Syms that may be copied. -/
def SymCp (s : SymD) : Prop := s.args.length ≤ 1048576 ∧ ∀ e ∈ s.args, e.length ≤ 1048576 ∧ ∀ x ∈ e, x.kids.length ≤ 1048576
theorem leaf_cp {ns : List SNodeD} (hL : LeafsIn ns) (k : Int) : SymCp (leafS (nodeS ns k)) := by
  rcases Nat.lt_or_ge k.toNat ns.length with h | h
  · have e : nodeS ns k = ns[k.toNat] := by rw [nodeS, List.getD_eq_getElem?_getD, List.getElem?_eq_getElem h]; rfl
    rw [e]
    obtain ⟨h1, h2⟩ := hL _ (List.getElem_mem h)
    refine ⟨?_, fun x hx => ⟨(h2 x hx).1, fun y hy => ((h2 x hx).2 y hy).2.1⟩⟩
    have := rowTot_len exprTot ns[k.toNat].args
    have h3 : symTot (leafS ns[k.toNat]) = ns[k.toNat].text.size + rowTot exprTot ns[k.toNat].args + ns[k.toNat].bind.size := rfl
    show ns[k.toNat].args.length ≤ _
    omega
  · have e : nodeS ns k = default := by rw [nodeS, List.getD_eq_getElem?_getD, List.getElem?_eq_none h]; rfl
    rw [e]
    exact ⟨Nat.zero_le _, fun x hx => by cases hx⟩
theorem putS_one (ss : List ByteArray) (s : ByteArray) : (putS ss s).length ≤ 2 * ss.length + 1 := putS_len ss s
theorem rowK_cp (ns : List SNodeD) (hL : LeafsIn ns) : ∀ (ks : List Int) (m : MkD) (kn : List ByteArray) (out : List SymD) (b : Nat), kn.length + 1 ≤ b → b * 2 ^ ks.length ≤ 1048576 → (∀ s ∈ out, SymCp s) → ∀ s ∈ (rowK ns m kn out ks).2, SymCp s
  | [], m, kn, out, b, hb, hk, ho => ho
  | k :: ks, m, kn, out, b, hb, hk, ho => by
    have hk2 : (2 * b) * 2 ^ ks.length ≤ 1048576 := by
      rw [List.length_cons, Nat.pow_succ] at hk
      rw [Nat.mul_comm 2 b, Nat.mul_assoc, Nat.mul_comm 2]
      exact hk
    have hp : 1 ≤ 2 ^ ks.length := Nat.one_le_two_pow
    have hb1 : b ≤ 1048576 := by
      have : b * 1 ≤ b * 2 ^ (k :: ks).length := Nat.mul_le_mul_left b Nat.one_le_two_pow
      omega
    rw [rowK]
    split
    · refine rowK_cp ns hL ks _ _ _ (2 * b) ?_ hk2 (fun s hs => ?_)
      · split
        · omega
        · have := putS_len kn (nodeS ns k).bind
          omega
      · rcases List.mem_append.1 hs with hs | hs
        · exact ho s hs
        · rw [List.mem_singleton.1 hs]; exact leaf_cp hL k
    · refine rowK_cp ns hL ks _ _ _ (2 * b) (by omega) hk2 (fun s hs => ?_)
      rcases List.mem_append.1 hs with hs | hs
      · exact ho s hs
      · rw [List.mem_singleton.1 hs]
        refine ⟨by rw [List.length_map]; omega, fun e he => ?_⟩
        obtain ⟨x, _, rfl⟩ := List.mem_map.1 he
        exact ⟨by simp [varE], fun y hy => by rw [List.mem_singleton.1 hy]; exact Nat.zero_le _⟩
/-- One copied rule, of one alternative. -/
theorem copy_one {syms : List SymD} (hl : syms.length ≤ 1048576) (h : ∀ s ∈ syms, SymCp s) : CopyIn [⟨em, [], [syms]⟩] := by
  refine ⟨by simp, fun r hr => ?_⟩
  rw [List.mem_singleton.1 hr]
  refine ⟨Nat.zero_le _, by simp, fun a ha => ?_⟩
  rw [List.mem_singleton.1 ha]
  exact ⟨hl, h⟩
/-- What the rows behind one bring. -/
theorem rowsK_cons (ns : List SNodeD) (kn : List ByteArray) (m : MkD) (alts : List (List SymD)) (k : Int) (ks : List Int) : rowsK ns kn m alts (k :: ks) = rowsK ns kn (rowK ns m kn [] (nodeS ns k).kids).1 (alts ++ [(rowK ns m kn [] (nodeS ns k).kids).2]) ks := by
  rw [rowsK]
/-- The alternatives that a group is given, by its kind. -/
def kindAlts (k : Int) (alts more : List (List SymD)) : List (List SymD) := if k = 9 then alts ++ [[]] else if k = 7 then [[]] ++ more else if k = 8 then alts ++ more else alts
theorem groupM_is (ns : List SNodeD) (m m1 : MkD) (z : Nat) (ri : Nat) (kn : List ByteArray) (alts more : List (List SymD)) (nm : ByteArray) (h : rowsK ns kn m [] (nodeS ns (groupS ns (z : Int))).kids = (m1, alts)) (hn : (m1.rules.getD ri default).name = nm) (hm : more = alts.map fun s => s ++ [⟨3, nm, kn.map varE, em⟩]) :
    groupM ns m ((z : Int), ri, kn) = { m1 with rules := setAlts m1.rules ri (kindAlts (nodeS ns (z : Int)).kind alts more) } := by
  unfold groupM
  simp only [h, hn, ← hm]
  rfl

/-- Another thing laid into a block. -/
def putW (w : World) (k : Nat) (o : Obj) : World := { w with heap := w.heap.setIfInBounds k o }
theorem putW_size (w : World) (k : Nat) (o : Obj) : (putW w k o).heap.size = w.heap.size := by simp [putW]
theorem putW_other (w : World) {k j : Nat} (o : Obj) (h : j ≠ k) : (putW w k o).heap[j]? = w.heap[j]? := by simp [putW, Ne.symm h]
theorem putW_self (w : World) {k : Nat} (o : Obj) (h : k < w.heap.size) : (putW w k o).heap[k]? = some o := by simp [putW, h]
section
variable {α : Type} {sz : Nat} {T : TypeId} {E : World → List Value → α → Prop} {base : Nat} {v : Value} {xs : List α} {w : World}
/-- A row that lies in every world that has the blocks from the base on has its own there. -/
theorem fresh_own (h : Fresh base w (fun V => ∃ B X, RowI sz T E B X v xs V)) : ∀ k, v.ownBlock = some k → base ≤ k ∧ k < w.heap.size := fun k hk => by
  obtain ⟨B, X, h0⟩ := h.here
  have hlt := (h0.lt k hk).2
  refine ⟨?_, hlt⟩
  rcases Nat.lt_or_ge k base with hb | hb
  · obtain ⟨B', X', h1⟩ := h (putW w k (.stringIter ⟨#[]⟩ 0)) (by rw [putW_size]; exact Nat.le_refl _) (fun j hj _ => putW_other w _ (by omega))
    obtain ⟨cur, hc⟩ := h1.type hk
    rw [putW_self w _ hlt] at hc
    cases hc
  · exact hb
/-- What its elements reach hangs neither on what is below the base nor on the row itself. -/
theorem rowH_fresh (hsz : 0 < sz) (h : Fresh base w (fun V => ∃ B X, RowI sz T E B X v xs V)) : RowH sz T E (Own0 base v) base v xs w := by
  have hown := fresh_own h
  obtain ⟨B, X, h0⟩ := h.here
  obtain ⟨vss, cut, h1, h2, h3, h4, h5⟩ := h0
  refine ⟨vss, h1, h2, ⟨h3.1, ?_⟩, fun i hi hi' => ?_⟩
  · rcases h3.2 with hn | ⟨g, cap, cur, rfl, hB, hc, r⟩
    · exact .inl hn
    · exact .inr ⟨g, cap, cur, rfl, (hown g rfl).1, hc, r⟩
  · intro V hV hbl
    -- the world with the row as it was
    have key : ∃ V' : World, w.heap.size ≤ V'.heap.size ∧ (∀ k, base ≤ k → k < w.heap.size → V'.heap[k]? = w.heap[k]?) ∧ (∀ k, v.ownBlock ≠ some k → V.heap[k]? = V'.heap[k]?) ∧ V'.heap.size = V.heap.size := by
      cases hv : v.ownBlock with
      | none => exact ⟨V, hV, fun k h1 h2 => hbl k h2 (fun a => a.elim (fun h => by omega) (fun h => by rw [hv] at h; cases h)), fun k _ => rfl, rfl⟩
      | some g =>
        have hg := hown g hv
        obtain ⟨ob, hob⟩ : ∃ ob, w.heap[g]? = some ob := ⟨_, Array.getElem?_eq_getElem hg.2⟩
        refine ⟨putW V g ob, by rw [putW_size]; exact hV, fun k h1 h2 => ?_, fun k hk => (putW_other V ob (fun e => hk (by rw [e]))).symm, putW_size _ _ _⟩
        by_cases e : k = g
        · subst e
          rw [putW_self V ob (by omega), hob]
        · rw [putW_other V ob e]
          exact hbl k h2 (fun a => a.elim (fun h => by omega) (fun h => by rw [hv] at h; exact e (Option.some.inj h).symm))
    obtain ⟨V', k1, k2, k3, k4⟩ := key
    obtain ⟨B', X', h0'⟩ := h V' k1 k2
    obtain ⟨uss, cut', q1, q2, q3, q4, q5⟩ := h0'
    have hl : vss.length = uss.length := by rw [h1, q1]
    have hflat : vss.flatten = uss.flatten := by
      rcases h3.2 with ⟨e1, e2⟩ | ⟨g, cap, cur, e1, hB, hc, r⟩
      · rw [List.length_eq_zero_iff.1 (h1.trans e2), List.length_eq_zero_iff.1 (q1.trans e2)]
      · rcases q3.2 with ⟨e3, e4⟩ | ⟨g', cap', cur', e3, hB', hc', r'⟩
        · rw [e3] at e1
          cases e1
        · have e5 := e1.symm.trans e3
          cases e5
          have e6 := (hown g (by rw [e1]; rfl))
          rw [k2 g e6.1 e6.2, hc] at hc'
          cases hc'
          exact r.2.2.2.symm.trans r'.2.2.2
    have hui : uss[i]'(by omega) = vss[i] := by
      have e1 : ∀ (a : List (List Value)) (ha : ∀ x ∈ a, x.length = sz) (hi : i < a.length), a[i] = (a.flatten.drop (i * sz)).take sz := fun a ha hi => by
        apply List.ext_getElem?
        intro j
        rw [List.getElem?_take]
        split
        · rename_i hj
          rw [List.getElem?_drop]
          have := flat_at sz a ha i j hi (by rw [ha _ (List.getElem_mem _)]; exact hj)
          rw [this]
          exact List.getElem?_eq_getElem _
        · rename_i hj
          exact List.getElem?_eq_none (by rw [ha _ (List.getElem_mem _)]; omega)
      rw [e1 uss q2 (by omega), e1 vss h2 hi, hflat]
    obtain ⟨a, b, c, d⟩ := q4 i (by omega) hi'
    rw [hui] at a
    exact a.2 V (by have := a.1; omega) (fun k hk1 hk2 => k3 k (fun e => by rcases d k e with h | h <;> omega))
end
/-- A copied rule's one alternative, taken out. -/
theorem copied_at {w : World} {o : Value} {base X : Nat} {syms : List SymD} (h : Fresh base w (fun V => RowI 3 42 RuleI (base + 3) X o [⟨em, [], [syms]⟩] V)) :
    ∃ (g c1 a c2 : Nat) (sv : Value), o = .slice (some ⟨g, 0, none⟩) 1 c1 ∧ w.cell? ⟨g, 2, none⟩ = some (.slice (some ⟨a, 0, none⟩) 1 c2) ∧ w.cell? ⟨a, 0, none⟩ = some sv ∧ Fresh base w (fun V => ∃ B X, RowI 4 48 SymE B X sv syms V) := by
  have row1 : ∀ {β : Type} {sz : Nat} {T : TypeId} {E : World → List Value → β → Prop} {B X : Nat} {v : Value} {x : β} {V : World}, RowI sz T E B X v [x] V → ∃ (g c : Nat) (vs : List Value), v = .slice (some ⟨g, 0, none⟩) 1 c ∧ vs.length = sz ∧ (∀ j u, vs[j]? = some u → V.cell? ⟨g, j, none⟩ = some u) ∧ E V vs x := by
    intro β sz T E B X v x V hr
    obtain ⟨vss, cut, h1, h2, h3, h4, h5⟩ := hr
    obtain ⟨v0, rfl⟩ : ∃ v0, vss = [v0] := by
      cases vss with
      | nil => simp at h1
      | cons a l =>
        have : l = [] := List.length_eq_zero_iff.1 (by simpa using h1)
        subst this; exact ⟨a, rfl⟩
    rcases h3.2 with ⟨_, h0⟩ | ⟨g, c, cur, ho, hB, hc, r⟩
    · simp at h0
    refine ⟨g, c, v0, ho, h2 _ (by simp), fun j u hj => ?_, ((h4 0 (by simp) (by simp)).1).here⟩
    have := World.ownsRow.cells h3 (g := g) (by rw [ho]; rfl) j u (by simpa using hj)
    rwa [Addr.add_lit, Nat.zero_add] at this
  obtain ⟨g, c1, vs, rfl, hl, hc, pv, av, B0, B1, X1, e, hp, _, hA⟩ := row1 h.here
  have e' : vs = [.string em, pv, av] := e
  subst e'
  have hg : base ≤ g ∧ g < w.heap.size := by
    have := h.here.lt g rfl
    exact ⟨by omega, this.2⟩
  have hgav := hc 2 av rfl
  have hF2 : Fresh base w (fun V => ∃ B X, RowI 1 45 AltI B X av [syms] V) := fun V h1 h2 => by
    obtain ⟨g', c1', vs', e1, hl', hc', pv', av', B0', B1', X1', e2, _, _, hA'⟩ := row1 (h V h1 h2)
    cases e1
    have e2' : vs' = [.string em, pv', av'] := e2
    subst e2'
    have h3 := hc' 2 av' rfl
    rw [World.cell?_of_block (a := ⟨g, 2, none⟩) (h2 g hg.1 hg.2), hgav] at h3
    cases h3
    exact ⟨_, _, hA'⟩
  obtain ⟨B2, X2, hA2⟩ := hF2.here
  obtain ⟨a, c2, us, rfl, hl2, hc2, sv, B3, X3, e3, hS⟩ := row1 hA2
  have e3' : us = [sv] := e3
  subst e3'
  have ha := fresh_own hF2 a rfl
  have hasv := hc2 0 sv rfl
  refine ⟨g, c1, a, c2, sv, rfl, hgav, hasv, fun V h1 h2 => ?_⟩
  obtain ⟨B4, X4, hA4⟩ := hF2 V h1 h2
  obtain ⟨a', c2', us', e4, hl4, hc4, sv', B5, X5, e5, hS5⟩ := row1 hA4
  cases e4
  have e5' : us' = [sv'] := e5
  subst e5'
  have h6 := hc4 0 sv' rfl
  rw [World.cell?_of_block (a := ⟨a, 0, none⟩) (h2 a ha.1 ha.2), hasv] at h6
  cases h6
  exact ⟨_, _, hS5⟩

end Go.Proofs.YtllfmobjkppnaaaGreat

namespace Go.Proofs.YtllfmobjkppnaaaGreat
open Go.RowKit
set_option linter.unusedVariables false

structure FinI (A : Nat → Prop) (ns : List SNodeD) (rs : List SRuleD) (an ar : Option Addr) (cn cr B p : Nat) (W0 w : World) (gv0 qv0 : Value) (qs : Array Value) (m : MkD) (gv qv o : Value) (L : List (List SymD)) (W : World) : Prop where
  mki : MkI A ns rs an ar cn cr B p W0 m gv qv W
  alt : Held (MutA A p gv qv) W (fun V => RowC 1 AltE V o L)
  qb : W.heap[w.heap.size]? = some (.cells qs 133 (0, 0))
  fr : FrA (Mut p gv0 qv0) w W
  lk : ∀ k, k < w.heap.size → Mut p gv qv k → Mut p gv0 qv0 k
theorem alt_cells {A : Nat → Prop} {B : Nat} {v : Value} {xs : List (List SymD)} {w : World} (h : RowH 1 45 AltE A B v xs w) : ∃ cs, w.ownsRow B 45 1 v xs.length cs ∧ cs.length = xs.length * 1 ∧ (∀ u ∈ cs, u.oneCell' = true) ∧ RowO 1 45 (fun _ vs _ => vs.length = 1) B v xs w := by
  obtain ⟨vss, h1, h2, h3, h4⟩ := h
  refine ⟨vss.flatten, h3, h3.1, fun u hu => ?_, ⟨vss, h1, h2, h3, fun i hi hi' => h2 _ (List.getElem_mem _)⟩⟩
  obtain ⟨vs, hvs, hu⟩ := List.mem_flatten.1 hu
  obtain ⟨i, hi, rfl⟩ := List.getElem_of_mem hvs
  obtain ⟨r0, e, hr⟩ := Held.here (h4 i hi (by omega))
  rw [e] at hu
  rw [List.mem_singleton.1 hu]
  obtain ⟨a, c, rfl⟩ := hr.slice
  rfl
/-- Two rows of alternatives, one appended to the other. -/
theorem alts_all {A : Nat → Prop} {B B' : Nat} {v u : Value} {xs ys : List (List SymD)} {w : World} (h : RowH 1 45 AltE A B v xs w) (h' : RowH 1 45 AltE A B' u ys w) (hvA : ∀ k, v.ownBlock = some k → A k) : ∃ cs ds, w.ownsRow B 45 1 v xs.length cs ∧ w.ownsRow B' 45 1 u ys.length ds ∧ ds.length = ys.length * 1 ∧ (∀ u ∈ ds, u.oneCell' = true) ∧ ∀ (g cap : Nat) (w2 : World) (A' : Nat → Prop), w2.ownsRow B 45 1 (.slice (some ⟨g, 0, none⟩) (xs.length + ys.length) cap) (xs.length + ys.length) (cs ++ ds) → w.grownBy w2 v.ownBlock → (∀ k, k < w.heap.size → A' k → A k) → RowH 1 45 AltE A' B (.slice (some ⟨g, 0, none⟩) (xs.length + ys.length) cap) (xs ++ ys) w2 := by
  obtain ⟨cs, ds, h1, h2, h3⟩ := RowH.addAll h h' hvA
  obtain ⟨es, k1, k2, k3, _⟩ := alt_cells h'
  have e : ds = es := by
    rcases h2.2 with ⟨e1, e2⟩ | ⟨g, cap, cur, e1, hB, hc, r⟩
    · have l1 := h2.1
      have l2 := k1.1
      rw [e2] at l1 l2
      have e3 : ds = [] := List.length_eq_zero_iff.1 (by simpa using l1)
      have e4 : es = [] := List.length_eq_zero_iff.1 (by simpa using l2)
      rw [e3, e4]
    · rcases k1.2 with ⟨e3, e4⟩ | ⟨g', cap', cur', e3, hB', hc', r'⟩
      · rw [e3] at e1
        cases e1
      · have e5 := e1.symm.trans e3
        cases e5
        rw [hc] at hc'
        cases hc'
        exact r.2.2.2.symm.trans r'.2.2.2
  subst e
  exact ⟨cs, ds, h1, h2, k2, k3, h3⟩
section
variable {A : Nat → Prop} {ns : List SNodeD} {rs : List SRuleD} {an ar : Option Addr} {cn cr B p : Nat} {W0 w : World} {gv0 qv0 : Value} {qs xs : Array Value} {m : MkD} {gv qv av mv kv : Value} {alts more : List (List SymD)} {kn : List ByteArray} {wr wr' : World}
theorem GwI.fin (h : GwI A ns rs an ar cn cr B p W0 w gv0 qv0 qs xs m gv qv av mv kv alts more kn wr) (hA : ∀ k, A k → k < w.heap.size) : FinI A ns rs an ar cn cr B p W0 w gv0 qv0 qs m gv qv av alts wr := by
  obtain ⟨h1, h2⟩ := h.done hA
  exact ⟨h1, h2, h.qb, h.fr, h.lk⟩
/-- What a row of alternatives in new memory is, at the end. -/
theorem GwI.finNew {W : World} {o : Value} {L : List (List SymD)} {b : Nat} (h : GwI A ns rs an ar cn cr B p W0 w gv0 qv0 qs xs m gv qv av mv kv alts more kn wr) (hA : ∀ k, A k → k < w.heap.size) (hBw : B ≤ w.heap.size) (hR : RowH 1 45 AltE (MutA A p gv qv) b o L W) (hb : w.heap.size ≤ b) (hf : FrA (fun k => av.ownBlock = some k) wr W) (hbe : Below w.heap.size w wr → Below B W0 W) (hB2 : Below B W0 W) : FinI A ns rs an ar cn cr B p W0 w gv0 qv0 qs m gv qv o L W := by
  have hM : MkI A ns rs an ar cn cr B p W0 m gv qv W := h.mki.other hf (fun k hk => .inr (.inl hk)) (alt_off h.als h.mki) hB2 (fun k hk a => .inl a)
  refine ⟨hM, RowH.held hR (fun k hk a => ?_), (hf.block _ (Array.getElem?_eq_some_iff.1 h.qb).1 (alt_ne h.als h.qb (by decide))).trans h.qb, h.fr.trans (A' := fun k => av.ownBlock = some k) hf (fun k hk ha => absurd (RowO.lt h.als k ha).1 (by omega)), h.lk⟩
  rcases a with a | a
  · have := hA k a
    have := (RowO.lt hR k hk).1
    omega
  · obtain ⟨cur, hc⟩ := RowO.type hR hk
    exact hM.off hc (by decide) (by decide) (by decide) a
/-- Again and again: nothing, and what comes again. -/
theorem GwI.star (h : GwI A ns rs an ar cn cr B p W0 w gv0 qv0 qs xs m gv qv av mv kv alts more kn wr) (hA : ∀ k, A k → k < w.heap.size) (hBw : B ≤ w.heap.size) :
    ∃ cs ds, (wr.alloc (.cells #[.slice none 0 0] 45)).ownsRow wr.heap.size 45 1 (.slice (some ⟨wr.heap.size, 0, none⟩) 1 1) 1 cs ∧ (wr.alloc (.cells #[.slice none 0 0] 45)).ownsRow w.heap.size 45 1 mv more.length ds ∧ ds.length = more.length * 1 ∧ (∀ u ∈ ds, u.oneCell' = true) ∧
      ∀ (g cap : Nat) (w2 : World), w2.ownsRow wr.heap.size 45 1 (.slice (some ⟨g, 0, none⟩) (1 + more.length) cap) (1 + more.length) (cs ++ ds) → (wr.alloc (.cells #[.slice none 0 0] 45)).grownBy w2 (some wr.heap.size) → FinI A ns rs an ar cn cr B p W0 w gv0 qv0 qs m gv qv (.slice (some ⟨g, 0, none⟩) (1 + more.length) cap) ([[]] ++ more) w2 := by
  have bal : Below wr.heap.size wr (wr.alloc (.cells #[.slice none 0 0] 45)) := (Below.refl _ _).alloc (Nat.le_refl _) _
  have hsz := h.fr.size
  have hnew : RowH 1 45 AltE (fun k => MutA (AG A av mv) p gv qv k ∨ wr.heap.size = k) wr.heap.size (.slice (some ⟨wr.heap.size, 0, none⟩) 1 1) [[]] (wr.alloc (.cells #[.slice none 0 0] 45)) := by
    refine ⟨[[.slice none 0 0]], rfl, fun vs hvs => by rw [List.mem_singleton.1 hvs]; rfl, ⟨rfl, .inr ⟨wr.heap.size, 1, #[.slice none 0 0], rfl, Nat.le_refl _, heap_alloc_new wr _, Nat.le_refl _, by unfold maxLen; omega, rfl, rfl⟩⟩, fun i hi hi' => ?_⟩
    obtain rfl : i = 0 := by simpa using hi
    intro V _ _
    exact ⟨.slice none 0 0, rfl, none, 0, rfl, fun _ => rfl, fun h0 => absurd h0 (by simp)⟩
  have hmor : RowH 1 45 AltE (fun k => MutA (AG A av mv) p gv qv k ∨ wr.heap.size = k) w.heap.size mv more (wr.alloc (.cells #[.slice none 0 0] 45)) := RowH.below (RowH.go h.mor (FrA.refl _ _) (fun k hk a => a.elim id (fun e => by omega)) (fun _ _ => rfl)) bal
  obtain ⟨cs, ds, h1, h2, h3, h4, h5⟩ := alts_all hnew hmor (fun k hk => .inr (Option.some.inj hk))
  refine ⟨cs, ds, h1, h2, h3, h4, fun g cap w2 ho hg => ?_⟩
  have hR := h5 g cap w2 (MutA A p gv qv) ho hg (fun k hk a => .inl (a.imp .inl id))
  have B2 : Below wr.heap.size wr w2 := bal.grown hg bal.size (fun k hk => by cases hk; exact Nat.le_refl _)
  exact h.finNew hA hBw hR hsz (FrA.below B2) (fun _ => h.mki.bel.trans (B2.mono h.mki.lt)) (h.mki.bel.trans (B2.mono h.mki.lt))
/-- Once, and again and again. -/
theorem GwI.plus (h : GwI A ns rs an ar cn cr B p W0 w gv0 qv0 qs xs m gv qv av mv kv alts more kn wr) (hA : ∀ k, A k → k < w.heap.size) (hBw : B ≤ w.heap.size) :
    ∃ cs ds, wr.ownsRow w.heap.size 45 1 av alts.length cs ∧ wr.ownsRow w.heap.size 45 1 mv more.length ds ∧ ds.length = more.length * 1 ∧ (∀ u ∈ ds, u.oneCell' = true) ∧
      ∀ (g cap : Nat) (w2 : World), w2.ownsRow w.heap.size 45 1 (.slice (some ⟨g, 0, none⟩) (alts.length + more.length) cap) (alts.length + more.length) (cs ++ ds) → wr.grownBy w2 av.ownBlock → FinI A ns rs an ar cn cr B p W0 w gv0 qv0 qs m gv qv (.slice (some ⟨g, 0, none⟩) (alts.length + more.length) cap) (alts ++ more) w2 := by
  obtain ⟨cs, ds, h1, h2, h3, h4, h5⟩ := alts_all h.als h.mor (fun k hk => .inl (.inr (.inl hk)))
  refine ⟨cs, ds, h1, h2, h3, h4, fun g cap w2 ho hg => ?_⟩
  have hR := h5 g cap w2 (MutA A p gv qv) ho hg (fun k hk a => a.imp .inl id)
  have hf : FrA (fun k => av.ownBlock = some k) wr w2 := FrA.grown hg (fun k hk => hk)
  have hB2 : Below B W0 w2 := h.mki.bel.grown hg h.mki.lt (fun k hk => Nat.le_trans hBw (RowO.lt h.als k hk).1)
  exact h.finNew hA hBw hR (Nat.le_refl _) hf (fun _ => hB2) hB2
end

end Go.Proofs.YtllfmobjkppnaaaGreat

namespace Go.Proofs.YtllfmobjkppnaaaGreat
open Go.RowKit
set_option linter.unusedVariables false

set_option maxHeartbeats 800000 in
theorem inRow_any (k : Int) (w : World) : Calls Tryz.prog 83 #[.int .i64 k] w fun e w' => e = .returned (.bool (!(decide (k = 5)))) ∧ w' = w := by
  by_cases h : k = 5
  · have q : (k != 5) = false := by simp [h]
    have HV : Hid (decide (k = 5) = true) := decide_eq_true h
    clear h
    go_enter Tryz.func83, Tryz.ntmps83
    go_wp2
    go_ret
    rw [HV.out]
    exact ⟨by first | rfl | (rw [q]; rfl), rfl⟩
  · have q : (k != 5) = true := by simp [h]
    have HV : Hid (decide (k = 5) = false) := decide_eq_false h
    clear h
    go_enter Tryz.func83, Tryz.ntmps83
    go_wp2
    go_ret
    rw [HV.out]
    exact ⟨by first | rfl | (rw [q]; rfl), rfl⟩

set_option maxHeartbeats 3200000 in
set_option maxRecDepth 100000 in
theorem group_any (ns : List SNodeD) (rs : List SRuleD) (nv rv : Value) (W : World) (i : Nat) (hN : SNs W nv ns) (hR : SRs W rv rs) (hi : i < ns.length) (hk : ns[i].kind ≠ 6 → 0 < ns[i].kids.length) :
    Calls Tryz.prog 89 #[.agg #[nv, rv], .int .i64 i] W fun e w' => e = .returned (.int .i64 (groupS ns i)) ∧ Below W.heap.size W w' := by
  obtain ⟨an, cn, rfl⟩ := RowC.slice hN
  obtain ⟨ar, cr, rfl⟩ := RowC.slice hR
  have S1 : Hid (SBox ns rs W an ar cn cr (W.alloc (.cells #[.slice an ns.length cn, .slice ar rs.length cr] 59))) := sbox_of hN hR
  clear hN hR
  obtain ⟨b, off, aa, ca, ka, ck, rfl, n0, _, _, _, n4, _, hZ⟩ := sNs_at S1.out.nod hi
  have HG : Hid (groupS ns i = if ns[i].kind = 6 then (i : Int) else ns[i].kids.getD 0 0) := by rw [Hid, groupS, nodeS_lt hi]
  have c0 := run_cell (j := 0) S1.out.box rfl
  have i1 : (i : Int) < (ns.length : Int) := by omega
  have HB1 : Hid (Below W.heap.size W (W.alloc (.cells #[.slice (some ⟨b, off, none⟩) ns.length cn, .slice ar rs.length cr] 59))) := S1.out.bel
  by_cases h6 : ns[i].kind = 6
  · rw [if_pos h6] at HG
    rw [h6] at n0
    clear h6 hk hZ S1
    go_enter Tryz.func89, Tryz.ntmps89
    go_wp2
    go_ret
    rw [HG.out]
    exact ⟨rfl, HB1.out⟩
  · have h0 : 0 < ns[i].kids.length := hk h6
    obtain ⟨kb, ko, rfl, hkc⟩ := hZ.at h0
    rw [if_neg h6] at HG
    have q6 : (ns[i].kind == 6) = false := by rw [beq_eq_false_iff_ne]; exact h6
    have HG0 : Hid (groupS ns i = ns[i].kids[0]) := by rw [Hid, HG.out, List.getD_eq_getElem?_getD, List.getElem?_eq_getElem h0]; rfl
    have i2 : (0 : Int) < (ns[i].kids.length : Int) := by omega
    have hkc2 := hkc
    (try simp only [Nat.add_zero] at hkc2)
    clear h6 hk hZ S1 HG
    generalize ns[i].kind = kd at *
    go_enter Tryz.func89, Tryz.ntmps89
    go_wp2
    go_ret
    rw [HG0.out]
    exact ⟨by first | rfl | simp, HB1.out⟩

set_option maxHeartbeats 3200000 in
set_option maxRecDepth 100000 in
theorem params_any (ns : List SNodeD) (rs : List SRuleD) (nv rv : Value) (W : World) (name : ByteArray) (hN : SNs W nv ns) (hR : SRs W rv rs) (hl : rs.length ≤ 100000) :
    Calls Tryz.prog 96 #[.agg #[nv, rv], .string name] W fun e w' => e = .returned (.int .i64 (parsS name rs)) ∧ Below W.heap.size W w' := by
  obtain ⟨an, cn, rfl⟩ := RowC.slice hN
  obtain ⟨ar, cr, rfl⟩ := RowC.slice hR
  have S1 : Hid (SBox ns rs W an ar cn cr (W.alloc (.cells #[.slice an ns.length cn, .slice ar rs.length cr] 59))) := sbox_of hN hR
  clear hN hR
  have c1 := run_cell (j := 1) S1.out.box rfl
  go_enter Tryz.func96, Tryz.ntmps96
  go_wp2
  generalize W.alloc (.cells #[.slice an ns.length cn, .slice ar rs.length cr] 59) = W1 at *
  go_loopg [5] rs.length (fun gg kv wr => ∃ i : Nat, kv = .int .i64 i ∧ gg + i = rs.length ∧ parsS name (rs.drop i) = parsS name rs ∧ wr = W1)
  case atStart => exact ⟨0, rfl, by omega, rfl, rfl⟩
  case round =>
    obtain ⟨i, rfl, hg, hE, rfl⟩ := hrel
    have HE : Hid (parsS name (rs.drop i) = parsS name rs) := hE
    clear hE
    by_cases hi : i < rs.length
    · have i1 : (i : Int) < (rs.length : Int) := by omega
      have d1 : decide ((i : Int) < (rs.length : Int)) = true := decide_eq_true i1
      obtain ⟨g, off, pa, pc, rfl, n0, n1, _, _⟩ := sRs_at S1.out.rul hi
      have HD : Hid (parsS name (rs.drop i) = if rs[i].name = name then (rs[i].params.length : Int) else parsS name (rs.drop (i + 1))) := by rw [Hid, List.drop_eq_getElem_cons hi, parsS]
      by_cases hn : rs[i].name = name
      · have qs := beq_yes hn
        rw [HE.out, if_pos hn] at HD
        clear hn
        go_wp2
        go_ret
        rw [HD.out]
        exact ⟨rfl, S1.out.bel⟩
      · have qs := beq_no hn
        rw [HE.out, if_neg hn] at HD
        clear hn
        have w1 : IntKind.i64.wrap ((i : Int) + 1) = ((i + 1 : Nat) : Int) := by rw [IntKind.wrap_i64]; omega
        obtain ⟨f, rfl⟩ : ∃ f, gk = f + 1 := ⟨gk - 1, by omega⟩
        go_wp2
        go_roundg f
        case measure => omega
        case rel => exact ⟨i + 1, by go_num, by omega, HD.out.symm, rfl⟩
    · have d1 : decide ((i : Int) < (rs.length : Int)) = false := decide_eq_false (by omega)
      have HV : Hid (parsS name rs = -1) := by rw [Hid, ← HE.out, List.drop_of_length_le (by omega)]; rfl
      clear HE
      go_wp2
      go_ret
      rw [HV.out]
      exact ⟨rfl, S1.out.bel⟩

set_option maxHeartbeats 3200000 in
set_option maxRecDepth 100000 in
theorem leaf_any (k : Int) (t b : ByteArray) (aa : Option Addr) (la ca : Nat) (ka : Option Addr) (lk ck : Nat) (W : World) :
    Calls Tryz.prog 86 #[.agg #[.int .i64 k, .string t, .slice aa la ca, .string b, .slice ka lk ck]] W fun e w' => e = .returned (.agg #[.int .i64 k, .string t, .slice aa la ca, .string b]) ∧ Below W.heap.size W w' := by
  have bal : Below W.heap.size W (W.alloc (.cells #[.int .i64 k, .string t, .slice aa la ca, .string b, .slice ka lk ck] 121)) := (Below.refl _ _).alloc (Nat.le_refl _) _
  have X1 := heap_alloc_new W (.cells #[.int .i64 k, .string t, .slice aa la ca, .string b, .slice ka lk ck] 121)
  have bal2 : Hid (Below W.heap.size W ((W.alloc (.cells #[.int .i64 k, .string t, .slice aa la ca, .string b, .slice ka lk ck] 121)).alloc (.cells #[.int .i64 0, .string ⟨#[]⟩, .slice none 0 0, .string ⟨#[]⟩] 48))) := bal.alloc (by simp) _
  have X2 := xb_alloc X1 (.cells #[.int .i64 0, .string ⟨#[]⟩, .slice none 0 0, .string ⟨#[]⟩] 48)
  have Y2 := heap_alloc_new (W.alloc (.cells #[.int .i64 k, .string t, .slice aa la ca, .string b, .slice ka lk ck] 121)) (.cells #[.int .i64 0, .string ⟨#[]⟩, .slice none 0 0, .string ⟨#[]⟩] 48)
  rw [show (W.alloc (.cells #[.int .i64 k, .string t, .slice aa la ca, .string b, .slice ka lk ck] 121)).heap.size = W.heap.size + 1 by simp] at Y2
  have c0 := run_cell (j := 0) X2 rfl
  have c1 := run_cell (j := 1) X2 rfl
  have c2 := run_cell (j := 2) X2 rfl
  have c3 := run_cell (j := 3) X2 rfl
  have y0 := run_cell (j := 0) Y2 rfl
  have y1 := run_cell (j := 1) Y2 rfl
  have y2 := run_cell (j := 2) Y2 rfl
  have y3 := run_cell (j := 3) Y2 rfl
  have HBr : Hid (Below W.heap.size W ((W.alloc (.cells #[.int .i64 k, .string t, .slice aa la ca, .string b, .slice ka lk ck] 121)).alloc (.cells #[.int .i64 k, .string t, .slice aa la ca, .string b] 48))) := bal.alloc (by simp) _
  clear X1 X2 Y2 bal bal2
  go_enter Tryz.func86, Tryz.ntmps86
  go_wp2
  refine bodyPost_ret (by simp [results, Tryz.results86, go_sem]; try rfl) rfl ?_
  exact ⟨rfl, HBr.out⟩

end Go.Proofs.YtllfmobjkppnaaaGreat
