/- Rows made plain: what grows, and how much. No program is named. -/
/- A copied grammar that is written into: what its rows are behind it. -/
/- A copied grammar that is written into in one of seven ways. -/
/- What the verifier's own draws answer: some number, or some text, within bounds; they write into the cursor that they make and into nothing else. -/
import Derived.Test.YtipkbkhnaekceaaFlG0
import Derived.Test.YtipkbkhnaekceaaFlP
import Derived.Test.YtipkbkhnaekceaaRows
import Derived.Test.YtipkbkhnaekceaaDecPure
import Derived.Deep.RegionHeld3
import Derived.Deep.AppendLies
namespace Go.Proofs.Ytipkbkhnaekceaa
open Go.RowKit
set_option linter.unusedVariables false

structure Grew (m m' : MkD) (n : Nat) : Prop where
  rules : ∃ l, m'.rules = m.rules ++ l
  rl : m'.rules.length ≤ m.rules.length + n
  ql : m'.queue.length ≤ m.queue.length + n
  cl : m'.count ≤ m.count + n
theorem Grew.refl (m : MkD) : Grew m m 0 := ⟨⟨[], by simp⟩, by omega, by omega, by omega⟩
theorem Grew.trans {m m1 m2 : MkD} {a b c : Nat} (h : Grew m m1 a) (k : Grew m1 m2 b) (hc : a + b ≤ c) : Grew m m2 c := by
  obtain ⟨l, e⟩ := h.rules
  obtain ⟨l2, e2⟩ := k.rules
  have h1 := h.rl
  have h2 := h.ql
  have h3 := h.cl
  have k1 := k.rl
  have k2 := k.ql
  have k3 := k.cl
  exact ⟨⟨l ++ l2, by rw [e2, e, List.append_assoc]⟩, by omega, by omega, by omega⟩
theorem Grew.at {m m' : MkD} {n ri : Nat} (h : Grew m m' n) (hr : ri < m.rules.length) : ∃ h' : ri < m'.rules.length, m'.rules[ri] = m.rules[ri] := by
  obtain ⟨l, e⟩ := h.rules
  refine ⟨by rw [e, List.length_append]; omega, ?_⟩
  simp only [e]
  exact List.getElem_append_left hr
theorem rowK_grew (ns : List SNodeD) : ∀ (ks : List Int) (m : MkD) (kn : List ByteArray) (out : List SymD), Grew m (rowK ns m kn out ks).1 ks.length ∧ (rowK ns m kn out ks).2.length = out.length + ks.length
  | [], m, kn, out => ⟨Grew.refl m, rfl⟩
  | k :: ks, m, kn, out => by
    rw [rowK]
    split
    · obtain ⟨h1, h2⟩ := rowK_grew ns ks m (if (nodeS ns k).bind = em then kn else putS kn (nodeS ns k).bind) (out ++ [leafS (nodeS ns k)])
      exact ⟨(Grew.refl m).trans h1 (by simp), by rw [h2]; simp; omega⟩
    · obtain ⟨h1, h2⟩ := rowK_grew ns ks { rules := m.rules ++ [⟨xName m.count, kn, []⟩], queue := m.queue ++ [(k, m.rules.length, kn)], count := m.count + 1 } kn (out ++ [⟨3, xName m.count, kn.map varE, em⟩])
      refine ⟨Grew.trans (a := 1) ⟨⟨_, rfl⟩, by simp, by simp, Nat.le_refl _⟩ h1 (by simp; omega), by rw [h2]; simp; omega⟩
/-- Syms that may be copied. -/
def SymCp (s : SymD) : Prop := s.args.length ≤ 1048576 ∧ ∀ e ∈ s.args, e.length ≤ 1048576 ∧ ∀ x ∈ e, x.kids.length ≤ 1048576
theorem leaf_cp {ns : List SNodeD} (hL : LeafsIn ns) (k : Int) : SymCp (leafS (nodeS ns k)) := by
  rcases Nat.lt_or_ge k.toNat ns.length with h | h
  · have e : nodeS ns k = ns[k.toNat] := by rw [nodeS, List.getD_eq_getElem?_getD, List.getElem?_eq_getElem h]; rfl
    rw [e]
    obtain ⟨h1, h2⟩ := hL _ (List.getElem_mem h)
    refine ⟨?_, fun x hx => ⟨(h2 x hx).1, fun y hy => ((h2 x hx).2 y hy).2.1⟩⟩
    have := rowTot_len exprTot ns[k.toNat].args
    have h3 : symTot (leafS ns[k.toNat]) = ns[k.toNat].text.size + rowTot exprTot ns[k.toNat].args + ns[k.toNat].bind.size := rfl
    show ns[k.toNat].args.length ≤ _
    omega
  · have e : nodeS ns k = default := by rw [nodeS, List.getD_eq_getElem?_getD, List.getElem?_eq_none h]; rfl
    rw [e]
    exact ⟨Nat.zero_le _, fun x hx => by cases hx⟩
theorem rowK_cp (ns : List SNodeD) (hL : LeafsIn ns) : ∀ (ks : List Int) (m : MkD) (kn : List ByteArray) (out : List SymD) (b : Nat), kn.length + 1 ≤ b → b * 2 ^ ks.length ≤ 1048576 → (∀ s ∈ out, SymCp s) → ∀ s ∈ (rowK ns m kn out ks).2, SymCp s
  | [], m, kn, out, b, hb, hk, ho => ho
  | k :: ks, m, kn, out, b, hb, hk, ho => by
    have hk2 : (2 * b) * 2 ^ ks.length ≤ 1048576 := by
      rw [List.length_cons, Nat.pow_succ] at hk
      rw [Nat.mul_comm 2 b, Nat.mul_assoc, Nat.mul_comm 2]
      exact hk
    have hp : 1 ≤ 2 ^ ks.length := Nat.one_le_two_pow
    have hb1 : b ≤ 1048576 := by
      have : b * 1 ≤ b * 2 ^ (k :: ks).length := Nat.mul_le_mul_left b Nat.one_le_two_pow
      omega
    rw [rowK]
    split
    · refine rowK_cp ns hL ks _ _ _ (2 * b) ?_ hk2 (fun s hs => ?_)
      · split
        · omega
        · have := putS_len kn (nodeS ns k).bind
          omega
      · rcases List.mem_append.1 hs with hs | hs
        · exact ho s hs
        · rw [List.mem_singleton.1 hs]; exact leaf_cp hL k
    · refine rowK_cp ns hL ks _ _ _ (2 * b) (by omega) hk2 (fun s hs => ?_)
      rcases List.mem_append.1 hs with hs | hs
      · exact ho s hs
      · rw [List.mem_singleton.1 hs]
        refine ⟨by rw [List.length_map]; omega, fun e he => ?_⟩
        obtain ⟨x, _, rfl⟩ := List.mem_map.1 he
        exact ⟨by simp [varE], fun y hy => by rw [List.mem_singleton.1 hy]; exact Nat.zero_le _⟩
/-- One copied rule, of one alternative. -/
theorem copy_one {syms : List SymD} (hl : syms.length ≤ 1048576) (h : ∀ s ∈ syms, SymCp s) : CopyIn [⟨em, [], [syms]⟩] := by
  refine ⟨by simp, fun r hr => ?_⟩
  rw [List.mem_singleton.1 hr]
  refine ⟨Nat.zero_le _, by simp, fun a ha => ?_⟩
  rw [List.mem_singleton.1 ha]
  exact ⟨hl, h⟩
/-- What the rows behind one bring. -/
theorem rowsK_cons (ns : List SNodeD) (kn : List ByteArray) (m : MkD) (alts : List (List SymD)) (k : Int) (ks : List Int) : rowsK ns kn m alts (k :: ks) = rowsK ns kn (rowK ns m kn [] (nodeS ns k).kids).1 (alts ++ [(rowK ns m kn [] (nodeS ns k).kids).2]) ks := by
  rw [rowsK]
/-- The alternatives that a group is given, by its kind. -/
def kindAlts (k : Int) (alts more : List (List SymD)) : List (List SymD) := if k = 9 then alts ++ [[]] else if k = 7 then [[]] ++ more else if k = 8 then alts ++ more else alts
theorem groupM_is (ns : List SNodeD) (m m1 : MkD) (z : Nat) (ri : Nat) (kn : List ByteArray) (alts more : List (List SymD)) (nm : ByteArray) (h : rowsK ns kn m [] (nodeS ns (groupS ns (z : Int))).kids = (m1, alts)) (hn : (m1.rules.getD ri default).name = nm) (hm : more = alts.map fun s => s ++ [⟨3, nm, kn.map varE, em⟩]) :
    groupM ns m ((z : Int), ri, kn) = { m1 with rules := setAlts m1.rules ri (kindAlts (nodeS ns (z : Int)).kind alts more) } := by
  unfold groupM
  simp only [h, hn, ← hm]
  rfl

/-- Another thing laid into a block. -/
def putW (w : World) (k : Nat) (o : Obj) : World := { w with heap := w.heap.setIfInBounds k o }
theorem putW_size (w : World) (k : Nat) (o : Obj) : (putW w k o).heap.size = w.heap.size := by simp [putW]
theorem putW_other (w : World) {k j : Nat} (o : Obj) (h : j ≠ k) : (putW w k o).heap[j]? = w.heap[j]? := by simp [putW, Ne.symm h]
theorem putW_self (w : World) {k : Nat} (o : Obj) (h : k < w.heap.size) : (putW w k o).heap[k]? = some o := by simp [putW, h]
section
variable {α : Type} {sz : Nat} {T : TypeId} {E : World → List Value → α → Prop} {base : Nat} {v : Value} {xs : List α} {w : World}
/-- A row that lies in every world that has the blocks from the base on has its own there. -/
theorem fresh_own (h : Fresh base w (fun V => ∃ B X, RowI sz T E B X v xs V)) : ∀ k, v.ownBlock = some k → base ≤ k ∧ k < w.heap.size := fun k hk => by
  obtain ⟨B, X, h0⟩ := h.here
  have hlt := (h0.lt k hk).2
  refine ⟨?_, hlt⟩
  rcases Nat.lt_or_ge k base with hb | hb
  · obtain ⟨B', X', h1⟩ := h (putW w k (.stringIter ⟨#[]⟩ 0)) (by rw [putW_size]; exact Nat.le_refl _) (fun j hj _ => putW_other w _ (by omega))
    obtain ⟨cur, hc⟩ := h1.type hk
    rw [putW_self w _ hlt] at hc
    cases hc
  · exact hb
/-- What its elements reach hangs neither on what is below the base nor on the row itself. -/
theorem rowH_fresh (hsz : 0 < sz) (h : Fresh base w (fun V => ∃ B X, RowI sz T E B X v xs V)) : RowH sz T E (Own0 base v) base v xs w := by
  have hown := fresh_own h
  obtain ⟨B, X, h0⟩ := h.here
  obtain ⟨vss, cut, h1, h2, h3, h4, h5⟩ := h0
  refine ⟨vss, h1, h2, ⟨h3.1, ?_⟩, fun i hi hi' => ?_⟩
  · rcases h3.2 with hn | ⟨g, cap, cur, rfl, hB, hc, r⟩
    · exact .inl hn
    · exact .inr ⟨g, cap, cur, rfl, (hown g rfl).1, hc, r⟩
  · intro V hV hbl
    -- the world with the row as it was
    have key : ∃ V' : World, w.heap.size ≤ V'.heap.size ∧ (∀ k, base ≤ k → k < w.heap.size → V'.heap[k]? = w.heap[k]?) ∧ (∀ k, v.ownBlock ≠ some k → V.heap[k]? = V'.heap[k]?) ∧ V'.heap.size = V.heap.size := by
      cases hv : v.ownBlock with
      | none => exact ⟨V, hV, fun k h1 h2 => hbl k h2 (fun a => a.elim (fun h => by omega) (fun h => by rw [hv] at h; cases h)), fun k _ => rfl, rfl⟩
      | some g =>
        have hg := hown g hv
        obtain ⟨ob, hob⟩ : ∃ ob, w.heap[g]? = some ob := ⟨_, Array.getElem?_eq_getElem hg.2⟩
        refine ⟨putW V g ob, by rw [putW_size]; exact hV, fun k h1 h2 => ?_, fun k hk => (putW_other V ob (fun e => hk (by rw [e]))).symm, putW_size _ _ _⟩
        by_cases e : k = g
        · subst e
          rw [putW_self V ob (by omega), hob]
        · rw [putW_other V ob e]
          exact hbl k h2 (fun a => a.elim (fun h => by omega) (fun h => by rw [hv] at h; exact e (Option.some.inj h).symm))
    obtain ⟨V', k1, k2, k3, k4⟩ := key
    obtain ⟨B', X', h0'⟩ := h V' k1 k2
    obtain ⟨uss, cut', q1, q2, q3, q4, q5⟩ := h0'
    have hl : vss.length = uss.length := by rw [h1, q1]
    have hflat : vss.flatten = uss.flatten := by
      rcases h3.2 with ⟨e1, e2⟩ | ⟨g, cap, cur, e1, hB, hc, r⟩
      · rw [List.length_eq_zero_iff.1 (h1.trans e2), List.length_eq_zero_iff.1 (q1.trans e2)]
      · rcases q3.2 with ⟨e3, e4⟩ | ⟨g', cap', cur', e3, hB', hc', r'⟩
        · rw [e3] at e1
          cases e1
        · have e5 := e1.symm.trans e3
          cases e5
          have e6 := (hown g (by rw [e1]; rfl))
          rw [k2 g e6.1 e6.2, hc] at hc'
          cases hc'
          exact r.2.2.2.symm.trans r'.2.2.2
    have hui : uss[i]'(by omega) = vss[i] := by
      have e1 : ∀ (a : List (List Value)) (ha : ∀ x ∈ a, x.length = sz) (hi : i < a.length), a[i] = (a.flatten.drop (i * sz)).take sz := fun a ha hi => by
        apply List.ext_getElem?
        intro j
        rw [List.getElem?_take]
        split
        · rename_i hj
          rw [List.getElem?_drop]
          have := flat_at sz a ha i j hi (by rw [ha _ (List.getElem_mem _)]; exact hj)
          rw [this]
          exact List.getElem?_eq_getElem _
        · rename_i hj
          exact List.getElem?_eq_none (by rw [ha _ (List.getElem_mem _)]; omega)
      rw [e1 uss q2 (by omega), e1 vss h2 hi, hflat]
    obtain ⟨a, b, c, d⟩ := q4 i (by omega) hi'
    rw [hui] at a
    exact a.2 V (by have := a.1; omega) (fun k hk1 hk2 => k3 k (fun e => by rcases d k e with h | h <;> omega))
end
/-- A copied rule's one alternative, taken out. -/
theorem copied_at {w : World} {o : Value} {base X : Nat} {syms : List SymD} (h : Fresh base w (fun V => RowI 3 40 RuleI (base + 3) X o [⟨em, [], [syms]⟩] V)) :
    ∃ (g c1 a c2 : Nat) (sv : Value), o = .slice (some ⟨g, 0, none⟩) 1 c1 ∧ w.cell? ⟨g, 2, none⟩ = some (.slice (some ⟨a, 0, none⟩) 1 c2) ∧ w.cell? ⟨a, 0, none⟩ = some sv ∧ Fresh base w (fun V => ∃ B X, RowI 4 51 SymE B X sv syms V) := by
  have row1 : ∀ {β : Type} {sz : Nat} {T : TypeId} {E : World → List Value → β → Prop} {B X : Nat} {v : Value} {x : β} {V : World}, RowI sz T E B X v [x] V → ∃ (g c : Nat) (vs : List Value), v = .slice (some ⟨g, 0, none⟩) 1 c ∧ vs.length = sz ∧ (∀ j u, vs[j]? = some u → V.cell? ⟨g, j, none⟩ = some u) ∧ E V vs x := by
    intro β sz T E B X v x V hr
    obtain ⟨vss, cut, h1, h2, h3, h4, h5⟩ := hr
    obtain ⟨v0, rfl⟩ : ∃ v0, vss = [v0] := by
      cases vss with
      | nil => simp at h1
      | cons a l =>
        have : l = [] := List.length_eq_zero_iff.1 (by simpa using h1)
        subst this; exact ⟨a, rfl⟩
    rcases h3.2 with ⟨_, h0⟩ | ⟨g, c, cur, ho, hB, hc, r⟩
    · simp at h0
    refine ⟨g, c, v0, ho, h2 _ (by simp), fun j u hj => ?_, ((h4 0 (by simp) (by simp)).1).here⟩
    have := World.ownsRow.cells h3 (g := g) (by rw [ho]; rfl) j u (by simpa using hj)
    rwa [Addr.add_lit, Nat.zero_add] at this
  obtain ⟨g, c1, vs, rfl, hl, hc, pv, av, B0, B1, X1, e, hp, _, hA⟩ := row1 h.here
  have e' : vs = [.string em, pv, av] := e
  subst e'
  have hg : base ≤ g ∧ g < w.heap.size := by
    have := h.here.lt g rfl
    exact ⟨by omega, this.2⟩
  have hgav := hc 2 av rfl
  have hF2 : Fresh base w (fun V => ∃ B X, RowI 1 48 AltI B X av [syms] V) := fun V h1 h2 => by
    obtain ⟨g', c1', vs', e1, hl', hc', pv', av', B0', B1', X1', e2, _, _, hA'⟩ := row1 (h V h1 h2)
    cases e1
    have e2' : vs' = [.string em, pv', av'] := e2
    subst e2'
    have h3 := hc' 2 av' rfl
    rw [World.cell?_of_block (a := ⟨g, 2, none⟩) (h2 g hg.1 hg.2), hgav] at h3
    cases h3
    exact ⟨_, _, hA'⟩
  obtain ⟨B2, X2, hA2⟩ := hF2.here
  obtain ⟨a, c2, us, rfl, hl2, hc2, sv, B3, X3, e3, hS⟩ := row1 hA2
  have e3' : us = [sv] := e3
  subst e3'
  have ha := fresh_own hF2 a rfl
  have hasv := hc2 0 sv rfl
  refine ⟨g, c1, a, c2, sv, rfl, hgav, hasv, fun V h1 h2 => ?_⟩
  obtain ⟨B4, X4, hA4⟩ := hF2 V h1 h2
  obtain ⟨a', c2', us', e4, hl4, hc4, sv', B5, X5, e5, hS5⟩ := row1 hA4
  cases e4
  have e5' : us' = [sv'] := e5
  subst e5'
  have h6 := hc4 0 sv' rfl
  rw [World.cell?_of_block (a := ⟨a, 0, none⟩) (h2 a ha.1 ha.2), hasv] at h6
  cases h6
  exact ⟨_, _, hS5⟩

end Go.Proofs.Ytipkbkhnaekceaa

namespace Go.Proofs.Ytipkbkhnaekceaa
open Go.RowKit
set_option linter.unusedVariables false
section
variable {α : Type} {sz : Nat} {T : TypeId} {E E' : World → List Value → α → Prop} {B X lo hi : Nat} {v : Value} {xs : List α} {w : World}

/-- A row that lies in every world that has the blocks from lo to hi has its own there. -/
theorem inI_own (h : InI lo hi w (fun V => ∃ B X, RowI sz T E B X v xs V)) : ∀ k, v.ownBlock = some k → lo ≤ k ∧ k < hi := fun k hk => by
  obtain ⟨B, X, h0⟩ := h.here
  have hlt := (h0.lt k hk).2
  by_cases hb : lo ≤ k ∧ k < hi
  · exact hb
  · obtain ⟨B', X', h1⟩ := h.2 (putW w k (.stringIter ⟨#[]⟩ 0)) (by rw [putW_size]; exact h.1) (fun j hj hj' => putW_other w _ (fun e => hb (by omega)))
    obtain ⟨cur, hc⟩ := h1.type hk
    rw [putW_self w _ hlt] at hc
    cases hc

/-- One element of a row, and what it is when it is written into. -/
theorem rowI_turn (hE : ∀ W vs x, E W vs x → E' W vs x) (h : RowI sz T E B X v xs w) (i : Nat) (hi : i < xs.length) :
    ∃ (g cap lo hi' : Nat) (vs : List Value), v = .slice (some ⟨g, 0, none⟩) xs.length cap ∧ vs.length = sz ∧ (∀ j (hj : j < vs.length), w.cell? ⟨g, i * sz + j, none⟩ = some vs[j]) ∧ (∃ cur, w.heap[g]? = some (.cells cur T (0, 0))) ∧ InI lo hi' w (fun W => E W vs xs[i]) ∧ B ≤ lo ∧ hi' ≤ X ∧ (g < lo ∨ hi' ≤ g) ∧ B ≤ g ∧ g < w.heap.size ∧
      ∀ (w' : World) (vs' : List Value) (x' : α) (A' : Nat → Prop), FrA (fun k => k < B ∨ k = g ∨ (lo ≤ k ∧ k < hi')) w w' → (∀ k, A' k → k < B) →
        ((w'.heap[g]? = w.heap[g]? ∧ vs' = vs) ∨ ∃ j u, j < sz ∧ vs' = vs.set j u ∧ w'.heap[g]? = (w.setCell ⟨g, i * sz + j, none⟩ u).heap[g]?) →
        Held A' w' (fun V => E' V vs' x') → Held A' w' (fun V => RowC sz E' V v (xs.set i x')) := by
  obtain ⟨vss, cut, h1, h2, h3, h4, h5⟩ := h
  have hiv : i < vss.length := by omega
  rcases h3.2 with ⟨_, h0⟩ | ⟨g, cap, cur, rfl, hB, hc, hle, hm, hs, ht⟩
  · omega
  have hgl : g < w.heap.size := (Array.getElem?_eq_some_iff.1 hc).1
  have cells : ∀ a (ha : a < vss.length) j (hj : j < vss[a].length), w.cell? ⟨g, a * sz + j, none⟩ = some vss[a][j] := fun a ha j hj => by
    have e : vss.flatten[a * sz + j]? = some vss[a][j] := by
      have hl2 : ∀ (l : List (List Value)) (a : Nat) (ha : a < l.length) (j : Nat) (hj : j < l[a].length), (∀ vs ∈ l, vs.length = sz) → l.flatten[a * sz + j]? = some l[a][j] := by
        intro l
        induction l with
        | nil => intro a ha; cases ha
        | cons y ys ih =>
          intro a ha j hj hy
          have hy0 := hy y (by simp)
          cases a with
          | zero =>
            rw [List.flatten_cons, Nat.zero_mul, Nat.zero_add, List.getElem?_append_left (by simpa using hj)]
            simp
          | succ a =>
            have := ih a (by simpa using ha) j (by simpa using hj) (fun vs hv => hy vs (by simp [hv]))
            rw [List.flatten_cons, List.getElem?_append_right (by rw [hy0, Nat.succ_mul]; omega), hy0, show (a + 1) * sz + j - sz = a * sz + j by rw [Nat.succ_mul]; omega]
            simpa using this
      exact hl2 vss a ha j hj h2
    have := World.ownsRow.cells h3 (g := g) rfl _ _ e
    rwa [Addr.add_lit, Nat.zero_add] at this
  have hlen : vss[i].length = sz := h2 _ (List.getElem_mem hiv)
  obtain ⟨k1, k2, k3, k4⟩ := h4 i hiv hi
  refine ⟨g, cap, (cut i).1, (cut i).2, vss[i], rfl, hlen, fun j hj => cells i hiv j hj, ⟨cur, hc⟩, k1, k2, k3, k4 g rfl, hB, hgl, ?_⟩
  intro w' vs' x' A' hfr hA' hst hx V hV hbl
  have hgA : ¬ A' g := fun h => by have := hA' g h; omega
  have hVg : V.heap[g]? = w'.heap[g]? := hbl g (Nat.lt_of_lt_of_le hgl hfr.size) hgA
  have hVc : ∀ p, V.cell? ⟨g, p, none⟩ = w'.cell? ⟨g, p, none⟩ := fun p => World.cell?_of_block hVg
  refine ⟨some ⟨g, 0, none⟩, cap, by rw [List.length_set], fun h => (by cases h), fun _ => ⟨g, 0, rfl, Nat.lt_of_lt_of_le (Nat.lt_of_lt_of_le hgl hfr.size) hV, fun a ha => ?_⟩⟩
  rw [List.length_set] at ha
  have hav : a < vss.length := by omega
  by_cases e : a = i
  · subst e
    rw [List.getElem_set_self]
    rcases hst with ⟨hsame, rfl⟩ | ⟨j0, u, hj0, rfl, hset⟩
    · exact ⟨vss[a], hlen, fun j hj => by rw [Nat.zero_add, hVc, World.cell?_of_block (w := w) (w' := w') hsame]; exact cells a hav j hj, hx V hV hbl⟩
    · refine ⟨vss[a].set j0 u, by rw [List.length_set]; exact hlen, fun j hj => ?_, hx V hV hbl⟩
      rw [List.length_set] at hj
      rw [Nat.zero_add, hVc, World.cell?_of_block (w := w.setCell ⟨g, a * sz + j0, none⟩ u) (w' := w') hset]
      by_cases ej : j = j0
      · subst ej
        rw [List.getElem_set_self]
        exact World.cell?_setCell_same _ _ _ (cells a hav j (by simpa using hj))
      · rw [List.getElem_set_ne (fun h => ej h.symm), World.cell?_setCell_other _ _ _ _ (fun h => ej (by simp only [Addr.mk.injEq, true_and, and_true] at h; omega))]
        exact cells a hav j hj
  · rw [List.getElem_set_ne (fun h => e h.symm)]
    have hla : vss[a].length = sz := h2 _ (List.getElem_mem hav)
    refine ⟨vss[a], hla, fun j hj => ?_, ?_⟩
    · rw [Nat.zero_add, hVc]
      rcases hst with ⟨hsame, _⟩ | ⟨j0, u, hj0, _, hset⟩
      · rw [World.cell?_of_block (w := w) (w' := w') hsame]; exact cells a hav j hj
      · rw [World.cell?_of_block (w := w.setCell ⟨g, i * sz + j0, none⟩ u) (w' := w') hset, World.cell?_setCell_other _ _ _ _ (fun h => ?_)]
        · exact cells a hav j hj
        · simp only [Addr.mk.injEq, true_and, and_true] at h
          rw [hla] at hj
          rcases Nat.lt_or_gt_of_ne e with h1 | h1
          · have : (a + 1) * sz ≤ i * sz := Nat.mul_le_mul_right _ h1
            rw [Nat.succ_mul] at this
            omega
          · have : (i + 1) * sz ≤ a * sz := Nat.mul_le_mul_right _ h1
            rw [Nat.succ_mul] at this
            omega
    · obtain ⟨m1, m2, m3, m4⟩ := h4 a hav ha
      refine hE _ _ _ (m1.2 V (Nat.le_trans m1.1 (Nat.le_trans hfr.size hV)) (fun k hk1 hk2 => ?_))
      have hkw : k < w.heap.size := Nat.lt_of_lt_of_le hk2 m1.1
      rw [hbl k (Nat.lt_of_lt_of_le hkw hfr.size) (fun h => by have := hA' k h; omega)]
      refine hfr.block k hkw (fun h => ?_)
      rcases h with h | rfl | ⟨h, h'⟩
      · omega
      · have := m4 k rfl
        omega
      · rcases Nat.lt_or_gt_of_ne e with e1 | e1
        · have := h5 a i e1 hi
          omega
        · have := h5 i a e1 ha
          omega
end

/-- A block laid anew. -/
theorem putW_back {V w : World} {k : Nat} (hk : k < w.heap.size) (hs : w.heap.size ≤ V.heap.size) : ∃ o, w.heap[k]? = some o ∧ (putW V k o).heap[k]? = w.heap[k]? ∧ (putW V k o).heap.size = V.heap.size ∧ ∀ j, j ≠ k → (putW V k o).heap[j]? = V.heap[j]? := by
  obtain ⟨o, ho⟩ : ∃ o, w.heap[k]? = some o := ⟨_, Array.getElem?_eq_getElem hk⟩
  exact ⟨o, ho, by rw [putW_self V o (Nat.lt_of_lt_of_le hk hs), ho], putW_size _ _ _, fun j hj => putW_other V o hj⟩
/-- A row whose blocks lie from B on, where only blocks below B turned. -/
theorem rowI_low {α : Type} {sz : Nat} {T : TypeId} {E : World → List Value → α → Prop} {B X : Nat} {v : Value} {xs : List α} {w w' : World} (h : RowI sz T E B X v xs w) (hs : w'.heap.size = w.heap.size) (hk : ∀ k, B ≤ k → w'.heap[k]? = w.heap[k]?) : RowC sz E w' v xs := by
  obtain ⟨vss, cut, h1, h2, h3, h4, h5⟩ := h
  refine RowO.row (sz := sz) (T := T) (E := E) (B := B) ⟨vss, h1, h2, ⟨h3.1, ?_⟩, fun i hi hi' => ?_⟩
  · rcases h3.2 with hn | ⟨g, cap, cur, rfl, hB, hc, r⟩
    · exact .inl hn
    · exact .inr ⟨g, cap, cur, rfl, hB, (hk g hB).trans hc, r⟩
  · obtain ⟨a, b, c, d⟩ := h4 i hi hi'
    exact a.2 w' (by have := a.1; omega) (fun k k1 k2 => hk k (Nat.le_trans b k1))
/-- A rule whose name is another. -/
theorem ruleI_name {lo hi : Nat} {w w' : World} {nm s : ByteArray} {pv av : Value} {r : RuleD} {A' : Nat → Prop} (h : InI lo hi w (fun W => RuleI W [.string nm, pv, av] r)) (hs : w.heap.size ≤ w'.heap.size) (hk : ∀ k, lo ≤ k → k < hi → w'.heap[k]? = w.heap[k]?) (hA : ∀ k, A' k → k < lo) :
    Held A' w' (fun V => RuleE V [.string s, pv, av] { r with name := s }) := by
  refine ((h.go (Nat.le_trans h.1 hs) hk).held (fun k hk => .inl (hA k hk))).imp fun V hV => ?_
  obtain ⟨pv', av', e, h1, h2⟩ := hV.rule
  simp only [List.cons.injEq, Value.string.injEq, and_true] at e
  obtain ⟨_, rfl, rfl⟩ := e
  exact ⟨_, _, rfl, h1, h2⟩
/-- A rule without alternatives. -/
theorem ruleI_none {lo hi : Nat} {w w' : World} {nm : ByteArray} {pv av : Value} {r : RuleD} {A' : Nat → Prop} {a : Addr} {cap : Nat} (h : InI lo hi w (fun W => RuleI W [.string nm, pv, av] r)) (hs : w.heap.size ≤ w'.heap.size) (hk : ∀ k, lo ≤ k → k < hi → w'.heap[k]? = w.heap[k]?) (hA : ∀ k, A' k → k < lo) :
    Held A' w' (fun V => RuleE V [.string nm, pv, .slice (some a) 0 cap] { r with alts := [] }) := by
  refine ((h.go (Nat.le_trans h.1 hs) hk).held (fun k hk => .inl (hA k hk))).imp fun V hV => ?_
  obtain ⟨pv', av', e, h1, h2⟩ := hV.rule
  simp only [List.cons.injEq, Value.string.injEq, and_true] at e
  obtain ⟨rfl, rfl, rfl⟩ := e
  exact ⟨_, _, rfl, h1, ⟨some a, cap, rfl, fun h => (by cases h), fun h => by simp at h⟩⟩
/-- A rule with other Params, told anew: the old ones' block may have turned. -/
theorem ruleI_params {lo hi : Nat} {w w' : World} {nm : ByteArray} {pv av pv' : Value} {r : RuleD} {ps' : List ByteArray} {A' : Nat → Prop} (h : InI lo hi w (fun W => RuleI W [.string nm, pv, av] r)) (hs : w.heap.size ≤ w'.heap.size) (hk : ∀ k, lo ≤ k → k < hi → pv.ownBlock ≠ some k → w'.heap[k]? = w.heap[k]?) (hA : ∀ k, A' k → k < lo) (hp : Held A' w' (fun V => SRow V pv' ps')) :
    Held A' w' (fun V => RuleE V [.string nm, pv', av] { r with params := ps' }) := by
  intro V hV hbl
  obtain ⟨V0, hV0s, hV0, hV0k⟩ : ∃ V0 : World, V0.heap.size = V.heap.size ∧ (∀ k, lo ≤ k → k < hi → V0.heap[k]? = w.heap[k]?) ∧ ∀ k, pv.ownBlock ≠ some k → V.heap[k]? = V0.heap[k]? := by
    cases hpv : pv.ownBlock with
    | none => exact ⟨V, rfl, fun k h1 h2 => (hbl k (by have := h.1; omega) (fun ha => by have := hA k ha; omega)).trans (hk k h1 h2 (by rw [hpv]; simp)), fun k _ => rfl⟩
    | some kp =>
      by_cases hkp : kp < w.heap.size
      · obtain ⟨o, ho, e1, e2, e3⟩ := putW_back (V := V) hkp (Nat.le_trans hs hV)
        refine ⟨putW V kp o, e2, fun k h1 h2 => ?_, fun k hne => (e3 k (fun e => hne (by rw [e]))).symm⟩
        by_cases e : k = kp
        · rw [e]; exact e1
        · rw [e3 k e]
          exact (hbl k (by have := h.1; omega) (fun ha => by have := hA k ha; omega)).trans (hk k h1 h2 (by rw [hpv]; exact fun h => e (Option.some.inj h).symm))
      · refine ⟨V, rfl, fun k h1 h2 => (hbl k (by have := h.1; omega) (fun ha => by have := hA k ha; omega)).trans (hk k h1 h2 (by rw [hpv]; intro h3; have := Option.some.inj h3; have := h.1; omega)), fun k _ => rfl⟩
  obtain ⟨pv2, av2, B0, B1, X, e, h1, h2, h3⟩ := h.2 V0 (by have := h.1; omega) hV0
  simp only [List.cons.injEq, Value.string.injEq, and_true] at e
  obtain ⟨rfl, rfl, rfl⟩ := e
  refine ⟨_, _, rfl, hp V hV hbl, RowC.imp (rowI_low h3 hV0s.symm (fun k hkB => hV0k k (fun e => by have := h2 k e; omega))) (fun vs x hx => hx.alt)⟩
/-- A rule, one of whose alternatives is told anew. -/
theorem ruleI_alts {lo hi : Nat} {w w' : World} {nm : ByteArray} {pv av sv' : Value} {r : RuleD} {A' : Nat → Prop} {j : Nat} (hj : j < r.alts.length) (a' : List SymD) (h : InI lo hi w (fun W => RuleI W [.string nm, pv, av] r)) (hs : w.heap.size ≤ w'.heap.size) (hA : ∀ k, A' k → k < lo)
    (ka ks : Nat) (hka : av.ownBlock = some ka) (sv : Value) (hsv : w.cell? ⟨ka, j, none⟩ = some sv) (hks : sv.ownBlock = some ks ∨ (sv.ownBlock = none ∧ ks = ka)) (hkl : ks < w.heap.size)
    (hk : ∀ k, lo ≤ k → k < hi → k ≠ ka → k ≠ ks → w'.heap[k]? = w.heap[k]?)
    (hst : (w'.heap[ka]? = w.heap[ka]? ∧ sv' = sv) ∨ w'.heap[ka]? = (w.setCell ⟨ka, j, none⟩ sv').heap[ka]?)
    (hx : Held A' w' (fun V => RowC 4 SymE V sv' a')) :
    Held A' w' (fun V => RuleE V [.string nm, pv, av] { r with alts := r.alts.set j a' }) := by
  intro V hV hbl
  have hka' : ka < w.heap.size := by
    obtain ⟨pv2, av2, B0, B1, X, e, h1, h2, h3⟩ := h.here
    simp only [List.cons.injEq, Value.string.injEq, and_true] at e
    obtain ⟨rfl, rfl, rfl⟩ := e
    exact (h3.lt ka hka).2
  have hin : ∀ k, lo ≤ k → k < hi → k ≠ ka → k ≠ ks → V.heap[k]? = w.heap[k]? := fun k h1 h2 h3 h4 => (hbl k (by have := h.1; omega) (fun ha => by have := hA k ha; omega)).trans (hk k h1 h2 h3 h4)
  obtain ⟨o1, _, e1, e2, e3⟩ := putW_back (V := V) hka' (Nat.le_trans hs hV)
  obtain ⟨o2, _, f1, f2, f3⟩ := putW_back (V := putW V ka o1) hkl (by rw [e2]; exact Nat.le_trans hs hV)
  -- the world with both blocks as they were
  obtain ⟨V0, hV0⟩ : ∃ V0, V0 = putW (putW V ka o1) ks o2 := ⟨_, rfl⟩
  rw [← hV0] at f1 f2 f3
  have s0 : V0.heap.size = V.heap.size := f2.trans e2
  have b0 : ∀ k, k ≠ ka → k ≠ ks → V0.heap[k]? = V.heap[k]? := fun k h1 h2 => (f3 k h2).trans (e3 k h1)
  have ba : V0.heap[ka]? = w.heap[ka]? := by
    by_cases e : ka = ks
    · rw [e]; exact f1
    · exact (f3 ka e).trans e1
  obtain ⟨pv2, av2, B0, B1, X, e, h1, h2, h3⟩ := h.2 V0 (by have := h.1; omega) (fun k k1 k2 => by
    by_cases ek : k = ks
    · rw [ek]; exact f1
    · by_cases ek2 : k = ka
      · rw [ek2]; exact ba
      · exact (b0 k ek2 ek).trans (hin k k1 k2 ek2 ek))
  simp only [List.cons.injEq, Value.string.injEq, and_true] at e
  obtain ⟨rfl, rfl, rfl⟩ := e
  obtain ⟨g, cap, lo', hi', vs, ev, hvl, hvc, ⟨cur, hcur⟩, hInI, hB1, hX1, hout, hBg, hgl, hturn⟩ := rowI_turn (E' := AltE) (fun W vs x hx => AltI.alt hx) h3 j hj
  have eg : g = ka := by
    rw [ev] at hka
    exact Option.some.inj hka
  subst eg
  match vs, hvl with
  | [sv0], _ =>
  have esv : sv0 = sv := by
    have := hvc 0 (by simp)
    rw [Nat.mul_one, Nat.add_zero, World.cell?_of_block (w := w) (w' := V0) ba, hsv] at this
    exact (Option.some.inj this).symm
  subst esv
  have hAlt : InI lo' hi' V0 (fun W => ∃ B X, RowI 4 51 SymE B X sv0 r.alts[j] W) := hInI.imp fun W hW => by
    obtain ⟨sv2, B, X, e, hR⟩ := hW
    simp only [List.cons.injEq, and_true] at e
    subst e
    exact ⟨B, X, hR⟩
  have hks2 : ks = g ∨ (lo' ≤ ks ∧ ks < hi') := by
    rcases hks with h | ⟨_, h⟩
    · exact .inr (inI_own hAlt ks h)
    · exact .inl h
  have htyp : ∀ k, pv.ownBlock = some k → k ≠ g ∧ k ≠ ks := fun k hk => by
    have hkB := h2 k hk
    refine ⟨by omega, fun e => ?_⟩
    rcases hks2 with e2 | ⟨e2, _⟩
    · omega
    · omega
  have hp : SRow V pv r.params := by
    obtain ⟨a, c, rfl, hc, hh⟩ := h1.row
    refine ⟨a, c, rfl, hc, fun h0 => ?_⟩
    obtain ⟨b, off, rfl, hlt, hcell⟩ := hh h0
    have hbk : ∀ x, V.cell? ⟨b, x, none⟩ = V0.cell? ⟨b, x, none⟩ := fun x => by
      have hne : b ≠ g ∧ b ≠ ks := by
        rcases h1.2 with ⟨h', _⟩ | ⟨gg, cc, cu, h', _⟩
        · cases h'
        · cases h'
          exact htyp b rfl
      exact (World.cell?_of_block (b0 b hne.1 hne.2)).symm
    exact ⟨b, off, rfl, by omega, fun i hi => (hbk _).trans (hcell i hi)⟩
  have hA2 := (hturn V [sv'] a' (fun _ => False) ⟨by omega, fun k hk hn => by
    refine (b0 k (fun e => hn (.inr (.inl e))) (fun e => hn ?_)).symm
    subst e
    rcases hks2 with e2 | e2
    · exact .inr (.inl e2)
    · exact .inr (.inr e2)⟩ (fun k hk => hk.elim) (by
      have hVg : V.heap[g]? = w'.heap[g]? := hbl g (Nat.lt_of_lt_of_le hka' hs) (fun ha => ?_)
      · rcases hst with ⟨h1, rfl⟩ | h1
        · exact .inl ⟨hVg.trans (h1.trans ba.symm), rfl⟩
        · refine .inr ⟨0, sv', by omega, rfl, ?_⟩
          rw [hVg, h1, Nat.mul_one, Nat.add_zero]
          obtain ⟨c0, hc0⟩ : ∃ c0, w.heap[g]? = some (.cells c0 48 (0, 0)) := ⟨cur, ba.symm.trans hcur⟩
          rw [setCell_self _ hc0, setCell_self _ (ba.trans hc0)]
      · have h0 := hA g ha
        have := (inI_own (h.imp fun W hW => by
          obtain ⟨pv3, av3, B0, B1, X, e, _, _, h3⟩ := hW
          simp only [List.cons.injEq, and_true] at e
          obtain ⟨_, _, rfl⟩ := e
          exact ⟨B1, X, h3⟩ : InI lo hi w (fun W => ∃ B X, RowI 1 48 AltI B X av r.alts W)) g hka).1
        omega) (fun V2 hV2 hbl2 => ⟨_, rfl, hx V2 (Nat.le_trans hV hV2) (fun k hk hn => (hbl2 k (Nat.lt_of_lt_of_le hk hV) (fun h => h.elim)).trans (hbl k hk hn))⟩)).here
  exact ⟨_, _, rfl, hp, hA2⟩
/-- Told of every world that has the blocks from lo to hi, but one. -/
def OnA (lo hi ka : Nat) (w : World) (P : World → Prop) : Prop := hi ≤ w.heap.size ∧ ∀ W : World, w.heap.size ≤ W.heap.size → (∀ k, lo ≤ k → k < hi → k ≠ ka → W.heap[k]? = w.heap[k]?) → P W
theorem altI_at {lo hi : Nat} {w : World} {nm : ByteArray} {pv av sv : Value} {r : RuleD} {j ka : Nat} (hj : j < r.alts.length) (h : InI lo hi w (fun W => RuleI W [.string nm, pv, av] r)) (hka : av.ownBlock = some ka) (hsv : w.cell? ⟨ka, j, none⟩ = some sv) :
    OnA lo hi ka w (fun W => AltI W [sv] r.alts[j]) ∧ sv.ownBlock ≠ some ka := by
  have hka' : ka < w.heap.size := by
    obtain ⟨pv2, av2, B0, B1, X, e, h1, h2, h3⟩ := h.here
    simp only [List.cons.injEq, Value.string.injEq, and_true] at e
    obtain ⟨rfl, rfl, rfl⟩ := e
    exact (h3.lt ka hka).2
  have key : ∀ V1 : World, w.heap.size ≤ V1.heap.size → (∀ k, lo ≤ k → k < hi → k ≠ ka → V1.heap[k]? = w.heap[k]?) → AltI V1 [sv] r.alts[j] ∧ sv.ownBlock ≠ some ka := fun V1 hV1 hin => by
    obtain ⟨o1, _, e1, e2, e3⟩ := putW_back (V := V1) hka' hV1
    obtain ⟨pv2, av2, B0, B1, X, e, h1, h2, h3⟩ := h.2 (putW V1 ka o1) (by have := h.1; omega) (fun k k1 k2 => by
      by_cases ek : k = ka
      · rw [ek]; exact e1
      · exact (e3 k ek).trans (hin k k1 k2 ek))
    simp only [List.cons.injEq, Value.string.injEq, and_true] at e
    obtain ⟨rfl, rfl, rfl⟩ := e
    obtain ⟨g, cap, lo', hi', vs, ev, hvl, hvc, _, hInI, hB1, hX1, hout, hBg, hgl, _⟩ := rowI_turn (E' := AltE) (fun W vs x hx => AltI.alt hx) h3 j hj
    have eg : g = ka := by
      rw [ev] at hka
      exact Option.some.inj hka
    subst eg
    match vs, hvl with
    | [sv0], _ =>
    have esv : sv0 = sv := by
      have := hvc 0 (by simp)
      rw [Nat.mul_one, Nat.add_zero, World.cell?_of_block (w := w) (w' := putW V1 g o1) e1, hsv] at this
      exact (Option.some.inj this).symm
    subst esv
    refine ⟨hInI.2 V1 (by have := hInI.1; omega) (fun k k1 k2 => (e3 k (by omega)).symm), fun e => ?_⟩
    have hAlt : InI lo' hi' (putW V1 g o1) (fun W => ∃ B X, RowI 4 51 SymE B X sv0 r.alts[j] W) := hInI.imp fun W hW => by
      obtain ⟨sv2, B, X, e, hR⟩ := hW
      simp only [List.cons.injEq, and_true] at e
      subst e
      exact ⟨B, X, hR⟩
    have := inI_own hAlt g e
    omega
  exact ⟨⟨h.1, fun V h1 h2 => (key V h1 h2).1⟩, (key w (Nat.le_refl _) (fun _ _ _ _ => rfl)).2⟩
/-- Syms of a copy: the first is bound otherwise. -/
theorem altI_bind {lo hi ka : Nat} {w w' : World} {sv : Value} {a : List SymD} {A' : Nat → Prop} (ha : 0 < a.length) (s : ByteArray) (h : OnA lo hi ka w (fun W => AltI W [sv] a)) (hs : w.heap.size ≤ w'.heap.size) (hA : ∀ k, A' k → k < lo)
    (ks : Nat) (hks : sv.ownBlock = some ks) (hk0 : lo ≤ ks ∧ ks < hi) (hk : ∀ k, lo ≤ k → k < hi → k ≠ ka → k ≠ ks → w'.heap[k]? = w.heap[k]?) (hst : w'.heap[ks]? = (w.setCell ⟨ks, 3, none⟩ (.string s)).heap[ks]?) :
    Held A' w' (fun V => RowC 4 SymE V sv (a.set 0 { a[0] with bind := s })) := by
  intro V hV hbl
  have hR : OnA lo hi ka w (fun W => ∃ B X, RowI 4 51 SymE B X sv a W) := ⟨h.1, fun W g1 g2 => by
    obtain ⟨sv2, B, X, e, hR⟩ := h.2 W g1 g2
    simp only [List.cons.injEq, and_true] at e
    subst e
    exact ⟨B, X, hR⟩⟩
  have hkl : ks < w.heap.size := by have := hR.1; omega
  obtain ⟨o1, _, e1, e2, e3⟩ := putW_back (V := V) hkl (Nat.le_trans hs hV)
  obtain ⟨V1, hV1⟩ : ∃ V1, V1 = putW V ks o1 := ⟨_, rfl⟩
  rw [← hV1] at e1 e2 e3
  obtain ⟨B, X, h1⟩ := hR.2 V1 (by omega) (fun k k1 k2 k3 => by
    by_cases e : k = ks
    · rw [e]; exact e1
    · rw [e3 k e]
      exact (hbl k (by have := hR.1; omega) (fun h => by have := hA k h; omega)).trans (hk k k1 k2 k3 e))
  obtain ⟨g, cap, lo', hi', vs, ev, hvl, hvc, ⟨cur, hcur⟩, hInI, hB1, hX1, hout, hBg, hgl, hturn⟩ := rowI_turn (E' := SymE) (fun W vs x hx => hx) h1 0 ha
  have eg : g = ks := by
    rw [ev] at hks
    exact Option.some.inj hks
  subst eg
  have hVg : V.heap[g]? = w'.heap[g]? := hbl g (Nat.lt_of_lt_of_le hkl hs) (fun h => by have := hA g h; omega)
  refine (hturn V (vs.set 3 (.string s)) { a[0] with bind := s } (fun _ => False) ⟨by omega, fun k hk hn => (e3 k (fun e => hn (.inr (.inl e)))).symm⟩ (fun k hk => hk.elim) (.inr ⟨3, .string s, by omega, rfl, ?_⟩) (fun V2 hV2 hbl2 => ?_)).here
  · rw [hVg, hst, Nat.zero_mul, Nat.zero_add]
    obtain ⟨c0, hc0⟩ : ∃ c0, w.heap[g]? = some (.cells c0 51 (0, 0)) := ⟨cur, e1.symm.trans hcur⟩
    rw [setCell_self _ hc0, setCell_self _ (e1.trans hc0)]
  · obtain ⟨r0, e, hr⟩ := hInI.2 V2 (by have := hInI.1; omega) (fun k k1 k2 => by
      rw [hbl2 k (by have := hInI.1; omega) (fun h => h.elim), e3 k (by omega)])
    refine ⟨r0, ?_, hr⟩
    rw [e]
    rfl
/-- Syms of a copy, and one more. -/
theorem altI_more {lo hi ka : Nat} {w w' : World} {sv sv' : Value} {a : List SymD} {A' : Nat → Prop} (y : SymD) (vy : List Value) (h : OnA lo hi ka w (fun W => AltI W [sv] a)) (hs : w.heap.size ≤ w'.heap.size) (hA : ∀ k, A' k → k < lo)
    (hso : ∀ k, sv.ownBlock = some k → lo ≤ k ∧ k < hi ∧ k ≠ ka) (hk : ∀ k, lo ≤ k → k < hi → k ≠ ka → sv.ownBlock ≠ some k → w'.heap[k]? = w.heap[k]?) (g cap base : Nat) (hsv' : sv' = .slice (some ⟨g, 0, none⟩) (a.length + 1) cap) (hgA : ¬ A' g) (hvy : vy.length = 4)
    (cs : List Value) (ho : w.ownsRow base 51 4 sv a.length cs) (ho' : w'.ownsRow base 51 4 sv' (a.length + 1) (cs ++ vy)) (hy : Held A' w' (fun V => SymE V vy y)) :
    Held A' w' (fun V => RowC 4 SymE V sv' (a ++ [y])) := by
  intro V hV hbl
  have hR : OnA lo hi ka w (fun W => ∃ B X, RowI 4 51 SymE B X sv a W) := ⟨h.1, fun W g1 g2 => by
    obtain ⟨sv2, B, X, e, hR⟩ := h.2 W g1 g2
    simp only [List.cons.injEq, and_true] at e
    subst e
    exact ⟨B, X, hR⟩⟩
  have hgl : g < w'.heap.size := (World.ownsRow.lt ho' g (by rw [hsv']; rfl)).2
  have hVc : ∀ p, V.cell? ⟨g, p, none⟩ = w'.cell? ⟨g, p, none⟩ := fun p => World.cell?_of_block (hbl g hgl hgA)
  have hnew : ∀ p u, (cs ++ vy)[p]? = some u → V.cell? ⟨g, p, none⟩ = some u := fun p u hu => by
    have := World.ownsRow.cells ho' (g := g) (by rw [hsv']; rfl) p u hu
    rw [Addr.add_lit, Nat.zero_add] at this
    exact (hVc p).trans this
  have hcl := ho.1
  -- the world with the old row as it was
  obtain ⟨V1, s1, hin, hot⟩ : ∃ V1 : World, V1.heap.size = V.heap.size ∧ (∀ k, lo ≤ k → k < hi → k ≠ ka → V1.heap[k]? = w.heap[k]?) ∧ ∀ k, sv.ownBlock ≠ some k → V1.heap[k]? = V.heap[k]? := by
    cases hsv : sv.ownBlock with
    | none => exact ⟨V, rfl, fun k k1 k2 k3 => (hbl k (by have := hR.1; omega) (fun h => by have := hA k h; omega)).trans (hk k k1 k2 k3 (by rw [hsv]; simp)), fun k _ => rfl⟩
    | some ks =>
      have hk0 := hso ks hsv
      obtain ⟨o1, _, e1, e2, e3⟩ := putW_back (V := V) (w := w) (k := ks) (by have := hR.1; omega) (Nat.le_trans hs hV)
      refine ⟨putW V ks o1, e2, fun k k1 k2 k3 => ?_, fun k hne => e3 k (fun e => hne (by rw [e]))⟩
      by_cases e : k = ks
      · rw [e]; exact e1
      · rw [e3 k e]
        exact (hbl k (by have := hR.1; omega) (fun h => by have := hA k h; omega)).trans (hk k k1 k2 k3 (by rw [hsv]; exact fun h => e (Option.some.inj h).symm))
  obtain ⟨B, X, vss, cut, h1, h2, h3, h4, h5⟩ := hR.2 V1 (by omega) hin
  have hcs : cs = vss.flatten := by
    rcases ho.2 with ⟨e, h0⟩ | ⟨g0, cap0, cur0, e, _, hc0, _, _, _, ht0⟩
    · have l1 : cs.length = 0 := by rw [ho.1, h0]
      have l2 : vss.flatten.length = 0 := by rw [h3.1, h0]
      rw [List.length_eq_zero_iff.1 l1, List.length_eq_zero_iff.1 l2]
    · rcases h3.2 with ⟨e', _⟩ | ⟨g1, cap1, cur1, e', _, hc1, _, _, _, ht1⟩
      · rw [e] at e'; cases e'
      · rw [e] at e'
        cases e'
        have hk0 := hso g0 (by rw [e]; rfl)
        rw [hin g0 hk0.1 hk0.2.1 hk0.2.2, hc0] at hc1
        cases hc1
        rw [← ht0, ← ht1]
  refine ⟨some ⟨g, 0, none⟩, cap, by rw [hsv', List.length_append]; rfl, fun h => (by cases h), fun _ => ⟨g, 0, rfl, Nat.lt_of_lt_of_le hgl hV, fun l hl => ?_⟩⟩
  by_cases hla : l < a.length
  · have hlv : l < vss.length := by omega
    rw [List.getElem_append_left hla]
    have hlen : vss[l].length = 4 := h2 _ (List.getElem_mem hlv)
    refine ⟨vss[l], hlen, fun j hj => ?_, ?_⟩
    · rw [Nat.zero_add]
      refine hnew _ _ ?_
      have hf := flat_at 4 vss h2 l j (by omega) hj
      rw [← hcs] at hf
      rw [List.getElem?_append_left (by rcases List.getElem?_eq_some_iff.1 hf with ⟨h, _⟩; exact h)]
      exact hf
    · obtain ⟨m1, m2, m3, m4⟩ := h4 l hlv hla
      refine m1.2 V (by have := m1.1; omega) (fun k k1 k2 => (hot k (fun e => ?_)).symm)
      have := m4 k e
      omega
  · have hl2 : l = a.length := by rw [List.length_append] at hl; simp at hl; omega
    subst hl2
    rw [List.getElem_append_right (Nat.le_refl _)]
    simp only [Nat.sub_self, List.getElem_cons_zero]
    refine ⟨vy, hvy, fun j hj => ?_, hy V hV hbl⟩
    rw [Nat.zero_add]
    refine hnew _ _ ?_
    rw [List.getElem?_append_right (by omega), hcl, show a.length * 4 + j - a.length * 4 = j by omega, List.getElem?_eq_getElem hj]

end Go.Proofs.Ytipkbkhnaekceaa

namespace Go.Proofs.Ytipkbkhnaekceaa
open Go.RowKit
set_option linter.unusedVariables false

/-- What turned: the blocks told of alone. -/
def Turn (w w' : World) (p : Nat → Prop) : Prop := w.heap.size ≤ w'.heap.size ∧ ∀ k, k < w.heap.size → ¬ p k → w'.heap[k]? = w.heap[k]?
structure AyI (B X : Nat) (G : List RuleD) (i j : Nat) (hi : i < G.length) (hj : j < G[i].alts.length) (go cap ka capa : Nat) (pv sv : Value) (w : World) : Prop where
  c0 : w.cell? ⟨go, i * 3, none⟩ = some (.string G[i].name)
  c1 : w.cell? ⟨go, i * 3 + 1, none⟩ = some pv
  c2 : w.cell? ⟨go, i * 3 + 2, none⟩ = some (.slice (some ⟨ka, 0, none⟩) G[i].alts.length capa)
  ca : w.cell? ⟨ka, j, none⟩ = some sv
  tg : ∃ cur, w.heap[go]? = some (.cells cur 40 (0, 0))
  ta : ∃ cur, w.heap[ka]? = some (.cells cur 48 (0, 0))
  bg : B ≤ go
  gc : G.length ≤ cap
  ba : B ≤ ka
  pvo : OwnB B pv G[i].params w
  svo : ∃ cs, w.ownsRow B 51 4 sv G[i].alts[j].length cs
  name : ∀ (w' : World) (s : ByteArray), Turn w w' (fun k => k = go) → w'.heap[go]? = (w.setCell ⟨go, i * 3, none⟩ (.string s)).heap[go]? → Held (fun k => k < B) w' (fun V => RowC 3 RuleE V (.slice (some ⟨go, 0, none⟩) G.length cap) (G.set i { G[i] with name := s }))
  params : ∀ (w' : World) (pv' : Value) (ps' : List ByteArray), Turn w w' (fun k => k = go ∨ pv.ownBlock = some k) → w'.heap[go]? = (w.setCell ⟨go, i * 3 + 1, none⟩ pv').heap[go]? → Held (fun k => k < B) w' (fun V => SRow V pv' ps') → Held (fun k => k < B) w' (fun V => RowC 3 RuleE V (.slice (some ⟨go, 0, none⟩) G.length cap) (G.set i { G[i] with params := ps' }))
  noAlts : ∀ (w' : World), Turn w w' (fun k => k = go) → w'.heap[go]? = (w.setCell ⟨go, i * 3 + 2, none⟩ (.slice (some ⟨ka, 0, none⟩) 0 capa)).heap[go]? → Held (fun k => k < B) w' (fun V => RowC 3 RuleE V (.slice (some ⟨go, 0, none⟩) G.length cap) (G.set i { G[i] with alts := [] }))
  more : ∀ (w' : World) (y : SymD) (vy : List Value) (b g' cap' : Nat) (cs : List Value), Turn w w' (fun k => k = ka ∨ sv.ownBlock = some k) → w'.heap[ka]? = (w.setCell ⟨ka, j, none⟩ (.slice (some ⟨g', 0, none⟩) (G[i].alts[j].length + 1) cap')).heap[ka]? → B ≤ g' → vy.length = 4 → w.ownsRow b 51 4 sv G[i].alts[j].length cs → w'.ownsRow b 51 4 (.slice (some ⟨g', 0, none⟩) (G[i].alts[j].length + 1) cap') (G[i].alts[j].length + 1) (cs ++ vy) → Held (fun k => k < B) w' (fun V => SymE V vy y) →
    Held (fun k => k < B) w' (fun V => RowC 3 RuleE V (.slice (some ⟨go, 0, none⟩) G.length cap) (G.set i { G[i] with alts := G[i].alts.set j (G[i].alts[j] ++ [y]) }))
  bind : ∀ (w' : World) (s : ByteArray) (ks : Nat) (h0 : 0 < G[i].alts[j].length), sv.ownBlock = some ks → Turn w w' (fun k => k = ks) → w'.heap[ks]? = (w.setCell ⟨ks, 3, none⟩ (.string s)).heap[ks]? → Held (fun k => k < B) w' (fun V => RowC 3 RuleE V (.slice (some ⟨go, 0, none⟩) G.length cap) (G.set i { G[i] with alts := G[i].alts.set j (G[i].alts[j].set 0 { G[i].alts[j][0] with bind := s }) }))
  same : ∀ (w' : World) (p : Nat → Prop), (∀ k, p k → X ≤ k ∧ k ≠ go) → Turn w w' p → Held (fun k => k < B) w' (fun V => RowC 3 RuleE V (.slice (some ⟨go, 0, none⟩) G.length cap) G)

set_option maxHeartbeats 1600000 in
theorem ayI_of {B X : Nat} {o : Value} {G : List RuleD} {w : World} (hR : RowI 3 40 RuleI B X o G w) (hX : X ≤ w.heap.size) {i : Nat} (hi : i < G.length) {j : Nat} (hj : j < G[i].alts.length) :
    ∃ go cap ka capa pv sv, o = .slice (some ⟨go, 0, none⟩) G.length cap ∧ AyI B X G i j hi hj go cap ka capa pv sv w := by
  obtain ⟨go, cap, lo, hi', vs, rfl, hvl, hvc, hcur, hInI, hBlo, hhiX, hout, hBg, hgl, hturn⟩ := rowI_turn (E' := RuleE) (fun W vs x hx => RuleI.rule hx) hR i hi
  obtain ⟨pv, av, B0, B1, Xa, rfl, hpv, hpB, hav⟩ := hInI.here
  obtain ⟨ka, capa, loa, hia, vsa, rfl, hval, hvac, hcura, hInA, hBa, hXa, houta, hBka, hkal, hturna⟩ := rowI_turn (E' := AltE) (fun W vs x hx => AltI.alt hx) hav j hj
  obtain ⟨sv, B2, X2, rfl, hsv⟩ := hInA.here
  have hka := inI_own (hInI.imp fun W hW => by
    obtain ⟨pv3, av3, B0, B1, X, e, _, _, h3⟩ := hW
    simp only [List.cons.injEq, and_true] at e
    obtain ⟨_, _, rfl⟩ := e
    exact ⟨B1, X, h3⟩ : InI lo hi' w (fun W => ∃ B X, RowI 1 48 AltI B X (.slice (some ⟨ka, 0, none⟩) G[i].alts.length capa) G[i].alts W)) ka rfl
  -- the params' own block, and the syms', lie where the rule's blocks do
  have hpl : ∀ k, pv.ownBlock = some k → lo ≤ k ∧ k < hi' := fun k hk => by
    have hlt := (World.ownsRow.lt hpv k hk).2
    by_cases hb : lo ≤ k ∧ k < hi'
    · exact hb
    · obtain ⟨pv3, av3, B0', B1', X', e, h1, _, _⟩ := hInI.2 (putW w k (.stringIter ⟨#[]⟩ 0)) (by rw [putW_size]; exact hInI.1) (fun j hj hj' => putW_other w _ (fun e => hb (by omega)))
      simp only [List.cons.injEq, and_true] at e
      obtain ⟨_, rfl, _⟩ := e
      rcases h1.2 with ⟨e2, _⟩ | ⟨gg, cc, cu, e2, _, hc, _⟩
      · rw [e2] at hk; cases hk
      · rw [e2] at hk
        cases hk
        rw [putW_self w _ hlt] at hc
        cases hc
  have hAlt : InI loa hia w (fun W => ∃ B X, RowI 4 51 SymE B X sv G[i].alts[j] W) := hInA.imp fun W hW => by
    obtain ⟨sv2, B, X, e, hR⟩ := hW
    simp only [List.cons.injEq, and_true] at e
    subst e
    exact ⟨B, X, hR⟩
  have hsl : ∀ k, sv.ownBlock = some k → lo ≤ k ∧ k < hi' := fun k hk => by
    have hlt := (hsv.lt k hk).2
    have hkla := inI_own hAlt k hk
    by_cases hb : lo ≤ k ∧ k < hi'
    · exact hb
    · obtain ⟨pv3, av3, B0', B1', X', e, _, _, h3⟩ := hInI.2 (putW w k (.stringIter ⟨#[]⟩ 0)) (by rw [putW_size]; exact hInI.1) (fun j hj hj' => putW_other w _ (fun e => hb (by omega)))
      simp only [List.cons.injEq, and_true] at e
      obtain ⟨_, _, rfl⟩ := e
      obtain ⟨g2, cap2, lo2, hi2, vs2, e2, hl2, hc2, _, hI2, _⟩ := rowI_turn (E' := AltE) (fun W vs x hx => AltI.alt hx) h3 j hj
      cases e2
      obtain ⟨sv2, B3, X3, rfl, hR3⟩ := hI2.here
      have hne : ka ≠ k := fun e => by omega
      have e3 := hc2 0 (by simp)
      have e4 := hvac 0 (by simp)
      rw [World.cell?_of_block (w := w) (w' := putW w k (.stringIter ⟨#[]⟩ 0)) (putW_other w _ hne), e4] at e3
      have e5 := Option.some.inj e3
      simp only [List.getElem_cons_zero] at e5
      subst e5
      obtain ⟨cur, hc⟩ := hR3.type hk
      rw [putW_self w _ hlt] at hc
      cases hc
  obtain ⟨hOn, hska⟩ := altI_at hj hInI rfl (show w.cell? ⟨ka, j, none⟩ = some sv by have := hvac 0 (by simp); rwa [Nat.mul_one, Nat.add_zero] at this)
  have hgo : ∀ {w' : World} {p : Nat → Prop}, Turn w w' p → (∀ k, p k → k = go ∨ (lo ≤ k ∧ k < hi')) → FrA (fun k => k < B ∨ k = go ∨ (lo ≤ k ∧ k < hi')) w w' := fun hT hp => ⟨hT.1, fun k hk hn => hT.2 k hk (fun h => hn (.inr (hp k h)))⟩
  refine ⟨go, cap, ka, capa, pv, sv, rfl, ⟨hvc 0 (by simp), hvc 1 (by simp), hvc 2 (by simp), ?_, hcur, hcura, hBg, ?_, by omega, ?_, ?_, ?_, ?_, ?_, ?_, ?_, ?_⟩⟩
  · have := hvac 0 (by simp)
    rwa [Nat.mul_one, Nat.add_zero] at this
  · obtain ⟨cs, ho⟩ := hR.own
    rcases ho.2 with ⟨e, h0⟩ | ⟨gg, cc, cu, e, _, _, hcap, _⟩
    · cases e
    · cases e
      exact hcap
  · rcases hpv.2 with ⟨e, h0⟩ | ⟨gg, cc, cu, e, hb, r⟩
    · exact ⟨hpv.1, .inl ⟨e, h0⟩⟩
    · have := hpl gg (by rw [e]; rfl)
      exact ⟨hpv.1, .inr ⟨gg, cc, cu, e, by omega, r⟩⟩
  · obtain ⟨cs, ho⟩ := hsv.own
    rcases ho.2 with ⟨e, h0⟩ | ⟨gg, cc, cu, e, hb, r⟩
    · exact ⟨cs, ho.1, .inl ⟨e, h0⟩⟩
    · have := hsl gg (by rw [e]; rfl)
      exact ⟨cs, ho.1, .inr ⟨gg, cc, cu, e, by omega, r⟩⟩
  · intro w' s hT hst
    refine hturn w' [.string s, pv, .slice (some ⟨ka, 0, none⟩) G[i].alts.length capa] _ _ (hgo hT (fun k hk => .inl hk)) (fun k hk => hk) (.inr ⟨0, .string s, by omega, rfl, hst⟩) (ruleI_name hInI hT.1 (fun k k1 k2 => hT.2 k (by have := hInI.1; omega) (fun e => by omega)) (fun k hk => by omega))
  · intro w' pv' ps' hT hst hp
    refine hturn w' [.string G[i].name, pv', .slice (some ⟨ka, 0, none⟩) G[i].alts.length capa] _ _ (hgo hT (fun k hk => hk.imp id (hpl k))) (fun k hk => hk) (.inr ⟨1, pv', by omega, rfl, hst⟩) (ruleI_params hInI hT.1 (fun k k1 k2 hne => hT.2 k (by have := hInI.1; omega) (fun e => e.elim (fun e => by omega) hne)) (fun k hk => by omega) hp)
  · intro w' hT hst
    refine hturn w' [.string G[i].name, pv, .slice (some ⟨ka, 0, none⟩) 0 capa] _ _ (hgo hT (fun k hk => .inl hk)) (fun k hk => hk) (.inr ⟨2, .slice (some ⟨ka, 0, none⟩) 0 capa, by omega, rfl, hst⟩) (ruleI_none hInI hT.1 (fun k k1 k2 => hT.2 k (by have := hInI.1; omega) (fun e => by omega)) (fun k hk => by omega))
  · intro w' y vy b g' cap' cs hT hst hg' hvy ho ho' hy
    have hx := altI_more (A' := fun k => k < B) y vy hOn hT.1 (fun k hk => by omega) (fun k hk => ⟨(hsl k hk).1, (hsl k hk).2, fun e => hska (by rw [← e]; exact hk)⟩) (fun k k1 k2 k3 hne => hT.2 k (by have := hInI.1; omega) (fun e => e.elim k3 hne)) g' cap' b rfl (by omega) hvy cs ho ho' hy
    have hsg : w'.heap[go]? = w.heap[go]? := hT.2 go hgl (fun e => by
      rcases e with e | e
      · omega
      · have := hsl go e
        omega)
    refine hturn w' _ _ _ (hgo hT (fun k hk => .inr (hk.elim (fun e => by omega) (hsl k)))) (fun k hk => hk) (.inl ⟨hsg, rfl⟩) ?_
    cases hsb : sv.ownBlock with
    | none => exact ruleI_alts hj _ hInI hT.1 (fun k hk => by omega) ka ka rfl sv (by have := hvac 0 (by simp); rwa [Nat.mul_one, Nat.add_zero] at this) (.inr ⟨hsb, rfl⟩) hkal (fun k k1 k2 hne _ => hT.2 k (by have := hInI.1; omega) (fun e => e.elim (fun e => hne e) (fun e => by rw [hsb] at e; cases e))) (.inr hst) hx
    | some ks => exact ruleI_alts hj _ hInI hT.1 (fun k hk => by omega) ka ks rfl sv (by have := hvac 0 (by simp); rwa [Nat.mul_one, Nat.add_zero] at this) (.inl hsb) (by have := hsv.lt ks hsb; omega) (fun k k1 k2 hne hne2 => hT.2 k (by have := hInI.1; omega) (fun e => e.elim (fun e => hne e) (fun e => by rw [hsb] at e; exact hne2 (Option.some.inj e).symm))) (.inr hst) hx
  · intro w' s ks h0 hks hT hst
    have hx := altI_bind (A' := fun k => k < B) h0 s hOn hT.1 (fun k hk => by omega) ks hks (hsl ks hks) (fun k k1 k2 _ hne => hT.2 k (by have := hInI.1; omega) hne) hst
    have hk1 := hsl ks hks
    have hk2 : ka ≠ ks := fun e => hska (by rw [e]; exact hks)
    have hsg : w'.heap[go]? = w.heap[go]? := hT.2 go hgl (fun e => by omega)
    refine hturn w' _ _ _ (hgo hT (fun k hk => .inr (by omega))) (fun k hk => hk) (.inl ⟨hsg, rfl⟩) ?_
    exact ruleI_alts hj _ hInI hT.1 (fun k hk => by omega) ka ks rfl sv (by have := hvac 0 (by simp); rwa [Nat.mul_one, Nat.add_zero] at this) (.inl hks) (by have := hsv.lt ks hks; omega) (fun k k1 k2 hne hne2 => hT.2 k (by have := hInI.1; omega) hne2) (.inl ⟨hT.2 ka hkal hk2, rfl⟩) hx
  · intro w' p hp hT V hV hbl
    have hR2 : RowI 3 40 RuleI B X (.slice (some ⟨go, 0, none⟩) G.length cap) G V := hR.go (by have := hT.1; omega) (fun k hk => by
      obtain rfl : go = k := Option.some.inj hk
      exact (hbl go (Nat.lt_of_lt_of_le hgl hT.1) (fun h => by omega)).trans (hT.2 go hgl (fun h => (hp go h).2 rfl))) (fun k k1 k2 _ => (hbl k (by have := hT.1; omega) (fun h => by omega)).trans (hT.2 k (by omega) (fun h => by have := (hp k h).1; omega)))
    exact RowC.imp hR2.rowC (fun vs x hx => hx.rule)

theorem own_far {w : World} {b : Nat} {e : TypeId} {s n : Nat} {v : Value} {cs : List Value} (h : w.ownsRow b e s v n cs) {k : Nat} {c : Array Value} {T : TypeId} {fr : Nat × Nat} (hk : w.heap[k]? = some (.cells c T fr)) (hne : T ≠ e) : v.ownBlock ≠ some k := fun hv => by
  rcases h.2 with ⟨rfl, _⟩ | ⟨g, cap, cur, rfl, _, hc, _⟩
  · cases hv
  · cases hv
    rw [hc] at hk
    cases hk
    exact hne rfl
theorem own_move {w w' : World} {b : Nat} {e : TypeId} {s n : Nat} {v : Value} {cs : List Value} (h : w.ownsRow b e s v n cs) (hk : ∀ k, v.ownBlock = some k → w'.heap[k]? = w.heap[k]?) : w'.ownsRow b e s v n cs := by
  refine ⟨h.1, ?_⟩
  rcases h.2 with hn | ⟨g, cap, cur, rfl, hB, hc, r⟩
  · exact .inl hn
  · exact .inr ⟨g, cap, cur, rfl, hB, (hk g rfl).trans hc, r⟩
section
variable {B X : Nat} {G : List RuleD} {i j : Nat} {hi : i < G.length} {hj : j < G[i].alts.length} {go cap ka capa : Nat} {pv sv : Value} {w w7 w8 : World}
/-- A sym more, stored. -/
theorem AyI.stored (h : AyI B X G i j hi hj go cap ka capa pv sv w) (hB : B ≤ w.heap.size) (hb : Below w.heap.size w w7) {cs vy : List Value} {y : SymD} {g8 cap8 : Nat} (hos : w.ownsRow B 51 4 sv G[i].alts[j].length cs) (hown : w8.ownsRow B 51 4 (.slice (some ⟨g8, 0, none⟩) (G[i].alts[j].length + 1) cap8) (G[i].alts[j].length + 1) (cs ++ vy)) (hgr : w7.grownBy w8 sv.ownBlock) (hvy : vy.length = 4) (hy : Fresh w.heap.size w7 (fun V => SymE V vy y)) :
    Held (fun k => k < B) (w8.setCell ⟨ka, j, none⟩ (.slice (some ⟨g8, 0, none⟩) (G[i].alts[j].length + 1) cap8)) (fun V => RowC 3 RuleE V (.slice (some ⟨go, 0, none⟩) G.length cap) (G.set i { G[i] with alts := G[i].alts.set j (G[i].alts[j] ++ [y]) })) ∧
    (∀ (b0 : Nat) (w0 : World), Below b0 w0 w → b0 ≤ B → Below b0 w0 (w8.setCell ⟨ka, j, none⟩ (.slice (some ⟨g8, 0, none⟩) (G[i].alts[j].length + 1) cap8))) ∧
    ∀ k, k < w.heap.size → k ≠ ka → sv.ownBlock ≠ some k → (w8.setCell ⟨ka, j, none⟩ (.slice (some ⟨g8, 0, none⟩) (G[i].alts[j].length + 1) cap8)).heap[k]? = w.heap[k]? := by
  obtain ⟨cua, hcua⟩ := h.ta
  have nka : sv.ownBlock ≠ some ka := own_far hos hcua (by decide)
  have hkl : ka < w.heap.size := (Array.getElem?_eq_some_iff.1 hcua).1
  have h8 : ∀ k, k < w.heap.size → sv.ownBlock ≠ some k → w8.heap[k]? = w.heap[k]? := fun k hk hne => (hgr.block k (Nat.lt_of_lt_of_le hk hb.size) (fun e => hne e.symm)).trans (hb.block k hk)
  have hg8 := World.ownsRow.lt hown g8 rfl
  have nga : g8 ≠ ka := fun e => own_far hown ((h8 ka hkl nka).trans hcua) (by decide) (by rw [← e]; rfl)
  have hs8 : w.heap.size ≤ w8.heap.size := Nat.le_trans hb.size hgr.size
  have hsz : (w8.setCell ⟨ka, j, none⟩ (.slice (some ⟨g8, 0, none⟩) (G[i].alts[j].length + 1) cap8)).heap.size = w8.heap.size := by simp [World.setCell]
  have hot : ∀ k, k < w.heap.size → k ≠ ka → sv.ownBlock ≠ some k → (w8.setCell ⟨ka, j, none⟩ (.slice (some ⟨g8, 0, none⟩) (G[i].alts[j].length + 1) cap8)).heap[k]? = w.heap[k]? := fun k hk h1 h2 => (setCell_other _ h1).trans (h8 k hk h2)
  refine ⟨h.more _ y vy B g8 cap8 cs ⟨by rw [hsz]; exact hs8, fun k hk hn => hot k hk (fun e => hn (.inl e)) (fun e => hn (.inr e))⟩ (by simp [World.setCell, Array.getElem?_modify, h8 ka hkl nka]) hg8.1 hvy hos (own_move hown (fun k hk => ?_)) ?_, fun b0 w0 hb0 hle => ?_, hot⟩
  · obtain rfl : g8 = k := Option.some.inj hk
    exact setCell_other _ nga
  · intro V hV hbl
    have hs7 : w7.heap.size ≤ (w8.setCell ⟨ka, j, none⟩ (.slice (some ⟨g8, 0, none⟩) (G[i].alts[j].length + 1) cap8)).heap.size := by rw [hsz]; exact hgr.size
    refine hy V (Nat.le_trans hs7 hV) (fun k k1 k2 => ?_)
    rw [hbl k (Nat.lt_of_lt_of_le k2 hs7) (by omega), setCell_other _ (by omega)]
    refine hgr.block k k2 (fun e => ?_)
    have := World.ownsRow.lt hos k e.symm
    omega
  · have hbw : b0 ≤ w.heap.size := Nat.le_trans hle hB
    have hb7 : Below b0 w0 w7 := hb0.trans (hb.mono hbw)
    exact (hb7.grown hgr (Nat.le_trans hbw hb.size) (fun k hk => Nat.le_trans hle (World.ownsRow.lt hos k hk).1)).setCell (show b0 ≤ ka by have := h.ba; omega) _
/-- Other Params, stored. -/
theorem AyI.paramed (h : AyI B X G i j hi hj go cap ka capa pv sv w) (hB : B ≤ w.heap.size) (hb : Below w.heap.size w w7) {ps' : List ByteArray} {pv' : Value} (hown : OwnB B pv' ps' w8) (hgr : w7.grownBy w8 pv.ownBlock) :
    Held (fun k => k < B) (w8.setCell ⟨go, i * 3 + 1, none⟩ pv') (fun V => RowC 3 RuleE V (.slice (some ⟨go, 0, none⟩) G.length cap) (G.set i { G[i] with params := ps' })) ∧
    (∀ (b0 : Nat) (w0 : World), Below b0 w0 w → b0 ≤ B → Below b0 w0 (w8.setCell ⟨go, i * 3 + 1, none⟩ pv')) ∧
    ∀ k, k < w.heap.size → k ≠ go → pv.ownBlock ≠ some k → (w8.setCell ⟨go, i * 3 + 1, none⟩ pv').heap[k]? = w.heap[k]? := by
  obtain ⟨cug, hcug⟩ := h.tg
  have hos := h.pvo
  have nkg : pv.ownBlock ≠ some go := own_far hos hcug (by decide)
  have hkl : go < w.heap.size := (Array.getElem?_eq_some_iff.1 hcug).1
  have h8 : ∀ k, k < w.heap.size → pv.ownBlock ≠ some k → w8.heap[k]? = w.heap[k]? := fun k hk hne => (hgr.block k (Nat.lt_of_lt_of_le hk hb.size) (fun e => hne e.symm)).trans (hb.block k hk)
  have hs8 : w.heap.size ≤ w8.heap.size := Nat.le_trans hb.size hgr.size
  have hsz : (w8.setCell ⟨go, i * 3 + 1, none⟩ pv').heap.size = w8.heap.size := by simp [World.setCell]
  have hot : ∀ k, k < w.heap.size → k ≠ go → pv.ownBlock ≠ some k → (w8.setCell ⟨go, i * 3 + 1, none⟩ pv').heap[k]? = w.heap[k]? := fun k hk h1 h2 => (setCell_other _ h1).trans (h8 k hk h2)
  refine ⟨h.params _ pv' ps' ⟨by rw [hsz]; exact hs8, fun k hk hn => hot k hk (fun e => hn (.inl e)) (fun e => hn (.inr e))⟩ (by simp [World.setCell, Array.getElem?_modify, h8 go hkl nkg]) ?_, fun b0 w0 hb0 hle => ?_, hot⟩
  · intro V hV hbl
    refine OwnB.row (B := B) (own_move hown (fun k hk => ?_))
    have hkk := World.ownsRow.lt hown k hk
    rw [hbl k (by rw [hsz]; exact hkk.2) (by omega)]
    exact setCell_other _ (fun e => own_far hown ((h8 go hkl nkg).trans hcug) (by decide) (by rw [← e]; exact hk))
  · have hbw : b0 ≤ w.heap.size := Nat.le_trans hle hB
    have hb7 : Below b0 w0 w7 := hb0.trans (hb.mono hbw)
    exact (hb7.grown hgr (Nat.le_trans hbw hb.size) (fun k hk => Nat.le_trans hle (World.ownsRow.lt hos k hk).1)).setCell (show b0 ≤ go by have := h.bg; omega) _
end
/-- A list without its first. -/
theorem rowC_rest {α : Type} {sz : Nat} {E : World → List Value → α → Prop} {w : World} {b n cap : Nat} {x : α} {xs : List α} (h : RowC sz E w (.slice (some ⟨b, 0, none⟩) n cap) (x :: xs)) : RowC sz E w (.slice (some ⟨b, sz, none⟩) xs.length (cap - 1)) xs := by
  obtain ⟨a, c, e, hc, hh⟩ := h
  obtain ⟨b', off, e2, hlt, hcell⟩ := hh (by simp)
  cases e
  cases e2
  refine ⟨_, _, rfl, fun h => (by cases h), fun _ => ⟨b, sz, rfl, hlt, fun i hi => ?_⟩⟩
  obtain ⟨vs, h1, h2, h3⟩ := hcell (i + 1) (by simpa using hi)
  exact ⟨vs, h1, fun j hj => by have := h2 j hj; rwa [Nat.zero_add, Nat.succ_mul, Nat.add_comm (i * sz) sz] at this, by simpa using h3⟩

end Go.Proofs.Ytipkbkhnaekceaa

namespace Go.Proofs.Ytipkbkhnaekceaa
open Go.RowKit

theorem i64_and255 (n : Int) : bits .and .i64 n 255 = n % 256 := by
  have h1 : (BitVec.ofInt 64 255).toNat = 2 ^ 8 - 1 := by decide
  have key : (BitVec.ofInt 64 n &&& BitVec.ofInt 64 255).toNat = (n % ((2 ^ 64 : Nat) : Int)).toNat % 2 ^ 8 := by
    rw [BitVec.toNat_and, BitVec.toNat_ofInt, h1, Nat.and_two_pow_sub_one_eq_mod]
  show IntKind.i64.wrap ((BitVec.ofInt 64 n &&& BitVec.ofInt 64 255).toNat : Nat) = n % 256
  rw [key, IntKind.wrap_i64]
  omega

theorem i64_and30 (n : Int) : bits .and .i64 n 1073741823 = n % 1073741824 := by
  have h1 : (BitVec.ofInt 64 1073741823).toNat = 2 ^ 30 - 1 := by decide
  have key : (BitVec.ofInt 64 n &&& BitVec.ofInt 64 1073741823).toNat = (n % ((2 ^ 64 : Nat) : Int)).toNat % 2 ^ 30 := by
    rw [BitVec.toNat_and, BitVec.toNat_ofInt, h1, Nat.and_two_pow_sub_one_eq_mod]
  show IntKind.i64.wrap ((BitVec.ofInt 64 n &&& BitVec.ofInt 64 1073741823).toNat : Nat) = n % 1073741824
  rw [key, IntKind.wrap_i64]
  omega

/-- The bytes that a draw is made of, as they came in. -/
def CodeRow (W : World) (v : Value) (n : Nat) : Prop :=
  ∃ a cap, v = .slice a n cap ∧ (0 < n → ∃ b off, a = some ⟨b, off, none⟩ ∧ b < W.heap.size ∧ ∀ i, i < n → ∃ z : Int, 0 ≤ z ∧ z < 256 ∧ W.cell? ⟨b, off + i, none⟩ = some (.int .u8 z))

/-- The cursor: three cells of the call's own: the bytes, a place in them, a number. -/
def Cur (W : World) (v : Value) (n g : Nat) (w : World) : Prop :=
  Below W.heap.size W w ∧ W.heap.size ≤ g ∧ ∃ i h : Int, 0 ≤ i ∧ i ≤ n ∧ -9223372036854775808 ≤ h ∧ h ≤ 9223372036854775807 ∧ w.heap[g]? = some (.cells #[v, .int .i64 i, .int .i64 h] 60 (0, 0))

theorem Cur.moved {W w w' : World} {v : Value} {n g : Nat} (h : Cur W v n g w) (hb : Below W.heap.size W w') (hg : w'.heap[g]? = w.heap[g]?) : Cur W v n g w' := by
  obtain ⟨_, h2, i, hh, h3, h4, h5, h6, h7⟩ := h
  exact ⟨hb, h2, i, hh, h3, h4, h5, h6, by rw [hg]; exact h7⟩

theorem Cur.lt {W w : World} {v : Value} {n g : Nat} (h : Cur W v n g w) : g < w.heap.size := by
  obtain ⟨_, _, _, _, _, _, _, _, h7⟩ := h
  exact (Array.getElem?_eq_some_iff.1 h7).1

theorem wrap64_in2 (y : Int) : -9223372036854775808 ≤ wrap64 y ∧ wrap64 y ≤ 9223372036854775807 := by unfold wrap64; omega

/-- Behind a draw that takes no byte. -/
theorem cur_h {W w : World} {v : Value} {n g : Nat} {i h : Int} (hb : Below W.heap.size W w) (hg : W.heap.size ≤ g) (h1 : 0 ≤ i) (h2 : i ≤ n)
    (h5 : w.heap[g]? = some (.cells #[v, .int .i64 i, .int .i64 h] 60 (0, 0))) (y : Int) (q : Nat) :
    Cur W v n g ((w.setCell ⟨g, 2, none⟩ (.int .i64 (wrap64 y))).drewN q) ∧ w.grownBy ((w.setCell ⟨g, 2, none⟩ (.int .i64 (wrap64 y))).drewN q) (some g) := by
  have hy := wrap64_in2 y
  refine ⟨⟨bel_drewN (hb.setCell hg _) q, hg, i, wrap64 y, h1, h2, hy.1, hy.2, ?_⟩, ⟨rfl, rfl, rfl, by simp, fun k _ hk => ?_⟩⟩
  · rw [World.heap_drewN, heap_setCell_same w g 2 _ _ _ h5]
    simp
  · rw [World.heap_drewN]
    exact heap_setCell_other w ⟨g, 2, none⟩ k _ (fun e => hk (by simp [e]))

/-- Behind a draw that takes a byte. -/
theorem cur_hi {W w : World} {v : Value} {n g : Nat} {i h : Int} (hb : Below W.heap.size W w) (hg : W.heap.size ≤ g) (h1 : 0 ≤ i) (h2 : i < n)
    (h5 : w.heap[g]? = some (.cells #[v, .int .i64 i, .int .i64 h] 60 (0, 0))) (y : Int) (q : Nat) :
    Cur W v n g (((w.setCell ⟨g, 2, none⟩ (.int .i64 (wrap64 y))).setCell ⟨g, 1, none⟩ (.int .i64 (i + 1))).drewN q) ∧ w.grownBy (((w.setCell ⟨g, 2, none⟩ (.int .i64 (wrap64 y))).setCell ⟨g, 1, none⟩ (.int .i64 (i + 1))).drewN q) (some g) := by
  have hy := wrap64_in2 y
  have h6 := heap_setCell_same w g 2 _ _ (.int .i64 (wrap64 y)) h5
  refine ⟨⟨bel_drewN ((hb.setCell hg _).setCell hg _) q, hg, i + 1, wrap64 y, by omega, by omega, hy.1, hy.2, ?_⟩, ⟨rfl, rfl, rfl, by simp, fun k _ hk => ?_⟩⟩
  · rw [World.heap_drewN, heap_setCell_same _ g 1 _ _ _ h6]
    simp
  · rw [World.heap_drewN, heap_setCell_other _ ⟨g, 1, none⟩ k _ (fun e => hk (by simp [e]))]
    exact heap_setCell_other w ⟨g, 2, none⟩ k _ (fun e => hk (by simp [e]))

set_option maxHeartbeats 1600000 in
set_option maxRecDepth 100000 in
theorem byte_any (W : World) (v : Value) (n g : Nat) (w : World) (hn : n ≤ 1000000000000) (hcode : CodeRow W v n) (hc : Cur W v n g w) :
    Calls Try.prog 22 #[.pointer (some ⟨g, 0, none⟩)] w fun e w' => ∃ x : Int, e = .returned (.int .i64 x) ∧ 0 ≤ x ∧ x < 256 ∧ Cur W v n g w' ∧ w.grownBy w' (some g) := by
  obtain ⟨hb, hg, i, h, h1, h2, h3, h4, h5⟩ := hc
  have HC : Hid (CodeRow W v n) := hcode
  have HB : Hid (Below W.heap.size W w) := hb
  have H5 : Hid (w.heap[g]? = some (.cells #[v, .int .i64 i, .int .i64 h] 60 (0, 0))) := h5
  clear hcode hb h5
  have c0 : w.cell? ⟨g, 0, none⟩ = some v := by rw [cell_of_row w g 0 _ _ _ H5.out]; rfl
  have c1 : w.cell? ⟨g, 1, none⟩ = some (.int .i64 i) := by rw [cell_of_row w g 1 _ _ _ H5.out]; rfl
  have c2 : w.cell? ⟨g, 2, none⟩ = some (.int .i64 h) := by rw [cell_of_row w g 2 _ _ _ H5.out]; rfl
  have f1 : w.frozen? ⟨g, 1, none⟩ = false := frozen_of_row w g 1 _ _ H5.out
  have f2 : w.frozen? ⟨g, 2, none⟩ = false := frozen_of_row w g 2 _ _ H5.out
  by_cases hlt : i < n
  · obtain ⟨a, cap, rfl, hcell⟩ := HC.out
    obtain ⟨b, off, rfl, hbl, hcell⟩ := hcell (by omega)
    obtain ⟨k, rfl⟩ := Int.eq_ofNat_of_zero_le h1
    obtain ⟨z, z0, z1, hz⟩ := hcell k (by omega)
    have hz2 : w.cell? ⟨b, off + k, none⟩ = some (.int .u8 z) := (HB.out.cell hbl).trans hz
    have hne : b ≠ g := by omega
    clear hcell hz
    have hlt1 : (k : Int) < (n : Int) := by omega
    have e255 := i64_and255
    have ez : IntKind.i64.wrap z = z := wrap_small z z0 (by omega)
    go_enter Try.func22, Try.ntmps22
    go_wp2
    go_quiet (fail)
    go_wp2
    go_quiet (fail)
    go_wp2
    go_quiet (fail)
    go_wp2
    go_ret
    exact ⟨_, rfl, by omega, by omega, cur_hi HB.out hg h1 hlt H5.out _ _⟩
  · obtain ⟨a, cap, rfl, _⟩ := HC.out
    have hge : (n : Int) ≤ i := by omega
    have e255 := i64_and255
    go_enter Try.func22, Try.ntmps22
    go_wp2
    go_quiet (fail)
    go_wp2
    go_quiet (fail)
    go_wp2
    go_ret
    simp only [World.drewN_drewN]
    exact ⟨_, rfl, by omega, by omega, cur_h HB.out hg h1 h2 H5.out _ _⟩

/-- A contract's part of the world: the cursor goes on, and nothing but its block and new ones has turned. -/
def Went (W : World) (v : Value) (n g : Nat) (w w' : World) : Prop := Cur W v n g w' ∧ w.grownBy w' (some g)

theorem went_trans {W : World} {v : Value} {n g : Nat} {w w1 w2 : World} (h : Went W v n g w w1) (k : Went W v n g w1 w2) : Went W v n g w w2 :=
  ⟨k.1, ⟨k.2.os.trans h.2.os, k.2.tape.trans h.2.tape, k.2.output.trans h.2.output, Nat.le_trans h.2.size k.2.size, fun i hi hr => (k.2.block i (Nat.lt_of_lt_of_le hi h.2.size) hr).trans (h.2.block i hi hr)⟩⟩

theorem byte_went (W : World) (v : Value) (n g : Nat) (w : World) (hn : n ≤ 1000000000000) (hcode : CodeRow W v n) (hc : Cur W v n g w) :
    Calls Try.prog 22 #[.pointer (some ⟨g, 0, none⟩)] w fun e w' => ∃ x : Int, e = .returned (.int .i64 x) ∧ (0 ≤ x ∧ x < 256) ∧ Went W v n g w w' := by
  refine (byte_any W v n g w hn hcode hc).mono ?_
  rintro e w' ⟨x, rfl, h1, h2, h3, h4⟩
  exact ⟨x, rfl, ⟨h1, h2⟩, h3, h4⟩

set_option maxHeartbeats 800000 in
theorem below_any (W : World) (v : Value) (n g : Nat) (m : Int) (w : World) (hn : n ≤ 1000000000000) (hcode : CodeRow W v n) (hc : Cur W v n g w) (hm : 0 < m) (hm1 : m ≤ 4294967296) :
    Calls Try.prog 10 #[.pointer (some ⟨g, 0, none⟩), .int .i64 m] w fun e w' => ∃ x : Int, e = .returned (.int .i64 x) ∧ (0 ≤ x ∧ x < m) ∧ Went W v n g w w' := by
  have HC : Hid (CodeRow W v n) := hcode
  have HW : Hid (Cur W v n g w) := hc
  clear hcode hc
  by_cases h : m ≤ 256
  · go_enter Try.func10, Try.ntmps10
    go_wp2_with fail
    refine (byte_went W v n g _ hn HC.out HW.out).mono ?_
    rintro e w1 ⟨x, rfl, ⟨x0, x1⟩, hw1⟩
    have H1 : Hid (Went W v n g w w1) := hw1
    clear hw1
    go_wp2
    go_ret
    exact ⟨_, rfl, ⟨Int.emod_nonneg _ (by omega), Int.emod_lt_of_pos _ hm⟩, H1.out⟩
  · have h1 : 256 < m := by omega
    go_enter Try.func10, Try.ntmps10
    go_wp2_with fail
    refine (byte_went W v n g _ hn HC.out HW.out).mono ?_
    rintro e w1 ⟨x, rfl, ⟨x0, x1⟩, hw1⟩
    have H1 : Hid (Went W v n g w w1) := hw1
    clear hw1
    go_wp2_with fail
    refine (byte_went W v n g _ hn HC.out H1.out.1).mono ?_
    rintro e w2 ⟨y, rfl, ⟨y0, y1⟩, hw2⟩
    have H2 : Hid (Went W v n g w w2) := went_trans H1.out hw2
    clear hw2
    go_wp2_with fail
    refine (byte_went W v n g _ hn HC.out H2.out.1).mono ?_
    rintro e w3 ⟨z, rfl, ⟨z0, z1⟩, hw3⟩
    have H3 : Hid (Went W v n g w w3) := went_trans H2.out hw3
    clear hw3
    go_wp2_with fail
    refine (byte_went W v n g _ hn HC.out H3.out.1).mono ?_
    rintro e w4 ⟨t, rfl, ⟨t0, t1⟩, hw4⟩
    have H4 : Hid (Went W v n g w w4) := went_trans H3.out hw4
    clear hw4
    go_wp2
    go_ret
    exact ⟨_, rfl, ⟨Int.emod_nonneg _ (by omega), Int.emod_lt_of_pos _ hm⟩, H4.out⟩

end Go.Proofs.Ytipkbkhnaekceaa
