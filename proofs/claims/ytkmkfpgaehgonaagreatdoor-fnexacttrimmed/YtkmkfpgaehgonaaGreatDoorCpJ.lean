/- The specification's l06Copy: a grammar, copied anew (printed by mk/cpj.py out of FlP). -/
import Derived.Test.YtkmkfpgaehgonaaGreatDoorItvJ
import Derived.Deep.RegionLaw
import Derived.Deep.CutRange
namespace Go.Proofs.YtkmkfpgaehgonaaGreatDoor
open Go.RowKit
set_option linter.unusedVariables false

theorem bel_drewJ {B : Nat} {a w : World} (h : Below B a w) : Below B a w.drew := ⟨h.os, h.tape, h.output, h.size, h.block⟩
/-- Alternatives and rules that lie in blocks of their own, from lo to hi. -/
def SymJ (lo hi : Nat) (w : World) (vs : List Value) (x : SymD) : Prop := SymE w vs x
def AltJ (lo hi : Nat) (w : World) (vs : List Value) (a : List SymD) : Prop := ∃ (sv : Value) (B X : Nat), vs = [sv] ∧ RowJ 4 63 SymJ B X sv a w ∧ lo ≤ B ∧ X ≤ hi
def RuleJ (lo hi : Nat) (w : World) (vs : List Value) (r : RuleD) : Prop := ∃ (pv av : Value) (B0 B1 X : Nat), vs = [.string r.name, pv, av] ∧ OwnB B0 pv r.params w ∧ (∀ k, pv.ownBlock = some k → k < B1) ∧ RowJ 1 60 AltJ B1 X av r.alts w ∧ lo ≤ B0 ∧ lo ≤ B1 ∧ X ≤ hi
/-! ### with blocks of their own -/
def SymG (F : Nat → Prop) (w : World) (vs : List Value) (x : SymD) : Prop := ∃ v : Value, vs = [.int .i64 x.kind, .string x.text, v, .string x.bind] ∧ ∀ W : World, Ag F w W → RowC 1 ExprE W v x.args
def AltG (F : Nat → Prop) (w : World) (vs : List Value) (x : List SymD) : Prop := ∃ v : Value, vs = [v] ∧ RowF 4 63 SymG F v x w
def RuleG (F : Nat → Prop) (w : World) (vs : List Value) (x : RuleD) : Prop := ∃ (v u : Value) (Fp Fa : Nat → Prop), vs = [.string x.name, v, u] ∧ OwnB 0 v x.params w ∧ (∀ k, v.ownBlock = some k → Fp k) ∧ RowF 1 60 AltG Fa u x.alts w ∧ (∀ k, Fp k → F k) ∧ (∀ k, Fa k → F k) ∧ ∀ k, Fp k → ¬ Fa k
theorem stabSymG : StabF SymG := ⟨fun F w w' vs x h ha => by
    obtain ⟨v, e, h1⟩ := h
    exact ⟨v, e, fun W hW => h1 W (ha.trans hW)⟩, fun F G w vs x h hs => by
    obtain ⟨v, e, h1⟩ := h
    exact ⟨v, e, fun W hW => h1 W (hW.sub hs)⟩⟩
theorem stabAltG : StabF AltG := ⟨fun F w w' vs x h ha => by
    obtain ⟨v, e, h1⟩ := h
    exact ⟨v, e, h1.ag stabSymG ha⟩, fun F G w vs x h hs => by
    obtain ⟨v, e, h1⟩ := h
    exact ⟨v, e, h1.up hs⟩⟩
theorem stabRuleG : StabF RuleG := ⟨fun F w w' vs x h ha => by
    obtain ⟨v, u, Fp, Fa, e, h1, h2, h3, h4, h5, h6⟩ := h
    exact ⟨v, u, Fp, Fa, e, own_ag h1 ha (fun k hk => h4 k (h2 k hk)), h2, h3.ag stabAltG (ha.sub h5), h4, h5, h6⟩, fun F G w vs x h hs => by
    obtain ⟨v, u, Fp, Fa, e, h1, h2, h3, h4, h5, h6⟩ := h
    exact ⟨v, u, Fp, Fa, e, h1, h2, h3, fun k hk => hs k (h4 k hk), fun k hk => hs k (h5 k hk), h6⟩⟩
theorem SymG.e {F : Nat → Prop} {w : World} {vs : List Value} {x : SymD} (h : SymG F w vs x) : SymE w vs x := by
  obtain ⟨v, rfl, h1⟩ := h
  exact ⟨v, rfl, h1 w (Ag.refl)⟩
theorem AltG.e {F : Nat → Prop} {w : World} {vs : List Value} {x : List SymD} (h : AltG F w vs x) : AltE w vs x := by
  obtain ⟨v, rfl, h1⟩ := h
  exact ⟨v, rfl, h1.rowC (fun F w vs x h => h.e)⟩
theorem RuleG.e {F : Nat → Prop} {w : World} {vs : List Value} {x : RuleD} (h : RuleG F w vs x) : RuleE w vs x := by
  obtain ⟨v, u, Fp, Fa, rfl, h1, h2, h3, h4, h5, h6⟩ := h
  exact ⟨v, u, rfl, h1.row, h3.rowC (fun F w vs x h => h.e)⟩
theorem symG_of {w : World} (lo hi : Nat) (vs : List Value) (x : SymD) (h : InI lo hi w (fun W => SymJ lo hi W vs x)) : SymG (Nw lo hi) w vs x := by
  obtain ⟨v, e, _⟩ := h.here
  refine ⟨v, e, fun W hW => ?_⟩
  obtain ⟨v', e', h2⟩ := h.2 W (Nat.le_trans h.1 hW.1) (fun k k1 k2 => hW.2 k ⟨k1, k2⟩ (Nat.lt_of_lt_of_le k2 h.1))
  rw [e] at e'
  obtain rfl : v = v' := by simpa using e'
  exact h2
theorem altG_of {w : World} (lo hi : Nat) (vs : List Value) (x : List SymD) (h : InI lo hi w (fun W => AltJ lo hi W vs x)) : AltG (Nw lo hi) w vs x := by
  obtain ⟨sv, B, X, rfl, h1, h2, h3⟩ := h.here
  have ho : ∀ k, sv.ownBlock = some k → lo ≤ k ∧ k < hi := inJ_own (sz := 4) (T := 63) (E := SymJ) (xs := x) (h.imp fun W hW => by
    obtain ⟨v', B', X', e', h1', _⟩ := hW
    obtain rfl : sv = v' := by simpa using e'
    exact ⟨B', X', h1'⟩)
  refine ⟨sv, rfl, h1.rowF stabSymG symG_of h2 h3 ho⟩
theorem ruleG_of {w : World} (lo hi : Nat) (vs : List Value) (x : RuleD) (h : InI lo hi w (fun W => RuleJ lo hi W vs x)) : RuleG (Nw lo hi) w vs x := by
  obtain ⟨pv, av, B0, B1, X, rfl, hp, hpB, h1, h2, h3, h4⟩ := h.here
  have hh : ∀ k, pv.ownBlock = some k → lo ≤ k := fun k hk => by have := (World.ownsRow.lt hp k hk).1; omega
  have ho : ∀ k, av.ownBlock = some k → lo ≤ k ∧ k < hi := inJ_own (sz := 1) (T := 60) (E := AltJ) (xs := x.alts) (h.imp fun W hW => by
    obtain ⟨p', v', B0', B', X', e', _, _, h1', _⟩ := hW
    obtain ⟨rfl, rfl⟩ : pv = p' ∧ av = v' := by simpa using e'
    exact ⟨B', X', h1'⟩)
  have hav : ∀ k, av.ownBlock = some k → B1 ≤ k := fun k hk => (h1.lt k hk).1
  have hpx : ∀ k, pv.ownBlock = some k → k < hi := fun k hk => by
    by_cases hb : k < hi
    · exact hb
    · have hlt := (World.ownsRow.lt hp k hk).2
      obtain ⟨p', v', B0', B', X', e', hp', _⟩ := h.2 (putJ w k (.stringIter ⟨#[]⟩ 0)) (by rw [putJ_size]; exact h.1) (fun j hj hj' => putJ_other w _ (by omega))
      obtain ⟨rfl, rfl⟩ : pv = p' ∧ av = v' := by simpa using e'
      rcases hp'.2 with ⟨rfl, _⟩ | ⟨g, cap, cur, rfl, _, hc, _⟩
      · cases hk
      · cases hk
        rw [putJ_self w _ hlt] at hc
        cases hc
  refine ⟨pv, av, fun k => Nw lo hi k ∧ k < B1, Nw B1 hi, rfl, ⟨hp.1, ?_⟩, fun k hk => ⟨⟨hh k hk, hpx k hk⟩, hpB k hk⟩, h1.rowF stabAltG altG_of (Nat.le_refl _) h4 (fun k hk => ⟨hav k hk, (ho k hk).2⟩), fun k hk => hk.1, fun k hk => ⟨Nat.le_trans h3 hk.1, hk.2⟩, fun k hk hk' => by have := hk.2; have := hk'.1; omega⟩
  rcases hp.2 with hn | ⟨g, cap, cur, rfl, hB, hc, r⟩
  · exact .inl hn
  · exact .inr ⟨g, cap, cur, rfl, Nat.zero_le _, hc, r⟩
/-- A grammar's rules, told with bounds: they have each blocks of their own. -/
theorem gramG_of {w : World} {B X : Nat} {v : Value} {g : List RuleD} (h : RowJ 3 42 RuleJ B X v g w) (hX : X ≤ w.heap.size) : RowF 3 42 RuleG (Nw B w.heap.size) v g w :=
  h.rowF stabRuleG ruleG_of (Nat.le_refl _) hX (fun k hk => h.lt k hk)
structure C3j (wk : World) (syms : List SymD) (l : Nat) (sv : Value) (X : Nat) (wr : World) : Prop where
  box : wr.heap[wk.heap.size]? = some (.cells #[sv] 60 (0, 0))
  row : RowJ 4 63 SymJ (wk.heap.size + 1) X sv (syms.take l) wr
  lo : wk.heap.size + 1 ≤ X
  xle : X ≤ wr.heap.size
  bel : Below wk.heap.size wk wr
structure C2j (wo : World) (br b1 : Nat) (r : RuleD) (k : Nat) (pv av : Value) (X : Nat) (wr : World) : Prop where
  box : wr.heap[br]? = some (.cells #[.string r.name, pv, av] 42 (0, 0))
  par : OwnB wo.heap.size pv r.params wr
  plt : ∀ k, pv.ownBlock = some k → k < b1 ∧ k ≠ br
  blt : br < b1
  row : RowJ 1 60 AltJ b1 X av (r.alts.take k) wr
  lo : b1 ≤ X
  xle : X ≤ wr.heap.size
  bel : Below wo.heap.size wo wr
  ge : wo.heap.size ≤ br
structure C1j (w : World) (gv : Value) (g : List RuleD) (i : Nat) (ov : Value) (X : Nat) (wr : World) : Prop where
  gb : wr.heap[w.heap.size]? = some (.cells #[gv] 28 (0, 0))
  rb : wr.heap[w.heap.size + 1]? = some (.cells #[.slice none 0 0] 28 (0, 0))
  box : wr.heap[w.heap.size + 2]? = some (.cells #[ov] 28 (0, 0))
  row : RowJ 3 42 RuleJ (w.heap.size + 3) X ov (g.take i) wr
  lo : w.heap.size + 3 ≤ X
  xle : X ≤ wr.heap.size
  bel : Below w.heap.size w wr
theorem C1j.step {w : World} {gv : Value} {g : List RuleD} {i : Nat} {ov : Value} {X : Nat} {wr wr' : World} (h : C1j w gv g i ov X wr) (hb : Below wr.heap.size wr wr') : C1j w gv g i ov X wr' :=
  ⟨(hb.block _ (Array.getElem?_eq_some_iff.1 h.gb).1).trans h.gb, (hb.block _ (Array.getElem?_eq_some_iff.1 h.rb).1).trans h.rb, (hb.block _ (Array.getElem?_eq_some_iff.1 h.box).1).trans h.box, h.row.below h.xle hb, h.lo, Nat.le_trans h.xle hb.size, h.bel.trans (hb.mono h.bel.size)⟩
theorem C2j.step {wo : World} {br b1 : Nat} {r : RuleD} {k : Nat} {pv av : Value} {X : Nat} {wr wr' : World} (h : C2j wo br b1 r k pv av X wr) (hb : Below wr.heap.size wr wr') : C2j wo br b1 r k pv av X wr' :=
  ⟨(hb.block _ (Array.getElem?_eq_some_iff.1 h.box).1).trans h.box, h.par.below hb, h.plt, h.blt, h.row.below h.xle hb, h.lo, Nat.le_trans h.xle hb.size, h.bel.trans (hb.mono h.bel.size), h.ge⟩
theorem C3j.step {wk : World} {syms : List SymD} {l : Nat} {sv : Value} {X : Nat} {wr wr' : World} (h : C3j wk syms l sv X wr) (hb : Below wr.heap.size wr wr') : C3j wk syms l sv X wr' :=
  ⟨(hb.block _ (Array.getElem?_eq_some_iff.1 h.box).1).trans h.box, h.row.below h.xle hb, h.lo, Nat.le_trans h.xle hb.size, h.bel.trans (hb.mono h.bel.size)⟩
/-- A sym more. -/
theorem C3j.sym {wk : World} {syms : List SymD} {l : Nat} {sv : Value} {X : Nat} {wr w6 : World} {o : Value} (hl : l < syms.length) (l0 l1 l2 l3 : Value) (h : C3j wk syms l sv X wr) (hb6 : Below (wr.alloc (.cells #[l0, l1, l2, l3] 63)).heap.size (wr.alloc (.cells #[l0, l1, l2, l3] 63)) w6) (hF : Fresh (wr.alloc (.cells #[l0, l1, l2, l3] 63)).heap.size w6 (fun V => RowC 1 ExprE V o syms[l].args)) :
    ∃ cs, ((w6.setCell ⟨wr.heap.size, 2, none⟩ o).alloc (.cells #[.int .i64 syms[l].kind, .string syms[l].text, o, .string syms[l].bind] 63)).ownsRow (wk.heap.size + 1) 63 4 sv (syms.take l).length cs ∧ Below wr.heap.size wr ((w6.setCell ⟨wr.heap.size, 2, none⟩ o).alloc (.cells #[.int .i64 syms[l].kind, .string syms[l].text, o, .string syms[l].bind] 63)) ∧ (w6.setCell ⟨wr.heap.size, 2, none⟩ o).heap.size = w6.heap.size ∧
    ∀ (g cap : Nat) (w8 : World), w8.ownsRow (wk.heap.size + 1) 63 4 (.slice (some ⟨g, 0, none⟩) (l + 1) cap) (l + 1) (cs ++ [.int .i64 syms[l].kind, .string syms[l].text, o, .string syms[l].bind]) → ((w6.setCell ⟨wr.heap.size, 2, none⟩ o).alloc (.cells #[.int .i64 syms[l].kind, .string syms[l].text, o, .string syms[l].bind] 63)).grownBy w8 sv.ownBlock → (sv.ownBlock = some g ∨ g = ((w6.setCell ⟨wr.heap.size, 2, none⟩ o).alloc (.cells #[.int .i64 syms[l].kind, .string syms[l].text, o, .string syms[l].bind] 63)).heap.size) →
      w8.heap[wk.heap.size]? = some (.cells #[sv] 60 (0, 0)) ∧ C3j wk syms (l + 1) (.slice (some ⟨g, 0, none⟩) (l + 1) cap) w6.heap.size (w8.setCell ⟨wk.heap.size, 0, none⟩ (.slice (some ⟨g, 0, none⟩) (l + 1) cap)) := by
  have hs5 : wr.heap.size < (wr.alloc (.cells #[l0, l1, l2, l3] 63)).heap.size := by simp
  have e5 : (wr.alloc (.cells #[l0, l1, l2, l3] 63)).heap.size = wr.heap.size + 1 := by simp
  have B5 : Below wr.heap.size wr (wr.alloc (.cells #[l0, l1, l2, l3] 63)) := (Below.refl _ _).alloc (Nat.le_refl _) _
  have B6 : Below wr.heap.size wr w6 := B5.trans (hb6.mono B5.size)
  have hs7 : (w6.setCell ⟨wr.heap.size, 2, none⟩ o).heap.size = w6.heap.size := by simp [World.setCell]
  have B7 : Below wr.heap.size wr ((w6.setCell ⟨wr.heap.size, 2, none⟩ o).alloc (.cells #[.int .i64 syms[l].kind, .string syms[l].text, o, .string syms[l].bind] 63)) := (B6.setCell (Nat.le_refl _) o).alloc (by rw [hs7]; exact B6.size) _
  have h7 := h.step B7
  have hov : ∀ k, sv.ownBlock = some k → k < wr.heap.size := fun k hk => (h.row.lt k hk).2
  have hb6s := hb6.size
  have F7 : InI (wr.heap.size + 1) w6.heap.size ((w6.setCell ⟨wr.heap.size, 2, none⟩ o).alloc (.cells #[.int .i64 syms[l].kind, .string syms[l].text, o, .string syms[l].bind] 63)) (fun V => SymE V [.int .i64 syms[l].kind, .string syms[l].text, o, .string syms[l].bind] syms[l]) := by
    have f1 : InI (wr.heap.size + 1) w6.heap.size w6 (fun V => SymE V [.int .i64 syms[l].kind, .string syms[l].text, o, .string syms[l].bind] syms[l]) := InI.of_fresh (Fresh.imp (e5 ▸ hF) (fun V hv => ⟨o, rfl, hv⟩))
    have f2 := f1.go (w' := w6.setCell ⟨wr.heap.size, 2, none⟩ o) (by rw [hs7]; exact Nat.le_refl _) (fun k k1 k2 => setCell_other _ (by omega))
    exact f2.below ((Below.refl _ _).alloc (Nat.le_refl _) _)
  have hx : wr.heap.size + 1 ≤ ((w6.setCell ⟨wr.heap.size, 2, none⟩ o).alloc (.cells #[.int .i64 syms[l].kind, .string syms[l].text, o, .string syms[l].bind] 63)).heap.size := by simp [World.setCell]; omega
  have hwk := h.bel.size
  obtain ⟨cs, ho, hK⟩ := RowJ.add (h7.row.up (X' := wr.heap.size + 1) (by have := h.xle; omega)) (by omega) (fun k hk => Nat.lt_succ_of_lt (hov k hk)) hx
  refine ⟨cs, ho, B7, hs7, fun g cap w8 ho8 hg8 hat8 => ?_⟩
  have hll : (syms.take l).length = l := by rw [List.length_take]; omega
  rw [hll] at hK ho
  have R := hK g cap w6.heap.size w8 _ syms[l] rfl (by omega) F7 ho8 hg8 hat8
  rw [← List.take_succ_eq_append_getElem hl] at R
  have hg1 : wk.heap.size + 1 ≤ g := (World.ownsRow.lt ho8 g rfl).1
  have hne : sv.ownBlock ≠ some wk.heap.size := fun e => by have := (h.row.lt _ e).1; omega
  have hbx : w8.heap[wk.heap.size]? = some (.cells #[sv] 60 (0, 0)) := xb_grownC hg8 h7.box (fun e => hne e)
  have hs8 : (w8.setCell ⟨wk.heap.size, 0, none⟩ (.slice (some ⟨g, 0, none⟩) (l + 1) cap)).heap.size = w8.heap.size := by simp [World.setCell]
  have hw68 : w6.heap.size ≤ w8.heap.size := Nat.le_trans (by simp [World.setCell]) hg8.size
  refine ⟨hbx, (setCell_self _ hbx).trans rfl, R.go (by rw [hs8]; exact hw68) (fun k hk => setCell_other _ (by cases hk; show g ≠ _; omega)) (fun k k1 _ _ => setCell_other _ (by omega)), by omega, by rw [hs8]; exact hw68, ?_⟩
  exact (h7.bel.grown hg8 (Nat.le_trans hwk B7.size) (fun k hk => by have := (h.row.lt k hk).1; omega)).setCell (Nat.le_refl _) _
/-- Alternatives more. -/
theorem C2j.alt {wo : World} {br b1 : Nat} {r : RuleD} {k : Nat} {pv av : Value} {X : Nat} {wk wr : World} {sv : Value} {X3 : Nat} (hk : k < r.alts.length) (h : C2j wo br b1 r k pv av X wk) (h3 : C3j wk r.alts[k] r.alts[k].length sv X3 wr) :
    ∃ cs, (wr.alloc (.cells #[sv] 60)).ownsRow b1 60 1 av (r.alts.take k).length cs ∧
    ∀ (g cap : Nat) (w8 : World), w8.ownsRow b1 60 1 (.slice (some ⟨g, 0, none⟩) (k + 1) cap) (k + 1) (cs ++ [sv]) → (wr.alloc (.cells #[sv] 60)).grownBy w8 av.ownBlock → (av.ownBlock = some g ∨ g = (wr.alloc (.cells #[sv] 60)).heap.size) →
      w8.heap[br]? = some (.cells #[.string r.name, pv, av] 42 (0, 0)) ∧ C2j wo br b1 r (k + 1) pv (.slice (some ⟨g, 0, none⟩) (k + 1) cap) wr.heap.size (w8.setCell ⟨br, 2, none⟩ (.slice (some ⟨g, 0, none⟩) (k + 1) cap)) := by
  have B7 : Below wk.heap.size wk (wr.alloc (.cells #[sv] 60)) := h3.bel.alloc h3.bel.size _
  have h7 := h.step B7
  have hkr := h3.bel.size
  have hbk : wk.heap.size < wr.heap.size := (Array.getElem?_eq_some_iff.1 h3.box).1
  have hov : ∀ q, av.ownBlock = some q → q < wk.heap.size := fun q hq => (h.row.lt q hq).2
  have F7 : InI (wk.heap.size + 1) wr.heap.size (wr.alloc (.cells #[sv] 60)) (fun V => AltJ (wk.heap.size + 1) wr.heap.size V [sv] r.alts[k]) := by
    have f1 : Fresh (wk.heap.size + 1) wr (fun V => AltJ (wk.heap.size + 1) wr.heap.size V [sv] r.alts[k]) := Fresh.imp (h3.row.fresh h3.xle) (fun V hv => ⟨sv, _, _, rfl, by rw [List.take_length] at hv; exact hv, Nat.le_refl _, h3.xle⟩)
    exact (InI.of_fresh f1).below ((Below.refl _ _).alloc (Nat.le_refl _) _)
  have hbr := h.lo
  have hbl := h.blt
  have hxk := h.xle
  obtain ⟨cs, ho, hK⟩ := RowJ.add (h7.row.up (X' := wk.heap.size + 1) (by omega)) (by omega) (fun q hq => Nat.lt_succ_of_lt (hov q hq)) (by simp; omega)
  refine ⟨cs, ho, fun g cap w8 ho8 hg8 hat8 => ?_⟩
  have hll : (r.alts.take k).length = k := by rw [List.length_take]; omega
  rw [hll] at hK ho
  have R := hK g cap wr.heap.size w8 _ r.alts[k] rfl (by omega) F7 ho8 hg8 hat8
  rw [← List.take_succ_eq_append_getElem hk] at R
  have hg1 : b1 ≤ g := (World.ownsRow.lt ho8 g rfl).1
  have hne : av.ownBlock ≠ some br := fun e => by have := (h.row.lt _ e).1; omega
  have hbx : w8.heap[br]? = some (.cells #[.string r.name, pv, av] 42 (0, 0)) := xb_grownC hg8 h7.box (fun e => hne e)
  have hs8 : (w8.setCell ⟨br, 2, none⟩ (.slice (some ⟨g, 0, none⟩) (k + 1) cap)).heap.size = w8.heap.size := by simp [World.setCell]
  have hw68 : wr.heap.size ≤ w8.heap.size := Nat.le_trans (by simp) hg8.size
  have hge := h.ge
  have hpl := h.plt
  refine ⟨hbx, (setCell_self _ hbx).trans rfl, ?_, h.plt, h.blt, R.go (by rw [hs8]; exact hw68) (fun q hq => setCell_other _ (by cases hq; show g ≠ _; omega)) (fun q k1 _ _ => setCell_other _ (by omega)), by omega, by rw [hs8]; exact hw68, ?_, h.ge⟩
  · have p8 : OwnB wo.heap.size pv r.params w8 := h7.par.kept hg8 (fun q hq e => by have h1 := (hpl q hq).1; have h2 := (h.row.lt q e).1; omega)
    refine ⟨p8.1, ?_⟩
    rcases p8.2 with hn | ⟨q, cp, cur, rfl, hB, hc, rr⟩
    · exact .inl hn
    · exact .inr ⟨q, cp, cur, rfl, hB, (setCell_other _ (hpl q rfl).2).trans hc, rr⟩
  · exact (h7.bel.grown hg8 (Nat.le_trans h.bel.size B7.size) (fun q hq => by have h2 := (h.row.lt q hq).1; omega)).setCell h.ge _
/-- A rule more. -/
theorem C1j.rule {w : World} {gv : Value} {g : List RuleD} {i : Nat} {ov : Value} {X : Nat} {wo wr : World} {br b1 : Nat} {pv av : Value} {X2 : Nat} (hi : i < g.length) (h : C1j w gv g i ov X wo) (h2 : C2j wo br b1 g[i] g[i].alts.length pv av X2 wr) :
    ∃ cs, (wr.alloc (.cells #[.string g[i].name, pv, av] 42)).ownsRow (w.heap.size + 3) 42 3 ov (g.take i).length cs ∧
    ∀ (q cap : Nat) (w8 : World), w8.ownsRow (w.heap.size + 3) 42 3 (.slice (some ⟨q, 0, none⟩) (i + 1) cap) (i + 1) (cs ++ [.string g[i].name, pv, av]) → (wr.alloc (.cells #[.string g[i].name, pv, av] 42)).grownBy w8 ov.ownBlock → (ov.ownBlock = some q ∨ q = (wr.alloc (.cells #[.string g[i].name, pv, av] 42)).heap.size) →
      w8.heap[w.heap.size + 2]? = some (.cells #[ov] 28 (0, 0)) ∧ C1j w gv g (i + 1) (.slice (some ⟨q, 0, none⟩) (i + 1) cap) wr.heap.size (w8.setCell ⟨w.heap.size + 2, 0, none⟩ (.slice (some ⟨q, 0, none⟩) (i + 1) cap)) := by
  have B7 : Below wo.heap.size wo (wr.alloc (.cells #[.string g[i].name, pv, av] 42)) := h2.bel.alloc h2.bel.size _
  have h7 := h.step B7
  have hkr := h2.bel.size
  have hov : ∀ q, ov.ownBlock = some q → q < wo.heap.size := fun q hq => (h.row.lt q hq).2
  have hge := h2.ge
  have hbl := h2.blt
  have F7 : InI wo.heap.size wr.heap.size (wr.alloc (.cells #[.string g[i].name, pv, av] 42)) (fun V => RuleJ wo.heap.size wr.heap.size V [.string g[i].name, pv, av] g[i]) := by
    have f1 : Fresh wo.heap.size wr (fun V => RuleJ wo.heap.size wr.heap.size V [.string g[i].name, pv, av] g[i]) := Fresh.imp ((own_fresh h2.par).and ((h2.row.fresh h2.xle).base (B' := wo.heap.size) (by omega))) (fun V hv => ⟨pv, av, _, _, _, rfl, hv.1, fun k hk => (h2.plt k hk).1, by have h := hv.2; rw [List.take_length] at h; exact h, Nat.le_refl _, by omega, h2.xle⟩)
    exact (InI.of_fresh f1).below ((Below.refl _ _).alloc (Nat.le_refl _) _)
  have hlo := h.lo
  have hxk := h.xle
  obtain ⟨cs, ho, hK⟩ := RowJ.add (h7.row.up (X' := wo.heap.size) (by omega)) (by omega) hov (by simp; omega)
  refine ⟨cs, ho, fun q cap w8 ho8 hg8 hat8 => ?_⟩
  have hll : (g.take i).length = i := by rw [List.length_take]; omega
  rw [hll] at hK ho
  have R := hK q cap wr.heap.size w8 _ g[i] rfl hkr F7 ho8 hg8 hat8
  rw [← List.take_succ_eq_append_getElem hi] at R
  have hg1 : w.heap.size + 3 ≤ q := (World.ownsRow.lt ho8 q rfl).1
  have hne : ∀ k, k < w.heap.size + 3 → ov.ownBlock ≠ some k := fun k hk e => by have := (h.row.lt _ e).1; omega
  have hbx : w8.heap[w.heap.size + 2]? = some (.cells #[ov] 28 (0, 0)) := xb_grownC hg8 h7.box (hne _ (by omega))
  have hs8 : (w8.setCell ⟨w.heap.size + 2, 0, none⟩ (.slice (some ⟨q, 0, none⟩) (i + 1) cap)).heap.size = w8.heap.size := by simp [World.setCell]
  have hw68 : wr.heap.size ≤ w8.heap.size := Nat.le_trans (by simp) hg8.size
  refine ⟨hbx, (setCell_other _ (by omega)).trans (xb_grownC hg8 h7.gb (hne _ (by omega))), (setCell_other _ (by omega)).trans (xb_grownC hg8 h7.rb (hne _ (by omega))), (setCell_self _ hbx).trans rfl, R.go (by rw [hs8]; exact hw68) (fun k hk => setCell_other _ (by cases hk; show q ≠ _; omega)) (fun k k1 _ _ => setCell_other _ (by omega)), by omega, by rw [hs8]; exact hw68, ?_⟩
  exact (h7.bel.grown hg8 (Nat.le_trans h.bel.size B7.size) (fun k hk => by have h2 := (h.row.lt k hk).1; omega)).setCell (show w.heap.size ≤ w.heap.size + 2 by omega) _
theorem c2_start {wo W8 : World} {pv : Value} {br : Nat} (r : RuleD) (hbox : W8.heap[br]? = some (.cells #[.string r.name, pv, .slice none 0 0] 42 (0, 0))) (hp : OwnB wo.heap.size pv r.params W8) (hne : ∀ k, pv.ownBlock = some k → k ≠ br) (hb : Below wo.heap.size wo W8) (hge : wo.heap.size ≤ br) :
    C2j wo br W8.heap.size r 0 pv (.slice none 0 0) W8.heap.size W8 :=
  ⟨hbox, hp, fun k hk => ⟨(World.ownsRow.lt hp k hk).2, hne k hk⟩, (Array.getElem?_eq_some_iff.1 hbox).1, RowJ.nil, Nat.le_refl _, Nat.le_refl _, hb, hge⟩
theorem setThree {W : World} {k : Nat} {a b c u v x : Value} {T : TypeId} (h : W.heap[k]? = some (.cells #[a, b, c] T (0, 0))) : (((W.setCell ⟨k, 0, none⟩ u).setCell ⟨k, 1, none⟩ v).setCell ⟨k, 2, none⟩ x).heap[k]? = some (.cells #[u, v, x] T (0, 0)) := by
  rw [setCell_self _ (setCell_self _ (setCell_self _ h))]; rfl
theorem ownB_set {B b j : Nat} {pv u : Value} {ps : List ByteArray} {w : World} (h : OwnB B pv ps w) (hne : ∀ k, pv.ownBlock = some k → k ≠ b) : OwnB B pv ps (w.setCell ⟨b, j, none⟩ u) := by
  refine ⟨h.1, ?_⟩
  rcases h.2 with hn | ⟨q, cp, cur, rfl, hB, hc, rr⟩
  · exact .inl hn
  · exact .inr ⟨q, cp, cur, rfl, hB, (setCell_other _ (hne q rfl)).trans hc, rr⟩
def CopyIn (g : List RuleD) : Prop := g.length ≤ 1048576 ∧ ∀ r ∈ g, r.params.length ≤ 1048576 ∧ r.alts.length ≤ 1048576 ∧ ∀ a ∈ r.alts, a.length ≤ 1048576 ∧ ∀ s ∈ a, s.args.length ≤ 1048576 ∧ ∀ e ∈ s.args, e.length ≤ 1048576 ∧ ∀ x ∈ e, x.kids.length ≤ 1048576
theorem Tryz.infoSymP : (Tryz.prog.info? 63).map (fun i => (i.zero, i.size, i.bytes)) = some (some (.agg #[.int .i64 0, .string ⟨#[]⟩, .slice none 0 0, .string ⟨#[]⟩]), 4, 64) := by kernel_rfl
theorem four_symP (a : Int) (s t : ByteArray) (o : Option Addr) (l c : Nat) : ∀ u ∈ [Value.int .i64 a, .string s, .slice o l c, .string t], u.oneCell' = true := by
  intro u hu
  simp only [List.mem_cons, List.not_mem_nil, or_false] at hu
  rcases hu with rfl | rfl | rfl | rfl <;> rfl
theorem Tryz.infoRuleP : (Tryz.prog.info? 42).map (fun i => (i.zero, i.size, i.bytes)) = some (some (.agg #[.string ⟨#[]⟩, .slice none 0 0, .slice none 0 0]), 3, 64) := by kernel_rfl
theorem three_ruleP (s : ByteArray) (o o' : Option Addr) (l c l' c' : Nat) : ∀ u ∈ [Value.string s, .slice o l c, .slice o' l' c'], u.oneCell' = true := by
  intro u hu
  simp only [List.mem_cons, List.not_mem_nil, or_false] at hu
  rcases hu with rfl | rfl | rfl <;> rfl
theorem Tryz.infoAltP : (Tryz.prog.info? 60).map (fun i => (i.zero, i.size, i.bytes)) = some (some (.agg #[.slice none 0 0]), 1, 24) := by kernel_rfl

set_option maxHeartbeats 25600000 in
set_option maxRecDepth 100000 in
theorem copyG_any (v : Value) (g : List RuleD) (w : World) (hI : CopyIn g) (h : RowC 3 RuleE w v g) :
    Calls Tryz.prog 13 #[.agg #[v]] w fun e w' => ∃ (o : Value) (X : Nat), e = .returned (.agg #[o]) ∧ Fresh w.heap.size w' (fun V => RowJ 3 42 RuleJ (w.heap.size + 3) X o g V) ∧ X ≤ w'.heap.size ∧ Below w.heap.size w w' := by
  obtain ⟨s0, hs, hs0, hs1, hs2⟩ := info_parts Tryz.infoSymP
  obtain ⟨r0, hr, hr0, hr1, hr2⟩ := info_parts Tryz.infoRuleP
  obtain ⟨a0, ha, ha0, ha1, ha2⟩ := info_parts Tryz.infoAltP
  obtain ⟨t0, ht, ht0, ht1, ht2⟩ := info_parts Tryz.infoStr
  obtain ⟨ag, cg, rfl⟩ := h.slice
  have HG : Hid (RowC 3 RuleE w (.slice ag g.length cg) g) := h
  have HIn : Hid (∀ r ∈ g, r.params.length ≤ 1048576 ∧ r.alts.length ≤ 1048576 ∧ ∀ a ∈ r.alts, a.length ≤ 1048576 ∧ ∀ s ∈ a, s.args.length ≤ 1048576 ∧ ∀ e ∈ s.args, e.length ≤ 1048576 ∧ ∀ x ∈ e, x.kids.length ≤ 1048576) := hI.2
  have hgl := hI.1
  have C0 : Hid (C1j w (.slice ag g.length cg) g 0 (.slice none 0 0) (w.heap.size + 3) (((w.alloc (.cells #[.slice ag g.length cg] 28)).alloc (.cells #[.slice none 0 0] 28)).alloc (.cells #[.slice none 0 0] 28))) := by
    have e1 : (w.alloc (.cells #[.slice ag g.length cg] 28)).heap.size = w.heap.size + 1 := by simp
    have e2 : ((w.alloc (.cells #[.slice ag g.length cg] 28)).alloc (.cells #[.slice none 0 0] 28)).heap.size = w.heap.size + 2 := by simp
    refine ⟨(Below.heap_alloc _ _ _ (by rw [e2]; omega)).trans ((Below.heap_alloc _ _ _ (by rw [e1]; omega)).trans (heap_alloc_new w _)), ?_, ?_, RowJ.nil, Nat.le_refl _, by simp, (((Below.refl w.heap.size w).alloc (Nat.le_refl _) _).alloc (by simp) _).alloc (by simp <;> omega) _⟩
    · refine (Below.heap_alloc _ _ _ (by rw [e2]; omega)).trans ?_
      have h := heap_alloc_new (w.alloc (.cells #[.slice ag g.length cg] 28)) (.cells #[.slice none 0 0] 28)
      rwa [e1] at h
    · have h := heap_alloc_new ((w.alloc (.cells #[.slice ag g.length cg] 28)).alloc (.cells #[.slice none 0 0] 28)) (.cells #[.slice none 0 0] 28)
      rwa [e2] at h
  clear h hI
  go_enter Tryz.func13, Tryz.ntmps13
  go_wp2
  generalize ((w.alloc (.cells #[.slice ag g.length cg] 28)).alloc (.cells #[.slice none 0 0] 28)).alloc (.cells #[.slice none 0 0] 28) = W1 at *
  go_loopg [4] g.length (fun gg iv wr => ∃ (i : Nat) (ao : Option Addr) (co X : Nat), iv = .int .i64 i ∧ gg + i = g.length ∧ C1j w (.slice ag g.length cg) g i (.slice ao i co) X wr)
  case atStart => exact ⟨0, _, _, _, rfl, by omega, C0.out⟩
  case round =>
    obtain ⟨i, ao, co, X, rfl, hg, hC⟩ := hrel
    have HC : Hid (C1j w (.slice ag g.length cg) g i (.slice ao i co) X wr) := hC
    have c0 := run_cell (j := 0) hC.gb rfl
    clear hC C0
    rename World => wo
    by_cases hi : i < g.length
    · have d1 : decide ((i : Int) < (g.length : Int)) = true := decide_eq_true (by omega)
      have i1 : (i : Int) < (g.length : Int) := by omega
      obtain ⟨b, off, vs, rfl, _, hc, pv, av, rfl, hP, hAl⟩ := RowC.at HG.out hi
      obtain ⟨pa, pc, rfl⟩ := hP.slice
      obtain ⟨aa, ca, rfl⟩ := hAl.slice
      have n0w : w.cell? ⟨b, off + i * 3, none⟩ = some (.string g[i].name) := hc 0 (by simp)
      have n1w : w.cell? ⟨b, off + i * 3 + 1, none⟩ = some (.slice pa g[i].params.length pc) := hc 1 (by simp)
      have n2w : w.cell? ⟨b, off + i * 3 + 2, none⟩ = some (.slice aa g[i].alts.length ca) := hc 2 (by simp)
      have HAl : Hid (RowC 1 AltE w (.slice aa g[i].alts.length ca) g[i].alts) := hAl
      have hIr := HIn.out _ (List.getElem_mem hi)
      have hpl := hIr.1
      have HIr : Hid (g[i].alts.length ≤ 1048576 ∧ ∀ a ∈ g[i].alts, a.length ≤ 1048576 ∧ ∀ s ∈ a, s.args.length ≤ 1048576 ∧ ∀ e ∈ s.args, e.length ≤ 1048576 ∧ ∀ x ∈ e, x.kids.length ≤ 1048576) := hIr.2
      have n0 := cell_keep n0w HC.out.bel
      have n1 := cell_keep n1w HC.out.bel
      have hA : Below wo.heap.size wo (wo.alloc (.cells #[] 9)) := (Below.refl _ _).alloc (Nat.le_refl _) _
      have hZ : Below wo.heap.size wo (wo.alloc (.cells #[.string ⟨#[]⟩, .slice none 0 0, .slice none 0 0] 42)) := (Below.refl _ _).alloc (Nat.le_refl _) _
      have hBB : Below wo.heap.size wo ((wo.alloc (.cells #[.string ⟨#[]⟩, .slice none 0 0, .slice none 0 0] 42)).alloc (.cells #[] 9)) := hZ.alloc (by simp) _
      have hCC : Below wo.heap.size wo ((wo.alloc (.cells #[] 9)).alloc (.cells #[.string ⟨#[]⟩, .slice none 0 0, .slice none 0 0] 42)) := hA.alloc (by simp) _
      have c0A := cell_keep c0 hA
      have n0A := cell_keep n0 hA
      have n1A := cell_keep n1 hA
      have c0Z := cell_keep c0 hZ
      have n0Z := cell_keep n0 hZ
      have n1Z := cell_keep n1 hZ
      have c0B := cell_keep c0 hBB
      have n0B := cell_keep n0 hBB
      have n1B := cell_keep n1 hBB
      have c0C := cell_keep c0 hCC
      have n0C := cell_keep n0 hCC
      have n1C := cell_keep n1 hCC
      have HPw : Hid (SRow wo (.slice pa g[i].params.length pc) g[i].params) := hP.below HC.out.bel
      have HBA : Hid _ := hA
      have HBB : Hid _ := hBB
      have HBC : Hid _ := hCC
      have OA : Hid ((wo.alloc (.cells #[] 9)).ownsRow wo.heap.size 9 1 (.slice (some ⟨wo.heap.size, 0, none⟩) 0 0) 0 []) := World.ownsRow_made wo (e := 9) (size := 1) (base := wo.heap.size) #[] 0 (Nat.le_refl _) (Nat.zero_le _) (by simp)
      have OB : Hid (((wo.alloc (.cells #[.string ⟨#[]⟩, .slice none 0 0, .slice none 0 0] 42)).alloc (.cells #[] 9)).ownsRow wo.heap.size 9 1 (.slice (some ⟨wo.heap.size + 1, 0, none⟩) 0 0) 0 []) := by
        have h := World.ownsRow_made (wo.alloc (.cells #[.string ⟨#[]⟩, .slice none 0 0, .slice none 0 0] 42)) (e := 9) (size := 1) (base := wo.heap.size) #[] 0 (by simp) (Nat.zero_le _) (by simp)
        rwa [show (wo.alloc (.cells #[.string ⟨#[]⟩, .slice none 0 0, .slice none 0 0] 42)).heap.size = wo.heap.size + 1 by simp] at h
      have OC : Hid (((wo.alloc (.cells #[] 9)).alloc (.cells #[.string ⟨#[]⟩, .slice none 0 0, .slice none 0 0] 42)).ownsRow wo.heap.size 9 1 (.slice (some ⟨wo.heap.size, 0, none⟩) 0 0) 0 []) := World.ownsRow.alloc OA.out _
      have HXB : Hid ((World.drew ((wo.alloc (.cells #[.string ⟨#[]⟩, .slice none 0 0, .slice none 0 0] 42)).alloc (.cells #[] 9))).heap[wo.heap.size]? = some (.cells #[.string ⟨#[]⟩, .slice none 0 0, .slice none 0 0] 42 (0, 0))) := (Below.heap_alloc _ _ _ (by simp)).trans (heap_alloc_new wo _)
      have HXC : Hid ((World.drew ((wo.alloc (.cells #[] 9)).alloc (.cells #[.string ⟨#[]⟩, .slice none 0 0, .slice none 0 0] 42))).heap[wo.heap.size + 1]? = some (.cells #[.string ⟨#[]⟩, .slice none 0 0, .slice none 0 0] 42 (0, 0))) := by
        have h := heap_alloc_new (wo.alloc (.cells #[] 9)) (.cells #[.string ⟨#[]⟩, .slice none 0 0, .slice none 0 0] 42)
        rwa [show (wo.alloc (.cells #[] 9)).heap.size = wo.heap.size + 1 by simp] at h
      obtain ⟨f1, rfl⟩ : ∃ f, gk = f + 1 := ⟨gk - 1, by omega⟩
      clear hc hP hAl hIr hA hZ hBB hCC
      go_wp2_with fail
      go_cut [5] from 11 to 94 (fun s5 wx => ∃ (br b1 : Nat) (pa6 : Option Addr) (pc6 : Nat), s5 = .pointer (some ⟨br, 0, none⟩) ∧ C2j wo br b1 g[i] 0 (.slice pa6 g[i].params.length pc6) (.slice none 0 0) b1 wx)
      case first =>
        go_region_held3 (fun V => V.cell? ⟨w.heap.size, 0, none⟩ = some (.slice (some ⟨b, off, none⟩) g.length cg) ∧ V.cell? ⟨b, off + i * 3, none⟩ = some (.string g[i].name) ∧ V.cell? ⟨b, off + i * 3 + 1, none⟩ = some (.slice pa g[i].params.length pc))
          ((first | go_keep | exact ⟨cell_keep c0 B6, cell_keep n0 B6, cell_keep n1 B6⟩ | exact ⟨cell_keep c0 (B6.alloc B6.size _), cell_keep n0 (B6.alloc B6.size _), cell_keep n1 (B6.alloc B6.size _)⟩ | exact ⟨cell_keep c0 (((B6.setCell (by first | exact Nat.le_refl _ | exact Nat.le_succ _) _).setCell (by first | exact Nat.le_refl _ | exact Nat.le_succ _) _).setCell (by first | exact Nat.le_refl _ | exact Nat.le_succ _) _), cell_keep n0 (((B6.setCell (by first | exact Nat.le_refl _ | exact Nat.le_succ _) _).setCell (by first | exact Nat.le_refl _ | exact Nat.le_succ _) _).setCell (by first | exact Nat.le_refl _ | exact Nat.le_succ _) _), cell_keep n1 (((B6.setCell (by first | exact Nat.le_refl _ | exact Nat.le_succ _) _).setCell (by first | exact Nat.le_refl _ | exact Nat.le_succ _) _).setCell (by first | exact Nat.le_refl _ | exact Nat.le_succ _) _)⟩))
          ((first
            | (show ite (Region.wanted (Oper.mk (some 31) _ _ _ _ _) _ = true) _ _; refine step_append_textsF (by rfl) _ _ _ (by rfl) wo.heap.size 9 t0 _ Tryz.underlying37 ht ht0 ht1 ht2 rfl _ 0 [] (by rfl) OA.out.drew g[i].params pa pc (by rfl) (HPw.out.below (bel_drewJ HBA.out)) (by omega) (by simp <;> omega) ?_; intro pv6 w6 hown6 hgr6; obtain ⟨pa6, pc6, rfl⟩ : ∃ a c, pv6 = .slice a g[i].params.length c := (by rw [Nat.zero_add] at hown6; rcases hown6.2 with ⟨rfl, h0⟩ | ⟨g, cp, cur, rfl, _⟩; exact ⟨none, 0, by rw [h0]⟩; exact ⟨_, cp, rfl⟩); have B6 : Below wo.heap.size wo w6 := (bel_drewJ HBA.out).grown hgr6 (by simp <;> omega) (fun k hk => (World.ownsRow.lt OA.out k hk).1); have c06 := cell_keep c0 B6; have n06 := cell_keep n0 B6; have n16 := cell_keep n1 B6; have hal6 : Below w6.heap.size w6 (w6.alloc (.cells #[.string ⟨#[]⟩, .slice none 0 0, .slice none 0 0] 42)) := (Below.refl _ _).alloc (Nat.le_refl _) _; have c07 := cell_keep c06 hal6; have n07 := cell_keep n06 hal6; have n17 := cell_keep n16 hal6)
            | (show ite (Region.wanted (Oper.mk (some 31) _ _ _ _ _) _ = true) _ _; refine step_append_textsF (by rfl) _ _ _ (by rfl) wo.heap.size 9 t0 _ Tryz.underlying37 ht ht0 ht1 ht2 rfl _ 0 [] (by rfl) OB.out.drew g[i].params pa pc (by rfl) (HPw.out.below (bel_drewJ HBB.out)) (by omega) (by simp <;> omega) ?_; intro pv6 w6 hown6 hgr6; obtain ⟨pa6, pc6, rfl⟩ : ∃ a c, pv6 = .slice a g[i].params.length c := (by rw [Nat.zero_add] at hown6; rcases hown6.2 with ⟨rfl, h0⟩ | ⟨g, cp, cur, rfl, _⟩; exact ⟨none, 0, by rw [h0]⟩; exact ⟨_, cp, rfl⟩); have X6 := xb_grownC hgr6 HXB.out (fun e => Nat.succ_ne_self wo.heap.size (Option.some.inj e)); have x0 := run_cell (j := 0) X6 rfl; have x1 := run_cell (j := 1) X6 rfl; have x2 := run_cell (j := 2) X6 rfl; have y0 := run_frozen (j := 0) X6; have y1 := run_frozen (j := 1) X6; have y2 := run_frozen (j := 2) X6; have B6 : Below wo.heap.size wo w6 := (bel_drewJ HBB.out).grown hgr6 (by simp <;> omega) (fun k hk => (World.ownsRow.lt OB.out k hk).1); have c06 := cell_keep c0 B6; have n06 := cell_keep n0 B6; have n16 := cell_keep n1 B6)
            | (show ite (Region.wanted (Oper.mk (some 31) _ _ _ _ _) _ = true) _ _; refine step_append_textsF (by rfl) _ _ _ (by rfl) wo.heap.size 9 t0 _ Tryz.underlying37 ht ht0 ht1 ht2 rfl _ 0 [] (by rfl) OC.out.drew g[i].params pa pc (by rfl) (HPw.out.below (bel_drewJ HBC.out)) (by omega) (by simp <;> omega) ?_; intro pv6 w6 hown6 hgr6; obtain ⟨pa6, pc6, rfl⟩ : ∃ a c, pv6 = .slice a g[i].params.length c := (by rw [Nat.zero_add] at hown6; rcases hown6.2 with ⟨rfl, h0⟩ | ⟨g, cp, cur, rfl, _⟩; exact ⟨none, 0, by rw [h0]⟩; exact ⟨_, cp, rfl⟩); have X6 := xb_grownC hgr6 HXC.out (fun e => Nat.succ_ne_self wo.heap.size (Option.some.inj e).symm); have x0 := run_cell (j := 0) X6 rfl; have x1 := run_cell (j := 1) X6 rfl; have x2 := run_cell (j := 2) X6 rfl; have y0 := run_frozen (j := 0) X6; have y1 := run_frozen (j := 1) X6; have y2 := run_frozen (j := 2) X6; have B6 : Below wo.heap.size wo w6 := (bel_drewJ HBC.out).grown hgr6 (by simp <;> omega) (fun k hk => (World.ownsRow.lt OC.out k hk).1); have c06 := cell_keep c0 B6; have n06 := cell_keep n0 B6; have n16 := cell_keep n1 B6)))
        all_goals
          have hp6 : OwnB wo.heap.size (.slice pa6 g[i].params.length pc6) g[i].params w6 := by
            have h := hown6
            rw [Nat.zero_add, List.nil_append] at h
            exact h
          (try go_wp2_with fail)
          go_meet
          first
            | exact ⟨w6.heap.size, _, _, _, rfl, c2_start g[i] (heap_alloc_new w6 _) (hp6.below ((Below.refl _ _).alloc (Nat.le_refl _) _)) (fun k hk => Nat.ne_of_lt (World.ownsRow.lt hp6 k hk).2) (B6.alloc B6.size _) B6.size⟩
            | exact ⟨wo.heap.size + 1, _, _, _, rfl, c2_start g[i] (setThree X6) (ownB_set (ownB_set (ownB_set hp6 (fun k hk e => own_offT hp6 X6 (by decide) (e ▸ hk))) (fun k hk e => own_offT hp6 X6 (by decide) (e ▸ hk))) (fun k hk e => own_offT hp6 X6 (by decide) (e ▸ hk))) (fun k hk e => own_offT hp6 X6 (by decide) (e ▸ hk)) (((B6.setCell (Nat.le_succ _) _).setCell (Nat.le_succ _) _).setCell (Nat.le_succ _) _) (Nat.le_succ _)⟩
            | exact ⟨wo.heap.size, _, _, _, rfl, c2_start g[i] (setThree X6) (ownB_set (ownB_set (ownB_set hp6 (fun k hk e => own_offT hp6 X6 (by decide) (e ▸ hk))) (fun k hk e => own_offT hp6 X6 (by decide) (e ▸ hk))) (fun k hk e => own_offT hp6 X6 (by decide) (e ▸ hk))) (fun k hk e => own_offT hp6 X6 (by decide) (e ▸ hk)) (((B6.setCell (Nat.le_refl _) _).setCell (Nat.le_refl _) _).setCell (Nat.le_refl _) _) (Nat.le_refl _)⟩
      case rest =>
        obtain ⟨br, b1, pa6, pc6, rfl, hC2⟩ := hcut
        have HC2 : Hid (C2j wo br b1 g[i] 0 (.slice pa6 g[i].params.length pc6) (.slice none 0 0) b1 wc) := hC2
        clear hC2 OA OB OC c0A n0A n1A c0Z n0Z n1Z c0B n0B n1B c0C n0C n1C c0 n0 n1 HBA HBB HBC HPw HXB HXC
        go_wp2
        go_loopg [6] g[i].alts.length (fun gg kv wr => ∃ (k : Nat) (aa2 : Option Addr) (ca2 X2 : Nat), kv = .int .i64 k ∧ gg + k = g[i].alts.length ∧ C2j wo br b1 g[i] k (.slice pa6 g[i].params.length pc6) (.slice aa2 k ca2) X2 wr)
        case atStart => exact ⟨0, _, _, _, rfl, by omega, HC2.out⟩
        case round =>
          obtain ⟨k, aa2, ca2, X2, rfl, hg2, hC2⟩ := hrel
          have HCk : Hid (C2j wo br b1 g[i] k (.slice pa6 g[i].params.length pc6) (.slice aa2 k ca2) X2 wr) := hC2
          have HBk : Hid (Below w.heap.size w wr) := HC.out.bel.trans (hC2.bel.mono HC.out.bel.size)
          have c0 := run_cell (j := 0) ((hC2.bel.block _ (Array.getElem?_eq_some_iff.1 HC.out.gb).1).trans HC.out.gb) rfl
          have n2 := cell_keep n2w HBk.out
          clear hC2 HC2
          rename World => wk
          by_cases hk : k < g[i].alts.length
          · have d2 : decide ((k : Int) < (g[i].alts.length : Int)) = true := decide_eq_true (by omega)
            have i2 : (k : Int) < (g[i].alts.length : Int) := by omega
            obtain ⟨b2, off2, vs2, rfl, _, hc2, sv, rfl, hSy⟩ := RowC.at HAl.out hk
            obtain ⟨sa, sc, rfl⟩ := hSy.slice
            have s0w : w.cell? ⟨b2, off2 + k, none⟩ = some (.slice sa g[i].alts[k].length sc) := by have h := hc2 0 (by simp); rw [Nat.mul_one] at h; exact h
            have HSy : Hid (RowC 4 SymE w (.slice sa g[i].alts[k].length sc) g[i].alts[k]) := hSy
            have hIa := HIr.out.2 _ (List.getElem_mem hk)
            have hal := hIa.1
            have HIa : Hid (∀ s ∈ g[i].alts[k], s.args.length ≤ 1048576 ∧ ∀ e ∈ s.args, e.length ≤ 1048576 ∧ ∀ x ∈ e, x.kids.length ≤ 1048576) := hIa.2
            have C3s : Hid (C3j wk g[i].alts[k] 0 (.slice none 0 0) (wk.heap.size + 1) (wk.alloc (.cells #[.slice none 0 0] 60))) := ⟨heap_alloc_new wk _, RowJ.nil, Nat.le_refl _, by simp, (Below.refl _ _).alloc (Nat.le_refl _) _⟩
            obtain ⟨f2, rfl⟩ : ∃ f, gk = f + 1 := ⟨gk - 1, by omega⟩
            clear hc2 hSy hIa
            go_wp2
            generalize wk.alloc (.cells #[.slice none 0 0] 60) = w3 at *
            go_loopg [8] g[i].alts[k].length (fun gg lv wr => ∃ (l : Nat) (as2 : Option Addr) (cs2 X3 : Nat), lv = .int .i64 l ∧ gg + l = g[i].alts[k].length ∧ C3j wk g[i].alts[k] l (.slice as2 l cs2) X3 wr)
            case atStart => exact ⟨0, _, _, _, rfl, by omega, C3s.out⟩
            case round =>
              obtain ⟨l, as2, cs2, X3, rfl, hg3, hC3⟩ := hrel
              have HC3 : Hid (C3j wk g[i].alts[k] l (.slice as2 l cs2) X3 wr) := hC3
              have HBr : Hid (Below w.heap.size w wr) := HBk.out.trans (hC3.bel.mono HBk.out.size)
              have c0r := cell_keep c0 hC3.bel
              have n2r := cell_keep n2 hC3.bel
              have s0r := cell_keep s0w HBr.out
              have e0 := run_cell (j := 0) hC3.box rfl
              clear hC3 C3s
              by_cases hl : l < g[i].alts[k].length
              · have d3 : decide ((l : Int) < (g[i].alts[k].length : Int)) = true := decide_eq_true (by omega)
                have i3 : (l : Int) < (g[i].alts[k].length : Int) := by omega
                obtain ⟨b3, off3, vs3, rfl, _, hc3, ev, rfl, hAr⟩ := RowC.at HSy.out hl
                obtain ⟨ea, ec, rfl⟩ := hAr.slice
                have m0 := cell_keep (show w.cell? ⟨b3, off3 + l * 4, none⟩ = some (.int .i64 g[i].alts[k][l].kind) from hc3 0 (by simp)) HBr.out
                have m1 := cell_keep (show w.cell? ⟨b3, off3 + l * 4 + 1, none⟩ = some (.string g[i].alts[k][l].text) from hc3 1 (by simp)) HBr.out
                have m2 := cell_keep (show w.cell? ⟨b3, off3 + l * 4 + 2, none⟩ = some (.slice ea g[i].alts[k][l].args.length ec) from hc3 2 (by simp)) HBr.out
                have m3 := cell_keep (show w.cell? ⟨b3, off3 + l * 4 + 3, none⟩ = some (.string g[i].alts[k][l].bind) from hc3 3 (by simp)) HBr.out
                have hIs := HIa.out _ (List.getElem_mem hl)
                have X5 := heap_alloc_new wr (.cells #[.int .i64 g[i].alts[k][l].kind, .string g[i].alts[k][l].text, .slice ea g[i].alts[k][l].args.length ec, .string g[i].alts[k][l].bind] 63)
                have x2 := run_cell (j := 2) X5 rfl
                have HX5 : Hid _ := X5
                have HCo : Hid (∀ _ : Unit, _) := fun _ => copies_any (.slice ea g[i].alts[k][l].args.length ec) g[i].alts[k][l].args (wr.alloc (.cells #[.int .i64 g[i].alts[k][l].kind, .string g[i].alts[k][l].text, .slice ea g[i].alts[k][l].args.length ec, .string g[i].alts[k][l].bind] 63)) hIs.1 hIs.2 (RowC.below ExprE_stable hAr (HBr.out.alloc HBr.out.size _))
                have w1 : IntKind.i64.wrap ((l : Int) + 1) = ((l + 1 : Nat) : Int) := by rw [IntKind.wrap_i64]; omega
                obtain ⟨f3, rfl⟩ : ∃ f, gk = f + 1 := ⟨gk - 1, by omega⟩
                have hwk := (Array.getElem?_eq_some_iff.1 HC3.out.box).1
                clear hc3 hAr hIs X5
                go_wp2_with (first
                  | (at_builtin; obtain ⟨cs7, ho7, B7, hs7, hK7⟩ := C3j.sym hl _ _ _ _ HC3.out hb6 hF6; have hll : (g[i].alts[k].take l).length = l := (by rw [List.length_take]; omega); rw [hll] at ho7; refine wpList_append_lies _ rfl _ _ 58 rfl (wk.heap.size + 1) 63 s0 _ 4 64 Tryz.underlying58 hs hs0 hs1 hs2 rfl (by decide) _ _ _ rfl ho7 ⟨w6.heap.size, 0, none⟩ 1 1 [.int .i64 g[i].alts[k][l].kind, .string g[i].alts[k][l].text, .slice oa6 g[i].alts[k][l].args.length oc6, .string g[i].alts[k][l].bind] rfl rfl (by rw [← hs7]; exact World.news_of_block (cs := #[.int .i64 g[i].alts[k][l].kind, .string g[i].alts[k][l].text, .slice oa6 g[i].alts[k][l].args.length oc6, .string g[i].alts[k][l].bind]) (t := 63) (fr := (0, 0)) (heap_alloc_new _ _)) (four_symP _ _ _ _ _ _) (by omega) (by unfold maxLen; omega) (by omega) (Nat.le_trans hwk B7.size) _ rfl ?_; intro gg8 cap8 w8 hown8 hgr8 hat8 hlt8; clear hs7 hll; obtain ⟨E8, C8⟩ := hK7 gg8 cap8 w8 hown8 hgr8 hat8; have e8 := run_cell (j := 0) E8 rfl; have f8 := run_frozen (j := 0) E8)
                  | (go_at_call 28; refine (HCo.out ()).mono ?_; rintro e w6 ⟨o6, rfl, hF6, hb6⟩; obtain ⟨oa6, oc6, rfl⟩ := hF6.here.slice; have X6 := (hb6.block _ (by simp)).trans HX5.out; have l0 := run_cell (j := 0) X6 rfl; have l1 := run_cell (j := 1) X6 rfl; have l2 := run_cell (j := 2) X6 rfl; have l3 := run_cell (j := 3) X6 rfl; have lf := run_frozen (j := 2) X6; have E6 := (hb6.block _ (by simp; omega)).trans ((Below.heap_alloc _ _ _ hwk).trans HC3.out.box); have e6 := run_cell (j := 0) E6 rfl))
                have HC8 : Hid _ := C8
                clear C8 E8 e8 f8 hK7 ho7 B7 hown8 hgr8 hat8 hlt8 hF6 hb6 X6 l0 l1 l2 l3 lf E6 e6 x2 HX5 HCo m0 m1 m2 m3
                generalize w8.setCell ⟨wk.heap.size, 0, none⟩ (.slice (some ⟨gg8, 0, none⟩) (l + 1) cap8) = w9 at *
                go_wp2
                go_roundg f3
                case measure => omega
                case rel => exact ⟨l + 1, _, _, _, by go_num, by omega, HC8.out⟩
              · have d3 : decide ((l : Int) < (g[i].alts[k].length : Int)) = false := decide_eq_false (by omega)
                obtain rfl : l = g[i].alts[k].length := by omega
                obtain ⟨cs7, ho7, hK7⟩ := C2j.alt hk HCk.out HC3.out
                have hll : (g[i].alts.take k).length = k := by rw [List.length_take]; omega
                rw [hll] at ho7
                have HO7 : Hid _ := ho7
                have HK7 : Hid (∀ (g1 cap : Nat) (w8 : World), _) := hK7
                have r2 := run_cell (j := 2) ((HC3.out.bel.block _ (Array.getElem?_eq_some_iff.1 HCk.out.box).1).trans HCk.out.box) rfl
                have hbw : b1 ≤ wr.heap.size := Nat.le_trans (Nat.le_trans HCk.out.lo HCk.out.xle) HC3.out.bel.size
                have hkl := HIr.out.1
                have w1 : IntKind.i64.wrap ((k : Int) + 1) = ((k + 1 : Nat) : Int) := by rw [IntKind.wrap_i64]; omega
                clear hK7 ho7 hll
                go_wp2_with (at_builtin; refine wpList_append_lies _ rfl _ _ 40 rfl b1 60 a0 _ 1 24 Tryz.underlying40 ha ha0 ha1 ha2 rfl (by decide) _ _ _ rfl HO7.out ⟨wr.heap.size, 0, none⟩ 1 1 [.slice as2 g[i].alts[k].length cs2] rfl rfl (cell_one_new _ _ _) (one_sliceF _ _ _) (by omega) (by unfold maxLen; omega) (by omega) (by simp; omega) _ rfl ?_; intro gg8 cap8 w8 hown8 hgr8 hat8 hlt8; obtain ⟨E8, C8⟩ := HK7.out gg8 cap8 w8 hown8 hgr8 hat8; have e8 := run_cell (j := 2) E8 rfl; have f8 := run_frozen (j := 2) E8)
                have HC8 : Hid _ := C8
                clear C8 E8 e8 f8 HK7 HO7 hown8 hgr8 hat8 hlt8 r2
                generalize w8.setCell ⟨br, 2, none⟩ (.slice (some ⟨gg8, 0, none⟩) (k + 1) cap8) = w9 at *
                go_wp2
                go_roundg f2
                case measure => omega
                case rel => exact ⟨k + 1, _, _, _, by go_num, by omega, HC8.out⟩
          · have d2 : decide ((k : Int) < (g[i].alts.length : Int)) = false := decide_eq_false (by omega)
            obtain rfl : k = g[i].alts.length := by omega
            obtain ⟨cs7, ho7, hK7⟩ := C1j.rule hi HC.out HCk.out
            have hll : (g.take i).length = i := by rw [List.length_take]; omega
            rw [hll] at ho7
            have HO7 : Hid _ := ho7
            have HK7 : Hid (∀ (q cap : Nat) (w8 : World), _) := hK7
            have q0 := run_cell (j := 0) HCk.out.box rfl
            have q1 := run_cell (j := 1) HCk.out.box rfl
            have q2 := run_cell (j := 2) HCk.out.box rfl
            have o0 := run_cell (j := 0) ((HCk.out.bel.block _ (Array.getElem?_eq_some_iff.1 HC.out.box).1).trans HC.out.box) rfl
            have hbw : w.heap.size + 3 ≤ wk.heap.size := Nat.le_trans (Nat.le_trans HC.out.lo HC.out.xle) HCk.out.bel.size
            have w1 : IntKind.i64.wrap ((i : Int) + 1) = ((i + 1 : Nat) : Int) := by rw [IntKind.wrap_i64]; omega
            clear hK7 ho7 hll
            go_wp2_with (at_builtin; refine wpList_append_lies _ rfl _ _ 26 rfl (w.heap.size + 3) 42 r0 _ 3 64 Tryz.underlying26 hr hr0 hr1 hr2 rfl (by decide) _ _ _ rfl HO7.out ⟨wk.heap.size, 0, none⟩ 1 1 [.string g[i].name, .slice pa6 g[i].params.length pc6, .slice aa2 g[i].alts.length ca2] rfl rfl (World.news_of_block (cs := #[.string g[i].name, .slice pa6 g[i].params.length pc6, .slice aa2 g[i].alts.length ca2]) (t := 42) (fr := (0, 0)) (heap_alloc_new _ _)) (three_ruleP _ _ _ _ _ _ _) (by omega) (by unfold maxLen; omega) (by omega) (by simp; omega) _ rfl ?_; intro gg8 cap8 w8 hown8 hgr8 hat8 hlt8; obtain ⟨E8, C8⟩ := HK7.out gg8 cap8 w8 hown8 hgr8 hat8; have e8 := run_cell (j := 0) E8 rfl; have f8 := run_frozen (j := 0) E8)
            have HC8 : Hid _ := C8
            clear C8 E8 e8 f8 HK7 HO7 hown8 hgr8 hat8 hlt8 q0 q1 q2 o0
            generalize w8.setCell ⟨w.heap.size + 2, 0, none⟩ (.slice (some ⟨gg8, 0, none⟩) (i + 1) cap8) = w9 at *
            go_wp2
            go_roundg f1
            case measure => omega
            case rel => exact ⟨i + 1, _, _, _, by go_num, by omega, HC8.out⟩
    · have d1 : decide ((i : Int) < (g.length : Int)) = false := decide_eq_false (by omega)
      obtain rfl : i = g.length := by omega
      have o0 := run_cell (j := 0) HC.out.box rfl
      have z0 := run_cell (j := 0) HC.out.rb rfl
      have zf := run_frozen (j := 0) HC.out.rb
      have HF : Hid (Fresh w.heap.size (wo.setCell ⟨w.heap.size + 1, 0, none⟩ (.slice ao g.length co)) (fun V => RowJ 3 42 RuleJ (w.heap.size + 3) X (.slice ao g.length co) g V)) := by
        have h := (HC.out.row.fresh HC.out.xle)
        rw [List.take_length] at h
        exact (h.setLow (b := w.heap.size + 1) (by omega) 0 _).base (by omega)
      have HB : Hid (Below w.heap.size w (wo.setCell ⟨w.heap.size + 1, 0, none⟩ (.slice ao g.length co))) := HC.out.bel.setCell (show w.heap.size ≤ w.heap.size + 1 from Nat.le_succ _) _
      have hXs : X ≤ (wo.setCell ⟨w.heap.size + 1, 0, none⟩ (.slice ao g.length co)).heap.size := by rw [show (wo.setCell ⟨w.heap.size + 1, 0, none⟩ (.slice ao g.length co)).heap.size = wo.heap.size by simp [World.setCell]]; exact HC.out.xle
      have HXs : Hid _ := hXs
      have Z := setCell_self (j := 0) (.slice ao g.length co) HC.out.rb
      have HZ1 : Hid ((wo.setCell ⟨w.heap.size + 1, 0, none⟩ (.slice ao g.length co)).cell? ⟨w.heap.size + 1, 0, none⟩ = some (.slice ao g.length co)) := run_cell (j := 0) Z rfl
      clear hXs Z
      go_wp2
      have zz := HZ1.out
      refine bodyPost_ret (by simp [results, Tryz.results13, go_sem, zz]; try rfl) rfl ?_
      exact ⟨_, X, rfl, HF.out, HXs.out, HB.out⟩

end Go.Proofs.YtkmkfpgaehgonaaGreatDoor
