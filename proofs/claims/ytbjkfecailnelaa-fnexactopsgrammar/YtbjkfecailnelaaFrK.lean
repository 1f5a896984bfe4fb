/- What is kept by the types of rows: what lies below B, and every row whose type is none of some. -/
import Derived.Test.YtbjkfecailnelaaRO
import Derived.Test.YtbjkfecailnelaaXKit
namespace Go.Proofs.Ytbjkfecailnelaa
open Go.RowKit
set_option linter.unusedVariables false

/-- What is kept: what lies below B, and every row whose type is none of ts. -/
structure FrT (ts : List TypeId) (B : Nat) (w w' : World) : Prop where
  bel : Below B w w'
  typ : ∀ (k : Nat) (c : Array Value) (t : TypeId) (fr : Nat × Nat), w.heap[k]? = some (.cells c t fr) → t ∉ ts → w'.heap[k]? = some (.cells c t fr)
section
variable {ts : List TypeId} {B B' : Nat} {w w' w1 w2 : World}
theorem FrT.refl (ts : List TypeId) (B : Nat) (w : World) : FrT ts B w w := ⟨Below.refl _ _, fun _ _ _ _ h _ => h⟩
theorem FrT.trans (h : FrT ts B w w1) (k : FrT ts B w1 w2) : FrT ts B w w2 :=
  ⟨h.bel.trans k.bel, fun b c t fr hb h1 => k.typ b c t fr (h.typ b c t fr hb h1) h1⟩
theorem FrT.below (h : Below w.heap.size w w') (hB : B ≤ w.heap.size) : FrT ts B w w' :=
  ⟨h.mono hB, fun k c t fr hk _ => (h.block k (Array.getElem?_eq_some_iff.1 hk).1).trans hk⟩
theorem FrT.base (h : FrT ts B w w') (hB : B' ≤ B) : FrT ts B' w w' := ⟨h.bel.mono hB, h.typ⟩
theorem FrT.wide {ts' : List TypeId} (h : FrT ts B w w') (ht : ∀ t ∈ ts, t ∈ ts') : FrT ts' B w w' := ⟨h.bel, fun k c t fr hk hn => h.typ k c t fr hk (fun hm => hn (ht t hm))⟩
/-- Behind a step that turns nothing of what lay in the first world. -/
theorem FrT.new (h : FrT ts B w w1) (k : Below w.heap.size w1 w2) (hB : B ≤ w.heap.size) : FrT ts B w w2 :=
  ⟨h.bel.trans (k.mono hB), fun b c t fr hb h1 => (k.block b (Array.getElem?_eq_some_iff.1 hb).1).trans (h.typ b c t fr hb h1)⟩
theorem own_frT {e : TypeId} {s n : Nat} {v : Value} {cs : List Value} (h : w.ownsRow B' e s v n cs) (hf : FrT ts B w w') (h1 : e ∉ ts) : w'.ownsRow B' e s v n cs := by
  refine ⟨h.1, ?_⟩
  rcases h.2 with hn | ⟨g, cap, cur, rfl, hB, hc, r⟩
  · exact .inl hn
  · exact .inr ⟨g, cap, cur, rfl, hB, hf.typ g cur e (0, 0) hc h1, r⟩
theorem ownZ_fr {v : Value} {ks : List Int} (h : OwnZ B' v ks w) (hf : FrT ts B w w') (ht : 3 ∉ ts) : OwnZ B' v ks w' := own_frT h hf ht
end

theorem setCell_self {w : World} {p j : Nat} {c : Array Value} {t : TypeId} {fr : Nat × Nat} (u : Value) (h : w.heap[p]? = some (.cells c t fr)) : (w.setCell ⟨p, j, none⟩ u).heap[p]? = some (.cells (c.setIfInBounds j u) t fr) := by
  simp [World.setCell, Array.getElem?_modify, h]
theorem setCell_other {w : World} {p j k : Nat} (u : Value) (h : k ≠ p) : (w.setCell ⟨p, j, none⟩ u).heap[k]? = w.heap[k]? := by
  simp only [World.setCell]
  rw [Array.getElem?_modify, if_neg (fun e => h e.symm)]
theorem grown_setCell (w : World) (p j : Nat) (u : Value) : w.grownBy (w.setCell ⟨p, j, none⟩ u) (some p) :=
  ⟨rfl, rfl, rfl, by simp [World.setCell], fun k _ hk => setCell_other u (fun e => hk (by rw [e]))⟩
theorem own_offT {B : Nat} {e : TypeId} {s n : Nat} {v : Value} {cs : List Value} {w : World} {k : Nat} {c : Array Value} {t : TypeId} {fr : Nat × Nat} (h : w.ownsRow B e s v n cs) (hk : w.heap[k]? = some (.cells c t fr)) (hne : e ≠ t) : v.ownBlock ≠ some k := by
  rcases h.2 with ⟨rfl, _⟩ | ⟨g, cap, cur, rfl, _, hc, _⟩
  · intro e; cases e
  · intro eq
    obtain rfl : g = k := Option.some.inj eq
    rw [hk] at hc
    cases hc
    exact hne rfl
/-- A cell of a row of one of the types written: what is of another type stays. -/
theorem fr_set {ts : List TypeId} {B : Nat} {w : World} {p j : Nat} {c : Array Value} {t : TypeId} {fr : Nat × Nat} (u : Value) (h : w.heap[p]? = some (.cells c t fr)) (ht : t ∈ ts) (hB : B ≤ p) : FrT ts B w (w.setCell ⟨p, j, none⟩ u) := by
  refine ⟨(Below.refl _ _).setCell hB u, fun k c' t' fr' hk h1 => ?_⟩
  have : k ≠ p := fun e => by
    subst e
    rw [h] at hk
    cases hk
    exact h1 ht
  rw [setCell_other u this]
  exact hk

theorem run_cell {w : World} {p j : Nat} {c : Array Value} {t : TypeId} {fr : Nat × Nat} {u : Value} (h : w.heap[p]? = some (.cells c t fr)) (hj : c[j]? = some u) : w.cell? ⟨p, j, none⟩ = some u := by
  rw [cell_of_row _ _ j _ _ _ h]
  exact hj
theorem run_frozen {w : World} {p j : Nat} {c : Array Value} {t : TypeId} (h : w.heap[p]? = some (.cells c t (0, 0))) : w.frozen? ⟨p, j, none⟩ = false := by
  simp [World.frozen?, h]
/-- An append to a row of one of the types: what is of another type stays. -/
theorem fr_grown {ts : List TypeId} {B : Nat} {w w' : World} {e : TypeId} {s n : Nat} {v : Value} {cs : List Value} (h : w.ownsRow B e s v n cs) (hg : w.grownBy w' v.ownBlock) (ht : e ∈ ts) (hB : B ≤ w.heap.size) : FrT ts B w w' := by
  refine ⟨(Below.refl _ _).grown hg hB (fun k hk => (h.lt k hk).1), fun k c t fr hk hn => ?_⟩
  have hlt := (Array.getElem?_eq_some_iff.1 hk).1
  rw [hg.block k hlt (fun e' => own_offT h hk (fun e2 => hn (e2 ▸ ht)) e'.symm)]
  exact hk

end Go.Proofs.Ytbjkfecailnelaa
