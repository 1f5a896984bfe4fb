/- Parts of an expression: what ends at a node is an expression of its own, worth what the node is. -/
import Derived.Test.YtokgkjfgknjbbaaDoorXDraw
import Derived.Test.YtokgkjfgknjbbaaDoorXEvalI
namespace Go.Proofs.YtokgkjfgknjbbaaDoor
open Go.RowKit

theorem evalN_take {ns : List NodeD} (hn : ∀ k (hk : k < ns.length), nodeB k ns[k] = true) (env : ByteArray → Option Int) (here : Int) (m : Nat) (hm : m ≤ ns.length) : ∀ (f i : Nat), i < m → evalN (ns.take m) env here f i = evalN ns env here f i
  | 0, _, _ => rfl
  | f + 1, i, hi => by
    have h1 : i < (ns.take m).length := by rw [List.length_take]; omega
    rw [evalN_succ _ _ _ _ _ h1, evalN_succ _ _ _ _ _ (show i < ns.length by omega)]
    have e0 : (ns.take m)[i] = ns[i] := by rw [List.getElem_take]
    rw [e0]
    have e : (ns[i].kids.map fun k => evalN (ns.take m) env here f k.toNat) = ns[i].kids.map fun k => evalN ns env here f k.toNat := by
      apply List.map_congr_left
      intro k hk
      have := (node_parts (hn i (by omega))).2.2.2 k hk
      exact evalN_take hn env here m hm f k.toNat (by omega)
    rw [e]
theorem good_take {ss : List ByteArray} {ns : List NodeD} (h : GoodN ss ns) (m : Nat) : GoodN ss (ns.take m) := fun k hk => by
  rw [List.getElem_take]
  exact h k (by rw [List.length_take] at hk; omega)
theorem eval_take {ss : List ByteArray} {ns : List NodeD} (h : GoodN ss ns) (hl : ns.length ≤ 20) (env : ByteArray → Option Int) (here : Int) {q : Nat} (hq : q < ns.length) : evalB (ns.take (q + 1)) env here = valN ns env here q := by
  have hlen : (ns.take (q + 1)).length = q + 1 := by rw [List.length_take]; omega
  have hx := exprB_good (good_take h (q + 1)) (by rw [hlen]; omega) (by rw [hlen]; omega)
  rw [evalB_val hx, valN, hlen, show q + 1 - 1 = q from rfl]
  exact evalN_take (fun k hk => (h k hk).1) env here (q + 1) (by omega) (q + 1) q (by omega)
theorem NRow.take {w : World} {a : Option Addr} {n cap m : Nat} {ns : List NodeD} (h : NRow w (.slice a n cap) ns) (hm : m ≤ ns.length) : NRow w (.slice a m cap) (ns.take m) := by
  obtain ⟨a', cap', e, hcap, hh⟩ := h
  cases e
  have hl : (ns.take m).length = m := by rw [List.length_take]; omega
  refine ⟨a, cap, by rw [hl], hcap, fun h0 => ?_⟩
  obtain ⟨b, off, rfl, hlt, hc⟩ := hh (by omega)
  refine ⟨b, off, rfl, hlt, fun i hi => ?_⟩
  rw [List.getElem_take]
  exact hc i (by omega)
theorem ownN_cap {B : Nat} {a : Option Addr} {n cap : Nat} {ns : List NodeD} {w : World} (h : OwnN B (.slice a n cap) ns w) : ns.length ≤ cap := by
  obtain ⟨qs, e, hr, hk⟩ := h
  have hl : qs.length = ns.length := by rw [← e]; simp
  rcases hr.2 with ⟨e1, h0⟩ | ⟨g, c, cur, e1, _, _, hle, _⟩
  · cases e1; omega
  · cases e1; omega
theorem optV_form (o : Option Int) : ∃ (z : Int) (b : Bool), optV o = .tuple #[.int .i64 z, .bool b] := by
  cases o with
  | none => exact ⟨_, _, rfl⟩
  | some z => exact ⟨_, _, rfl⟩
theorem optV_none {z : Int} {b : Bool} (h : optV none = .tuple #[.int .i64 z, .bool b]) : z = 0 ∧ b = false := by
  simp only [optV] at h
  injection h with h
  simp at h
  exact ⟨h.1.symm, h.2⟩
theorem optV_yes {y z : Int} {b : Bool} (h : optV (some y) = .tuple #[.int .i64 z, .bool b]) : z = y ∧ b = true := by
  simp only [optV] at h
  injection h with h
  simp at h
  exact ⟨h.1.symm, h.2⟩
/-- A drawn list's numbers are not beyond. -/
theorem get_small {xs : List VarD} {k : Nat} (h : EnvGood xs k) {name : ByteArray} {z : Int} (hz : getB xs name = some z) : inI z (-9999) 9999 = true := by
  have key : ∀ (xs : List VarD), (∀ x ∈ xs, -9999 ≤ x.2 ∧ x.2 ≤ 9999) → getB xs name = some z → -9999 ≤ z ∧ z ≤ 9999 := by
    intro xs
    induction xs with
    | nil => intro _ h; cases h
    | cons x xs ih =>
      intro hx hg
      rw [getB] at hg
      split at hg
      · have := hx x (List.mem_cons_self ..)
        have e : x.2 = z := Option.some.inj hg
        omega
      · exact ih (fun y hy => hx y (List.mem_cons_of_mem _ hy)) hg
  have h2 := key xs (fun x hx => (chain_all xs none h.1 x hx).2.1) hz
  rw [inI]
  exact decide_eq_true h2
end Go.Proofs.YtokgkjfgknjbbaaDoor
