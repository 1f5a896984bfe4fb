/- The laws' own helpers on expressions: nodes copied. -/
import Derived.Test.YtbjkfecailnelaaXKit
namespace Go.Proofs.Ytbjkfecailnelaa
open Go.RowKit

theorem frozen_keep4 {w w' : World} {b o : Nat} (h : w.frozen? ⟨b, o, none⟩ = false) (hlt : b < w.heap.size) (hb : Below w.heap.size w w') : w'.frozen? ⟨b, o, none⟩ = false := by
  unfold World.frozen? at h ⊢
  rw [hb.block b hlt]
  exact h

theorem grow_set (w : World) (b j : Nat) (u : Value) : w.grownBy (w.setCell ⟨b, j, none⟩ u) (some b) :=
  ⟨rfl, rfl, rfl, by simp, fun k _ hk => by
    simp only [World.setCell]
    rw [Array.getElem?_modify, if_neg (fun e => hk (by rw [← e]))]⟩
theorem off_block {B : Nat} {v : Value} {ks : List Int} {w : World} (h : OwnZ B v ks w) {b : Nat} (hb : b < B) : v.ownBlock = none ∨ v.ownBlock ≠ some b := by
  cases hv : v.ownBlock with
  | none => exact .inl rfl
  | some k => exact .inr (fun e => by have := (World.ownsRow.lt h k hv).1; have e2 : k = b := Option.some.inj e; omega)

theorem set_four {w : World} {b : Nat} {x y z u : Value} (h0 : w.cell? ⟨b, 0, none⟩ = some x) (h1 : w.cell? ⟨b, 1, none⟩ = some y) (h2 : w.cell? ⟨b, 2, none⟩ = some z) (h3 : w.cell? ⟨b, 3, none⟩ = some u) (p q r s : Value) :
    ((((w.setCell ⟨b, 0, none⟩ p).setCell ⟨b, 1, none⟩ q).setCell ⟨b, 2, none⟩ r).setCell ⟨b, 3, none⟩ s).cell? ⟨b, 0, none⟩ = some p ∧ ((((w.setCell ⟨b, 0, none⟩ p).setCell ⟨b, 1, none⟩ q).setCell ⟨b, 2, none⟩ r).setCell ⟨b, 3, none⟩ s).cell? ⟨b, 1, none⟩ = some q
      ∧ ((((w.setCell ⟨b, 0, none⟩ p).setCell ⟨b, 1, none⟩ q).setCell ⟨b, 2, none⟩ r).setCell ⟨b, 3, none⟩ s).cell? ⟨b, 2, none⟩ = some r ∧ ((((w.setCell ⟨b, 0, none⟩ p).setCell ⟨b, 1, none⟩ q).setCell ⟨b, 2, none⟩ r).setCell ⟨b, 3, none⟩ s).cell? ⟨b, 3, none⟩ = some s := by
  have o : ∀ (W : World) (i j : Nat) (t : Value), i ≠ j → (W.setCell ⟨b, i, none⟩ t).cell? ⟨b, j, none⟩ = W.cell? ⟨b, j, none⟩ := fun W i j t hij => World.cell?_setCell_other _ _ _ _ (by intro e; cases e; exact hij rfl)
  refine ⟨?_, ?_, ?_, ?_⟩
  · rw [o _ 3 0 _ (by omega), o _ 2 0 _ (by omega), o _ 1 0 _ (by omega)]; exact World.cell?_setCell_same _ _ _ h0
  · rw [o _ 3 1 _ (by omega), o _ 2 1 _ (by omega)]; exact World.cell?_setCell_same _ _ _ ((o _ 0 1 _ (by omega)).trans h1)
  · rw [o _ 3 2 _ (by omega)]; exact World.cell?_setCell_same _ _ _ ((o _ 1 2 _ (by omega)).trans ((o _ 0 2 _ (by omega)).trans h2))
  · exact World.cell?_setCell_same _ _ _ ((o _ 2 3 _ (by omega)).trans ((o _ 1 3 _ (by omega)).trans ((o _ 0 3 _ (by omega)).trans h3)))


/-- Nodes with their kids' lists, cell by cell. -/
def nv (qs : List (NodeD × Value)) : List Value := qs.flatMap fun q => [.int .i64 q.1.op, .int .i64 q.1.num, .string q.1.name, q.2]
theorem nv_len (qs : List (NodeD × Value)) : (nv qs).length = qs.length * 4 := by
  induction qs with
  | nil => rfl
  | cons x qs ih => rw [nv, List.flatMap_cons, List.length_append, ← nv, ih]; simp; omega
theorem nv_app (qs rs : List (NodeD × Value)) : nv (qs ++ rs) = nv qs ++ nv rs := by simp [nv]
theorem nv_at : ∀ (qs : List (NodeD × Value)) (i : Nat) (h : i < qs.length), (nv qs)[i * 4]? = some (.int .i64 qs[i].1.op) ∧ (nv qs)[i * 4 + 1]? = some (.int .i64 qs[i].1.num) ∧ (nv qs)[i * 4 + 2]? = some (.string qs[i].1.name) ∧ (nv qs)[i * 4 + 3]? = some qs[i].2
  | q :: qs, 0, _ => ⟨rfl, rfl, rfl, rfl⟩
  | q :: qs, i + 1, h => by
    have := nv_at qs i (by simpa using h)
    have e : nv (q :: qs) = [.int .i64 q.1.op, .int .i64 q.1.num, .string q.1.name, q.2] ++ nv qs := rfl
    have e0 : ∀ j, (nv (q :: qs))[(i + 1) * 4 + j]? = (nv qs)[i * 4 + j]? := fun j => by
      rw [e, List.getElem?_append_right (by simp; omega)]
      congr 1
      simp
      omega
    exact ⟨(e0 0).trans this.1, (e0 1).trans this.2.1, (e0 2).trans this.2.2.1, (e0 3).trans this.2.2.2⟩
def OwnN (B : Nat) (v : Value) (ns : List NodeD) (w : World) : Prop :=
  ∃ qs : List (NodeD × Value), qs.map (·.1) = ns ∧ w.ownsRow B 51 4 v qs.length (nv qs) ∧ ∀ q ∈ qs, OwnZ B q.2 q.1.kids w
theorem OwnN.row {B : Nat} {v : Value} {ns : List NodeD} {w : World} (h : OwnN B v ns w) : NRow w v ns := by
  obtain ⟨qs, rfl, h, hk⟩ := h
  have hl : (qs.map (·.1)).length = qs.length := by simp
  rcases h.2 with ⟨rfl, hz⟩ | ⟨g, cap, cur, rfl, hB, hc, hle, hm, hs, ht⟩
  · exact ⟨none, 0, by rw [hl, hz], fun _ => rfl, fun h0 => by rw [hl] at h0; omega⟩
  · refine ⟨some ⟨g, 0, none⟩, cap, by rw [hl], fun h => (by cases h), fun _ => ⟨g, 0, rfl, (Array.getElem?_eq_some_iff.1 hc).1, fun i hi => ?_⟩⟩
    have key : ∀ j u, (nv qs)[j]? = some u → w.cell? ⟨g, 0 + j, none⟩ = some u := fun j u hu => by
      have := World.ownsRow.cells h (g := g) rfl j u hu
      rwa [Addr.add_lit] at this
    rw [hl] at hi
    have := nv_at qs i hi
    refine ⟨qs[i].2, ?_⟩
    rw [List.getElem_map]
    exact ⟨key _ _ this.1, by rw [Nat.add_assoc]; exact key _ _ this.2.1, by rw [Nat.add_assoc]; exact key _ _ this.2.2.1, by rw [Nat.add_assoc]; exact key _ _ this.2.2.2, (hk _ (List.getElem_mem hi)).row⟩
theorem OwnN.below {B : Nat} {v : Value} {ns : List NodeD} {w w' : World} (h : OwnN B v ns w) (hb : Below w.heap.size w w') : OwnN B v ns w' := by
  obtain ⟨qs, e, h, hk⟩ := h
  exact ⟨qs, e, own_below h hb, fun q hq => (hk q hq).below hb⟩

theorem take_four (cs : List Value) (j : Nat) (a b c d : Value) (h : j + 3 < cs.length) : ((((cs.set j a).set (j + 1) b).set (j + 2) c).set (j + 3) d).take (j + 4) = cs.take j ++ [a, b, c, d] := by
  apply List.ext_getElem?
  intro i
  rw [List.getElem?_take]
  have hl : (cs.take j).length = j := by simp; omega
  by_cases h1 : i < j
  · rw [if_pos (by omega), List.getElem?_set_ne (by omega), List.getElem?_set_ne (by omega), List.getElem?_set_ne (by omega), List.getElem?_set_ne (by omega), List.getElem?_append_left (by omega), List.getElem?_take, if_pos h1]
  · rw [List.getElem?_append_right (by omega), hl]
    by_cases h4 : i < j + 4
    · rw [if_pos h4]
      obtain ⟨t, rfl⟩ : ∃ t, i = j + t := ⟨i - j, by omega⟩
      have ht : t < 4 := by omega
      match t, ht with
      | 0, _ => rw [List.getElem?_set_ne (by omega), List.getElem?_set_ne (by omega), List.getElem?_set_ne (by omega), Nat.add_zero, List.getElem?_set_self (by omega)]; simp
      | 1, _ => rw [List.getElem?_set_ne (by omega), List.getElem?_set_ne (by omega), List.getElem?_set_self (by simp; omega)]; simp
      | 2, _ => rw [List.getElem?_set_ne (by omega), List.getElem?_set_self (by simp; omega)]; simp
      | 3, _ => rw [List.getElem?_set_self (by simp; omega)]; simp
    · rw [if_neg h4, List.getElem?_eq_none (by simp; omega)]

theorem Try.infoNode : (Try.prog.info? 51).map (fun i => (i.zero, i.size, i.bytes)) = some (some (.agg #[.int .i64 0, .int .i64 0, .string ⟨#[]⟩, .slice none 0 0]), 4, 56) := by kernel_rfl


end Go.Proofs.Ytbjkfecailnelaa
