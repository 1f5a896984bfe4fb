/- The laws' own helpers on expressions: nodes copied. -/
/- The laws' own helpers on expressions: whole ones copied, compared with their like. -/
import Derived.Test.YtcnkegkffmcdmaaGreatDoorGSz
namespace Go.Proofs.YtcnkegkffmcdmaaGreatDoor
open Go.RowKit

theorem frozen_keep4 {w w' : World} {b o : Nat} (h : w.frozen? ⟨b, o, none⟩ = false) (hlt : b < w.heap.size) (hb : Below w.heap.size w w') : w'.frozen? ⟨b, o, none⟩ = false := by
  unfold World.frozen? at h ⊢
  rw [hb.block b hlt]
  exact h

theorem grow_set (w : World) (b j : Nat) (u : Value) : w.grownBy (w.setCell ⟨b, j, none⟩ u) (some b) :=
  ⟨rfl, rfl, rfl, by simp, fun k _ hk => by
    simp only [World.setCell]
    rw [Array.getElem?_modify, if_neg (fun e => hk (by rw [← e]))]⟩
theorem off_block {B : Nat} {v : Value} {ks : List Int} {w : World} (h : OwnZ B v ks w) {b : Nat} (hb : b < B) : v.ownBlock = none ∨ v.ownBlock ≠ some b := by
  cases hv : v.ownBlock with
  | none => exact .inl rfl
  | some k => exact .inr (fun e => by have := (World.ownsRow.lt h k hv).1; have e2 : k = b := Option.some.inj e; omega)

theorem set_four {w : World} {b : Nat} {x y z u : Value} (h0 : w.cell? ⟨b, 0, none⟩ = some x) (h1 : w.cell? ⟨b, 1, none⟩ = some y) (h2 : w.cell? ⟨b, 2, none⟩ = some z) (h3 : w.cell? ⟨b, 3, none⟩ = some u) (p q r s : Value) :
    ((((w.setCell ⟨b, 0, none⟩ p).setCell ⟨b, 1, none⟩ q).setCell ⟨b, 2, none⟩ r).setCell ⟨b, 3, none⟩ s).cell? ⟨b, 0, none⟩ = some p ∧ ((((w.setCell ⟨b, 0, none⟩ p).setCell ⟨b, 1, none⟩ q).setCell ⟨b, 2, none⟩ r).setCell ⟨b, 3, none⟩ s).cell? ⟨b, 1, none⟩ = some q
      ∧ ((((w.setCell ⟨b, 0, none⟩ p).setCell ⟨b, 1, none⟩ q).setCell ⟨b, 2, none⟩ r).setCell ⟨b, 3, none⟩ s).cell? ⟨b, 2, none⟩ = some r ∧ ((((w.setCell ⟨b, 0, none⟩ p).setCell ⟨b, 1, none⟩ q).setCell ⟨b, 2, none⟩ r).setCell ⟨b, 3, none⟩ s).cell? ⟨b, 3, none⟩ = some s := by
  have o : ∀ (W : World) (i j : Nat) (t : Value), i ≠ j → (W.setCell ⟨b, i, none⟩ t).cell? ⟨b, j, none⟩ = W.cell? ⟨b, j, none⟩ := fun W i j t hij => World.cell?_setCell_other _ _ _ _ (by intro e; cases e; exact hij rfl)
  refine ⟨?_, ?_, ?_, ?_⟩
  · rw [o _ 3 0 _ (by omega), o _ 2 0 _ (by omega), o _ 1 0 _ (by omega)]; exact World.cell?_setCell_same _ _ _ h0
  · rw [o _ 3 1 _ (by omega), o _ 2 1 _ (by omega)]; exact World.cell?_setCell_same _ _ _ ((o _ 0 1 _ (by omega)).trans h1)
  · rw [o _ 3 2 _ (by omega)]; exact World.cell?_setCell_same _ _ _ ((o _ 1 2 _ (by omega)).trans ((o _ 0 2 _ (by omega)).trans h2))
  · exact World.cell?_setCell_same _ _ _ ((o _ 2 3 _ (by omega)).trans ((o _ 1 3 _ (by omega)).trans ((o _ 0 3 _ (by omega)).trans h3)))

theorem ex_at (w : World) (x y z u x' y' z' u' x2 y2 z2 u2 : Value) (s t : TypeId) {B : Nat} (hB : w.heap.size = B) :
    (((w.alloc (.cells #[x, y, z, u] s)).alloc (.cells #[x', y', z', u'] t)).alloc (.cells #[x2, y2, z2, u2] t)).heap[B]? = some (.cells #[x, y, z, u] s) ∧
    (((w.alloc (.cells #[x, y, z, u] s)).alloc (.cells #[x', y', z', u'] t)).alloc (.cells #[x2, y2, z2, u2] t)).heap[B + 1]? = some (.cells #[x', y', z', u'] t) ∧
    (((w.alloc (.cells #[x, y, z, u] s)).alloc (.cells #[x', y', z', u'] t)).alloc (.cells #[x2, y2, z2, u2] t)).heap[B + 2]? = some (.cells #[x2, y2, z2, u2] t) := by
  subst hB
  have e1 : (w.alloc (.cells #[x, y, z, u] s)).heap.size = w.heap.size + 1 := by simp
  have e2 : ((w.alloc (.cells #[x, y, z, u] s)).alloc (.cells #[x', y', z', u'] t)).heap.size = w.heap.size + 2 := by simp
  refine ⟨?_, ?_, ?_⟩
  · rw [Below.heap_alloc _ _ _ (by rw [e2]; omega), Below.heap_alloc _ _ _ (by rw [e1]; omega)]
    exact heap_alloc_new w _
  · rw [Below.heap_alloc _ _ _ (by rw [e2]; omega)]
    have := heap_alloc_new (w.alloc (.cells #[x, y, z, u] s)) (.cells #[x', y', z', u'] t)
    rwa [e1] at this
  · have := heap_alloc_new ((w.alloc (.cells #[x, y, z, u] s)).alloc (.cells #[x', y', z', u'] t)) (.cells #[x2, y2, z2, u2] t)
    rwa [e2] at this

set_option maxHeartbeats 1600000 in
theorem toExNode_any (op num : Int) (name : ByteArray) (kv : Value) (ks : List Int) (w : World) (hm : ks.length ≤ 1048576) (h : IRow w kv ks) :
    Calls Tryz.prog 149 #[.agg #[.int .i64 op, .int .i64 num, .string name, kv]] w fun e w' => ∃ o, e = .returned (.agg #[.int .i64 op, .int .i64 num, .string name, o]) ∧ OwnZ w.heap.size o ks w' ∧ Below w.heap.size w w' := by
  obtain ⟨a, cap, rfl⟩ := h.slice
  have HR : Hid (IRow w (.slice a ks.length cap) ks) := h
  clear h
  obtain ⟨B, hB⟩ : ∃ B, w.heap.size = B := ⟨_, rfl⟩
  go_enter Tryz.func149, Tryz.ntmps149
  go_wp2_with fail
  obtain ⟨hb0, hb1, hb2⟩ := ex_at w (.int .i64 op) (.int .i64 num) (.string name) (.slice a ks.length cap) (.int .i64 0) (.int .i64 0) (.string ⟨#[]⟩) (.slice none 0 0) (.int .i64 op) (.int .i64 num) (.string name) (.slice none 0 0) 215 71 hB
  have BW : Hid (Below w.heap.size w (((w.alloc (.cells #[.int .i64 op, .int .i64 num, .string name, .slice a ks.length cap] 215)).alloc (.cells #[.int .i64 0, .int .i64 0, .string ⟨#[]⟩, .slice none 0 0] 71)).alloc (.cells #[.int .i64 op, .int .i64 num, .string name, .slice none 0 0] 71))) := (((Below.refl _ _).alloc (Nat.le_refl _) _).alloc (by simp) _).alloc (by simp; omega) _
  have hszW : (((w.alloc (.cells #[.int .i64 op, .int .i64 num, .string name, .slice a ks.length cap] 215)).alloc (.cells #[.int .i64 0, .int .i64 0, .string ⟨#[]⟩, .slice none 0 0] 71)).alloc (.cells #[.int .i64 op, .int .i64 num, .string name, .slice none 0 0] 71)).heap.size = B + 3 := by simp [hB]
  generalize ((w.alloc (.cells #[.int .i64 op, .int .i64 num, .string name, .slice a ks.length cap] 215)).alloc (.cells #[.int .i64 0, .int .i64 0, .string ⟨#[]⟩, .slice none 0 0] 71)).alloc (.cells #[.int .i64 op, .int .i64 num, .string name, .slice none 0 0] 71) = W0 at *
  refine (toIntS_any _ ks W0 hm (HR.out.below BW.out)).mono ?_
  rintro e w2 ⟨o, rfl, ho, hbc⟩
  have B2 : Hid (Below w.heap.size w w2) := BW.out.trans (hbc.mono BW.out.size)
  have HO2 : Hid (OwnZ (B + 3) o ks w2) := by rw [← hszW]; exact ho
  obtain ⟨ao, co, rfl⟩ := ho.row.slice
  have k1 : w2.heap[B + 1]? = some (.cells #[.int .i64 0, .int .i64 0, .string ⟨#[]⟩, .slice none 0 0] 71) := (hbc.block _ (by omega)).trans hb1
  have k2 : w2.heap[B + 2]? = some (.cells #[.int .i64 op, .int .i64 num, .string name, .slice none 0 0] 71) := (hbc.block _ (by omega)).trans hb2
  clear ho hbc hb0 hb1 hb2
  have c10 : w2.cell? ⟨B + 1, 0, none⟩ = some (.int .i64 0) := by rw [cell_of_row _ _ 0 _ _ _ k1]; rfl
  have c11 : w2.cell? ⟨B + 1, 1, none⟩ = some (.int .i64 0) := by rw [cell_of_row _ _ 1 _ _ _ k1]; rfl
  have c12 : w2.cell? ⟨B + 1, 2, none⟩ = some (.string ⟨#[]⟩) := by rw [cell_of_row _ _ 2 _ _ _ k1]; rfl
  have c13 : w2.cell? ⟨B + 1, 3, none⟩ = some (.slice none 0 0) := by rw [cell_of_row _ _ 3 _ _ _ k1]; rfl
  have c20 : w2.cell? ⟨B + 1 + 1, 0, none⟩ = some (.int .i64 op) := by rw [cell_of_row _ _ 0 _ _ _ k2]; rfl
  have c21 : w2.cell? ⟨B + 1 + 1, 1, none⟩ = some (.int .i64 num) := by rw [cell_of_row _ _ 1 _ _ _ k2]; rfl
  have c22 : w2.cell? ⟨B + 1 + 1, 2, none⟩ = some (.string name) := by rw [cell_of_row _ _ 2 _ _ _ k2]; rfl
  have c23 : w2.cell? ⟨B + 1 + 1, 3, none⟩ = some (.slice none 0 0) := by rw [cell_of_row _ _ 3 _ _ _ k2]; rfl
  have f1 : ∀ j, w2.frozen? ⟨B + 1, j, none⟩ = false := fun j => by unfold World.frozen?; rw [k1]; simp
  have f2 : ∀ j, w2.frozen? ⟨B + 1 + 1, j, none⟩ = false := fun j => by unfold World.frozen?; rw [show B + 1 + 1 = B + 2 from rfl, k2]; simp
  clear k1 k2
  -- the copy's kids are laid in
  have HO3 : Hid (OwnZ (B + 3) (.slice ao ks.length co) ks (w2.setCell ⟨B + 1 + 1, 3, none⟩ (.slice ao ks.length co))) := World.ownsRow.kept HO2.out (grow_set w2 (B + 1 + 1) 3 (.slice ao ks.length co)) (off_block HO2.out (by omega))
  have B3 : Hid (Below w.heap.size w (w2.setCell ⟨B + 1 + 1, 3, none⟩ (.slice ao ks.length co))) := B2.out.setCell (by show w.heap.size ≤ B + 1 + 1; omega) _
  have d20 : (w2.setCell ⟨B + 1 + 1, 3, none⟩ (.slice ao ks.length co)).cell? ⟨B + 1 + 1, 0, none⟩ = some (.int .i64 op) := (World.cell?_setCell_other _ _ _ _ (by simp)).trans c20
  have d21 : (w2.setCell ⟨B + 1 + 1, 3, none⟩ (.slice ao ks.length co)).cell? ⟨B + 1 + 1, 1, none⟩ = some (.int .i64 num) := (World.cell?_setCell_other _ _ _ _ (by simp)).trans c21
  have d22 : (w2.setCell ⟨B + 1 + 1, 3, none⟩ (.slice ao ks.length co)).cell? ⟨B + 1 + 1, 2, none⟩ = some (.string name) := (World.cell?_setCell_other _ _ _ _ (by simp)).trans c22
  have d23 : (w2.setCell ⟨B + 1 + 1, 3, none⟩ (.slice ao ks.length co)).cell? ⟨B + 1 + 1, 3, none⟩ = some (.slice ao ks.length co) := World.cell?_setCell_same _ _ _ c23
  have d10 : (w2.setCell ⟨B + 1 + 1, 3, none⟩ (.slice ao ks.length co)).cell? ⟨B + 1, 0, none⟩ = some (.int .i64 0) := (World.cell?_setCell_other _ _ _ _ (by simp)).trans c10
  have d11 : (w2.setCell ⟨B + 1 + 1, 3, none⟩ (.slice ao ks.length co)).cell? ⟨B + 1, 1, none⟩ = some (.int .i64 0) := (World.cell?_setCell_other _ _ _ _ (by simp)).trans c11
  have d12 : (w2.setCell ⟨B + 1 + 1, 3, none⟩ (.slice ao ks.length co)).cell? ⟨B + 1, 2, none⟩ = some (.string ⟨#[]⟩) := (World.cell?_setCell_other _ _ _ _ (by simp)).trans c12
  have d13 : (w2.setCell ⟨B + 1 + 1, 3, none⟩ (.slice ao ks.length co)).cell? ⟨B + 1, 3, none⟩ = some (.slice none 0 0) := (World.cell?_setCell_other _ _ _ _ (by simp)).trans c13
  have e1 : ∀ j, (w2.setCell ⟨B + 1 + 1, 3, none⟩ (.slice ao ks.length co)).frozen? ⟨B + 1, j, none⟩ = false := fun j => (World.frozen?_setCell _ _ _ _).trans (f1 j)
  have e10 := e1 0
  have e11 := e1 1
  have e12 := e1 2
  have e13 := e1 3
  have f23 := f2 3
  clear f1 f2 e1 c10 c11 c12 c13 c20 c21 c22
  go_wp2
  generalize w2.setCell ⟨B + 1 + 1, 3, none⟩ (.slice ao ks.length co) = W3 at *
  have HO4 : Hid (OwnZ w.heap.size (.slice ao ks.length co) ks ((((W3.setCell ⟨B + 1, 0, none⟩ (.int .i64 op)).setCell ⟨B + 1, 1, none⟩ (.int .i64 num)).setCell ⟨B + 1, 2, none⟩ (.string name)).setCell ⟨B + 1, 3, none⟩ (.slice ao ks.length co))) := by
    have step : ∀ (W : World) (j : Nat) (u : Value), OwnZ (B + 3) (.slice ao ks.length co) ks W → OwnZ (B + 3) (.slice ao ks.length co) ks (W.setCell ⟨B + 1, j, none⟩ u) := fun W j u hW => World.ownsRow.kept hW (grow_set W (B + 1) j u) (off_block hW (by omega))
    exact (step _ _ _ (step _ _ _ (step _ _ _ (step _ _ _ HO3.out)))).base (by omega)
  have B4 : Hid (Below w.heap.size w ((((W3.setCell ⟨B + 1, 0, none⟩ (.int .i64 op)).setCell ⟨B + 1, 1, none⟩ (.int .i64 num)).setCell ⟨B + 1, 2, none⟩ (.string name)).setCell ⟨B + 1, 3, none⟩ (.slice ao ks.length co))) := by
    have hle : w.heap.size ≤ B + 1 := by omega
    exact (((B3.out.setCell hle _).setCell hle _).setCell hle _).setCell hle _
  obtain ⟨r0, r1, r2, r3⟩ := set_four d10 d11 d12 d13 (.int .i64 op) (.int .i64 num) (.string name) (.slice ao ks.length co)
  clear d10 d11 d12 d13 d20 d21 d22 d23 e10 e11 e12 e13 f23 c23
  generalize (((W3.setCell ⟨B + 1, 0, none⟩ (.int .i64 op)).setCell ⟨B + 1, 1, none⟩ (.int .i64 num)).setCell ⟨B + 1, 2, none⟩ (.string name)).setCell ⟨B + 1, 3, none⟩ (.slice ao ks.length co) = W5 at *
  (try simp only [Exit.inBlock, Exit.then])
  refine bodyPost_ret (by simp [results, Tryz.results149, go_sem, r0, r1, r2, r3]; try rfl) rfl ?_
  exact ⟨_, rfl, HO4.out, B4.out⟩

/-- Nodes with their kids' lists, cell by cell. -/
def nv (qs : List (NodeD × Value)) : List Value := qs.flatMap fun q => [.int .i64 q.1.op, .int .i64 q.1.num, .string q.1.name, q.2]
theorem nv_len (qs : List (NodeD × Value)) : (nv qs).length = qs.length * 4 := by
  induction qs with
  | nil => rfl
  | cons x qs ih => rw [nv, List.flatMap_cons, List.length_append, ← nv, ih]; simp; omega
theorem nv_app (qs rs : List (NodeD × Value)) : nv (qs ++ rs) = nv qs ++ nv rs := by simp [nv]
theorem nv_at : ∀ (qs : List (NodeD × Value)) (i : Nat) (h : i < qs.length), (nv qs)[i * 4]? = some (.int .i64 qs[i].1.op) ∧ (nv qs)[i * 4 + 1]? = some (.int .i64 qs[i].1.num) ∧ (nv qs)[i * 4 + 2]? = some (.string qs[i].1.name) ∧ (nv qs)[i * 4 + 3]? = some qs[i].2
  | q :: qs, 0, _ => ⟨rfl, rfl, rfl, rfl⟩
  | q :: qs, i + 1, h => by
    have := nv_at qs i (by simpa using h)
    have e : nv (q :: qs) = [.int .i64 q.1.op, .int .i64 q.1.num, .string q.1.name, q.2] ++ nv qs := rfl
    have e0 : ∀ j, (nv (q :: qs))[(i + 1) * 4 + j]? = (nv qs)[i * 4 + j]? := fun j => by
      rw [e, List.getElem?_append_right (by simp; omega)]
      congr 1
      simp
      omega
    exact ⟨(e0 0).trans this.1, (e0 1).trans this.2.1, (e0 2).trans this.2.2.1, (e0 3).trans this.2.2.2⟩
def OwnN (B : Nat) (v : Value) (ns : List NodeD) (w : World) : Prop :=
  ∃ qs : List (NodeD × Value), qs.map (·.1) = ns ∧ w.ownsRow B 71 4 v qs.length (nv qs) ∧ ∀ q ∈ qs, OwnZ B q.2 q.1.kids w
theorem OwnN.row {B : Nat} {v : Value} {ns : List NodeD} {w : World} (h : OwnN B v ns w) : NRow w v ns := by
  obtain ⟨qs, rfl, h, hk⟩ := h
  have hl : (qs.map (·.1)).length = qs.length := by simp
  rcases h.2 with ⟨rfl, hz⟩ | ⟨g, cap, cur, rfl, hB, hc, hle, hm, hs, ht⟩
  · exact ⟨none, 0, by rw [hl, hz], fun _ => rfl, fun h0 => by rw [hl] at h0; omega⟩
  · refine ⟨some ⟨g, 0, none⟩, cap, by rw [hl], fun h => (by cases h), fun _ => ⟨g, 0, rfl, (Array.getElem?_eq_some_iff.1 hc).1, fun i hi => ?_⟩⟩
    have key : ∀ j u, (nv qs)[j]? = some u → w.cell? ⟨g, 0 + j, none⟩ = some u := fun j u hu => by
      have := World.ownsRow.cells h (g := g) rfl j u hu
      rwa [Addr.add_lit] at this
    rw [hl] at hi
    have := nv_at qs i hi
    refine ⟨qs[i].2, ?_⟩
    rw [List.getElem_map]
    exact ⟨key _ _ this.1, by rw [Nat.add_assoc]; exact key _ _ this.2.1, by rw [Nat.add_assoc]; exact key _ _ this.2.2.1, by rw [Nat.add_assoc]; exact key _ _ this.2.2.2, (hk _ (List.getElem_mem hi)).row⟩
theorem OwnN.below {B : Nat} {v : Value} {ns : List NodeD} {w w' : World} (h : OwnN B v ns w) (hb : Below w.heap.size w w') : OwnN B v ns w' := by
  obtain ⟨qs, e, h, hk⟩ := h
  exact ⟨qs, e, own_below h hb, fun q hq => (hk q hq).below hb⟩

theorem take_four (cs : List Value) (j : Nat) (a b c d : Value) (h : j + 3 < cs.length) : ((((cs.set j a).set (j + 1) b).set (j + 2) c).set (j + 3) d).take (j + 4) = cs.take j ++ [a, b, c, d] := by
  apply List.ext_getElem?
  intro i
  rw [List.getElem?_take]
  have hl : (cs.take j).length = j := by simp; omega
  by_cases h1 : i < j
  · rw [if_pos (by omega), List.getElem?_set_ne (by omega), List.getElem?_set_ne (by omega), List.getElem?_set_ne (by omega), List.getElem?_set_ne (by omega), List.getElem?_append_left (by omega), List.getElem?_take, if_pos h1]
  · rw [List.getElem?_append_right (by omega), hl]
    by_cases h4 : i < j + 4
    · rw [if_pos h4]
      obtain ⟨t, rfl⟩ : ∃ t, i = j + t := ⟨i - j, by omega⟩
      have ht : t < 4 := by omega
      match t, ht with
      | 0, _ => rw [List.getElem?_set_ne (by omega), List.getElem?_set_ne (by omega), List.getElem?_set_ne (by omega), Nat.add_zero, List.getElem?_set_self (by omega)]; simp
      | 1, _ => rw [List.getElem?_set_ne (by omega), List.getElem?_set_ne (by omega), List.getElem?_set_self (by simp; omega)]; simp
      | 2, _ => rw [List.getElem?_set_ne (by omega), List.getElem?_set_self (by simp; omega)]; simp
      | 3, _ => rw [List.getElem?_set_self (by simp; omega)]; simp
    · rw [if_neg h4, List.getElem?_eq_none (by simp; omega)]

theorem Tryz.infoNode : (Tryz.prog.info? 71).map (fun i => (i.zero, i.size, i.bytes)) = some (some (.agg #[.int .i64 0, .int .i64 0, .string ⟨#[]⟩, .slice none 0 0]), 4, 56) := by kernel_rfl

set_option maxHeartbeats 3200000 in
theorem toExNodeS_any (v : Value) (ns : List NodeD) (w : World) (hn : ns.length ≤ 1048576) (hz : ∀ x ∈ ns, x.kids.length ≤ 1048576) (h : NRow w v ns) :
    Calls Tryz.prog 129 #[v] w fun e w' => ∃ o, e = .returned o ∧ OwnN w.heap.size o ns w' ∧ Below w.heap.size w w' := by
  obtain ⟨i0, hi, hz0, hz1, hz2⟩ := info_parts Tryz.infoNode
  have HR : Hid (NRow w v ns) := h
  have HZ : Hid (∀ x ∈ ns, x.kids.length ≤ 1048576) := hz
  obtain ⟨a, cap, rfl⟩ := h.slice
  clear h hz
  go_enter Tryz.func129, Tryz.ntmps129
  go_wp2_with (at_make; refine wpList_make_full _ rfl _ _ 50 rfl w.heap.size 71 i0 _ 4 Tryz.underlying50 hi hz0 hz1 .i64 .i64 _ _ ns.length rfl rfl rfl rfl (by rw [hz2]; omega) (by unfold maxLen; omega) (Nat.le_refl _) ?_; intro w1 hown hg1)
  have HO : Hid (_) := hown
  have HB1 : Hid (Below w.heap.size w w1) := (Below.refl _ _).grown hg1 (Nat.le_refl _) (fun k h => by cases h)
  clear hown hg1
  go_loopw [4] (fun iv wr => ∃ (k : Nat) (cs : List Value) (qs : List (NodeD × Value)), iv = .int .i64 k ∧ k ≤ ns.length ∧ wr.ownsRow w.heap.size 71 4 (.slice (some ⟨w.heap.size, 0, none⟩) ns.length ns.length) ns.length cs ∧ cs.take (k * 4) = nv qs ∧ qs.map (·.1) = ns.take k ∧ (∀ q ∈ qs, OwnZ (w.heap.size + 1) q.2 q.1.kids wr) ∧ Below w.heap.size w wr) (fun iv _ => ns.length - (intOf iv).toNat)
  case atStart => exact ⟨0, _, [], rfl, Nat.zero_le _, HO.out, rfl, rfl, (fun q hq => by cases hq), HB1.out⟩
  case round =>
    obtain ⟨k, cs, qs, rfl, hk, hown, hcs, hqs, hqz, hb⟩ := hrel
    have HW : Hid (wr.ownsRow w.heap.size 71 4 (.slice (some ⟨w.heap.size, 0, none⟩) ns.length ns.length) ns.length cs) := hown
    have HS : Hid (cs.take (k * 4) = nv qs) := hcs
    have HQ : Hid (qs.map (·.1) = ns.take k) := hqs
    have HK : Hid (∀ q ∈ qs, OwnZ (w.heap.size + 1) q.2 q.1.kids wr) := hqz
    have HB : Hid (Below w.heap.size w wr) := hb
    have HRr : Hid (NRow wr (.slice a ns.length cap) ns) := HR.out.below hb
    have hgt : w.heap.size + 1 ≤ wr.heap.size := (World.ownsRow.lt hown w.heap.size rfl).2
    clear hb hcs hown HO hqs hqz
    by_cases hlt : k < ns.length
    · obtain ⟨b, off, kv, rfl, n0, n1, n2, n3, hI⟩ := HRr.out.at hlt
      have HT : Hid (_) := toExNode_any ns[k].op ns[k].num ns[k].name kv ns[k].kids wr (HZ.out _ (List.getElem_mem hlt)) hI
      obtain ⟨ak, ck, rfl⟩ := hI.slice
      clear hI
      go_wp2_with fail
      refine Calls.mono HT.out ?_
      rintro e w2 ⟨o, rfl, ho, hb2⟩
      have HO2 : Hid (OwnZ (w.heap.size + 1) o ns[k].kids w2) := ho.base hgt
      have HB2 : Hid (Below w.heap.size w w2) := HB.out.trans (hb2.mono HB.out.size)
      have HK2 : Hid (∀ q ∈ qs, OwnZ (w.heap.size + 1) q.2 q.1.kids w2) := fun q hq => (HK.out q hq).below hb2
      have O2 : w2.ownsRow w.heap.size 71 4 (.slice (some ⟨w.heap.size, 0, none⟩) ns.length ns.length) ns.length cs := own_below HW.out hb2
      obtain ⟨c0, hc0, f0⟩ := own_cell O2 (k * 4) (by omega)
      obtain ⟨c1, hc1, f1⟩ := own_cell O2 (k * 4 + 1) (by omega)
      obtain ⟨c2, hc2, f2⟩ := own_cell O2 (k * 4 + 2) (by omega)
      obtain ⟨c3, hc3, f3⟩ := own_cell O2 (k * 4 + 3) (by omega)
      have HOw : Hid (_) := O2
      obtain ⟨ao, co, rfl⟩ := ho.row.slice
      clear O2 hb2 ho HT HK HW
      go_wp2
      go_roundw
      case rel =>
        have s1 := World.ownsRow.stored HOw.out (k * 4) (.int .i64 ns[k].op)
        have s2 := s1.1.stored (k * 4 + 1) (.int .i64 ns[k].num)
        have s3 := s2.1.stored (k * 4 + 2) (.string ns[k].name)
        have s4 := s3.1.stored (k * 4 + 3) (.slice ao ns[k].kids.length co)
        have hl : k * 4 + 3 < cs.length := by rw [HOw.out.1]; omega
        have step : ∀ (W : World) (j : Nat) (u v : Value) (ks : List Int), OwnZ (w.heap.size + 1) v ks W → OwnZ (w.heap.size + 1) v ks (W.setCell ⟨w.heap.size, j, none⟩ u) := fun W j u v ks hW => World.ownsRow.kept hW (grow_set W w.heap.size j u) (off_block hW (by omega))
        refine ⟨k + 1, _, qs ++ [(ns[k], .slice ao ns[k].kids.length co)], by go_num, by omega, s4.1, ?_, ?_, fun q hq => ?_, (((HB2.out.setCell (Nat.le_refl _) _).setCell (Nat.le_refl _) _).setCell (Nat.le_refl _) _).setCell (Nat.le_refl _) _⟩
        · rw [show (k + 1) * 4 = k * 4 + 4 by omega, take_four cs (k * 4) _ _ _ _ hl, HS.out, nv_app]
          rfl
        · rw [List.map_append, HQ.out, List.take_succ_eq_append_getElem hlt]
          rfl
        · rcases List.mem_append.1 hq with hq | hq
          · exact step _ _ _ _ _ (step _ _ _ _ _ (step _ _ _ _ _ (step _ _ _ _ _ (HK2.out q hq))))
          · obtain rfl : q = (ns[k], .slice ao ns[k].kids.length co) := by simpa using hq
            exact step _ _ _ _ _ (step _ _ _ _ _ (step _ _ _ _ _ (step _ _ _ _ _ HO2.out)))
      case measure => simp [intOf]; omega
    · obtain rfl : k = ns.length := by omega
      have HF : Hid (OwnN w.heap.size (.slice (some ⟨w.heap.size, 0, none⟩) ns.length ns.length) ns wr) := by
        have h1 := HS.out
        rw [List.take_of_length_le (by rw [HW.out.1]; omega)] at h1
        have h2 := HW.out
        have h3 := HQ.out
        rw [List.take_of_length_le (Nat.le_refl _)] at h3
        have h4 : qs.length = ns.length := by rw [← h3]; simp
        refine ⟨qs, h3, ?_, fun q hq => (HK.out q hq).base (Nat.le_succ _)⟩
        rw [h4, ← h1]
        exact h2
      clear HW HS
      go_wp2
      go_ret
      exact ⟨_, rfl, HF.out, HB.out⟩

end Go.Proofs.YtcnkegkffmcdmaaGreatDoor

namespace Go.Proofs.YtcnkegkffmcdmaaGreatDoor
open Go.RowKit

theorem OwnN.setLow {B : Nat} {v : Value} {ns : List NodeD} {w : World} (h : OwnN B v ns w) {b : Nat} (hb : b < B) (j : Nat) (u : Value) : OwnN B v ns (w.setCell ⟨b, j, none⟩ u) := by
  obtain ⟨qs, e, h1, h2⟩ := h
  refine ⟨qs, e, World.ownsRow.kept h1 (grow_set w b j u) ?_, fun q hq => World.ownsRow.kept (h2 q hq) (grow_set w b j u) (off_block (h2 q hq) hb)⟩
  cases hv : v.ownBlock with
  | none => exact .inl rfl
  | some k => exact .inr (fun e => by have := (World.ownsRow.lt h1 k hv).1; have e2 : k = b := Option.some.inj e; omega)
theorem OwnN.base {B B' : Nat} {v : Value} {ns : List NodeD} {w : World} (h : OwnN B v ns w) (hB : B' ≤ B) : OwnN B' v ns w := by
  obtain ⟨qs, e, h1, h2⟩ := h
  refine ⟨qs, e, ⟨h1.1, ?_⟩, fun q hq => (h2 q hq).base hB⟩
  rcases h1.2 with h | ⟨g, cap, cur, e, hg, r⟩
  · exact .inl h
  · exact .inr ⟨g, cap, cur, e, Nat.le_trans hB hg, r⟩

theorem ex1_at (w : World) (x y z : Value) (s t : TypeId) {B : Nat} (hB : w.heap.size = B) :
    (((w.alloc (.cells #[x] s)).alloc (.cells #[y] t)).alloc (.cells #[z] t)).heap[B + 1]? = some (.cells #[y] t) ∧ (((w.alloc (.cells #[x] s)).alloc (.cells #[y] t)).alloc (.cells #[z] t)).heap[B + 2]? = some (.cells #[z] t) := by
  subst hB
  have e1 : (w.alloc (.cells #[x] s)).heap.size = w.heap.size + 1 := by simp
  have e2 : ((w.alloc (.cells #[x] s)).alloc (.cells #[y] t)).heap.size = w.heap.size + 2 := by simp
  refine ⟨?_, ?_⟩
  · rw [Below.heap_alloc _ _ _ (by rw [e2]; omega)]
    have := heap_alloc_new (w.alloc (.cells #[x] s)) (.cells #[y] t)
    rwa [e1] at this
  · have := heap_alloc_new ((w.alloc (.cells #[x] s)).alloc (.cells #[y] t)) (.cells #[z] t)
    rwa [e2] at this

set_option maxHeartbeats 1600000 in
theorem toExpr_any (v : Value) (ns : List NodeD) (w : World) (hn : ns.length ≤ 1048576) (hz : ∀ x ∈ ns, x.kids.length ≤ 1048576) (h : NRow w v ns) :
    Calls Tryz.prog 119 #[.agg #[v]] w fun e w' => ∃ o, e = .returned (.agg #[o]) ∧ OwnN w.heap.size o ns w' ∧ Below w.heap.size w w' := by
  obtain ⟨a, cap, rfl⟩ := h.slice
  have HR : Hid (NRow w (.slice a ns.length cap) ns) := h
  have HZ : Hid (∀ x ∈ ns, x.kids.length ≤ 1048576) := hz
  clear h hz
  obtain ⟨B, hB⟩ : ∃ B, w.heap.size = B := ⟨_, rfl⟩
  go_enter Tryz.func119, Tryz.ntmps119
  go_wp2_with fail
  obtain ⟨hb1, hb2⟩ := ex1_at w (.slice a ns.length cap) (.slice none 0 0) (.slice none 0 0) 162 52 hB
  have BW : Hid (Below w.heap.size w (((w.alloc (.cells #[.slice a ns.length cap] 162)).alloc (.cells #[.slice none 0 0] 52)).alloc (.cells #[.slice none 0 0] 52))) := (((Below.refl _ _).alloc (Nat.le_refl _) _).alloc (by simp) _).alloc (by simp; omega) _
  have hszW : (((w.alloc (.cells #[.slice a ns.length cap] 162)).alloc (.cells #[.slice none 0 0] 52)).alloc (.cells #[.slice none 0 0] 52)).heap.size = B + 3 := by simp [hB]
  generalize ((w.alloc (.cells #[.slice a ns.length cap] 162)).alloc (.cells #[.slice none 0 0] 52)).alloc (.cells #[.slice none 0 0] 52) = W0 at *
  refine (toExNodeS_any _ ns W0 hn HZ.out (HR.out.below BW.out)).mono ?_
  rintro e w2 ⟨o, rfl, ho, hbc⟩
  have B2 : Hid (Below w.heap.size w w2) := BW.out.trans (hbc.mono BW.out.size)
  have HO2 : Hid (OwnN (B + 3) o ns w2) := by rw [← hszW]; exact ho
  obtain ⟨ao, co, rfl⟩ := ho.row.slice
  have k1 : w2.heap[B + 1]? = some (.cells #[.slice none 0 0] 52) := (hbc.block _ (by omega)).trans hb1
  have k2 : w2.heap[B + 2]? = some (.cells #[.slice none 0 0] 52) := (hbc.block _ (by omega)).trans hb2
  clear ho hbc hb1 hb2
  have c1 : w2.cell? ⟨B + 1, 0, none⟩ = some (.slice none 0 0) := by rw [cell_of_row _ _ 0 _ _ _ k1]; rfl
  have c2 : w2.cell? ⟨B + 1 + 1, 0, none⟩ = some (.slice none 0 0) := by rw [cell_of_row _ _ 0 _ _ _ k2]; rfl
  have f1 : w2.frozen? ⟨B + 1, 0, none⟩ = false := by unfold World.frozen?; rw [k1]; simp
  have f2 : w2.frozen? ⟨B + 1 + 1, 0, none⟩ = false := by unfold World.frozen?; rw [show B + 1 + 1 = B + 2 from rfl, k2]; simp
  clear k1 k2
  have HO3 : Hid (OwnN (B + 3) (.slice ao ns.length co) ns (w2.setCell ⟨B + 1 + 1, 0, none⟩ (.slice ao ns.length co))) := HO2.out.setLow (by omega) _ _
  have B3 : Hid (Below w.heap.size w (w2.setCell ⟨B + 1 + 1, 0, none⟩ (.slice ao ns.length co))) := B2.out.setCell (by show w.heap.size ≤ B + 1 + 1; omega) _
  have d2 : (w2.setCell ⟨B + 1 + 1, 0, none⟩ (.slice ao ns.length co)).cell? ⟨B + 1 + 1, 0, none⟩ = some (.slice ao ns.length co) := World.cell?_setCell_same _ _ _ c2
  have d1 : (w2.setCell ⟨B + 1 + 1, 0, none⟩ (.slice ao ns.length co)).cell? ⟨B + 1, 0, none⟩ = some (.slice none 0 0) := (World.cell?_setCell_other _ _ _ _ (by simp)).trans c1
  have e1 : (w2.setCell ⟨B + 1 + 1, 0, none⟩ (.slice ao ns.length co)).frozen? ⟨B + 1, 0, none⟩ = false := (World.frozen?_setCell _ _ _ _).trans f1
  go_wp2
  generalize w2.setCell ⟨B + 1 + 1, 0, none⟩ (.slice ao ns.length co) = W3 at *
  have HO4 : Hid (OwnN w.heap.size (.slice ao ns.length co) ns (W3.setCell ⟨B + 1, 0, none⟩ (.slice ao ns.length co))) := (HO3.out.setLow (by omega) _ _).base (by omega)
  have B4 : Hid (Below w.heap.size w (W3.setCell ⟨B + 1, 0, none⟩ (.slice ao ns.length co))) := B3.out.setCell (by show w.heap.size ≤ B + 1; omega) _
  have r0 : (W3.setCell ⟨B + 1, 0, none⟩ (.slice ao ns.length co)).cell? ⟨B + 1, 0, none⟩ = some (.slice ao ns.length co) := World.cell?_setCell_same _ _ _ d1
  clear d1 d2 e1 f1 f2 c1 c2
  generalize W3.setCell ⟨B + 1, 0, none⟩ (.slice ao ns.length co) = W5 at *
  (try simp only [Exit.inBlock, Exit.then])
  refine bodyPost_ret (by simp [results, Tryz.results119, go_sem, r0]; try rfl) rfl ?_
  exact ⟨_, rfl, HO4.out, B4.out⟩

set_option maxHeartbeats 1600000 in
theorem eqIntS_same (u v : Value) (ks : List Int) (w : World) (hx : ks.length ≤ 1048576) (h : IRow w u ks) (h' : IRow w v ks) :
    Calls Tryz.prog 163 #[u, v] w fun e w' => e = .returned (.bool true) ∧ ∃ q, w' = w.drewN q := by
  have HX : Hid (IRow w u ks) := h
  have HY : Hid (IRow w v ks) := h'
  obtain ⟨a, cap, rfl⟩ := h.slice
  obtain ⟨a', cap', rfl⟩ := h'.slice
  clear h h'
  go_enter Tryz.func163, Tryz.ntmps163
  go_wp2
  go_loopw [5] (fun iv wr => ∃ k q : Nat, iv = .int .i64 k ∧ k ≤ ks.length ∧ wr = w.drewN q) (fun iv _ => ks.length - (intOf iv).toNat)
  case atStart => exact ⟨0, 0, rfl, Nat.zero_le _, rfl⟩
  case round =>
    obtain ⟨k, q, rfl, hk, hwr⟩ := hrel
    have HW : Hid (wr = w.drewN q) := hwr
    have HXr : Hid (IRow wr (.slice a ks.length cap) ks) := by rw [HW.out]; exact HX.out.below (bel_drewN (Below.refl _ _) q)
    have HYr : Hid (IRow wr (.slice a' ks.length cap') ks) := by rw [HW.out]; exact HY.out.below (bel_drewN (Below.refl _ _) q)
    clear hwr
    by_cases hlt : k < ks.length
    · obtain ⟨b, off, rfl, hc1⟩ := HXr.out.at hlt
      obtain ⟨b', off', rfl, hc2⟩ := HYr.out.at hlt
      have i4 : (k : Int) < (ks.length : Int) := by omega
      go_wp2
      go_big_quiet (fail)
      go_wp2
      go_roundw
      case rel => exact ⟨k + 1, q + nq, by go_num, by omega, by rw [HW.out, World.drewN_drewN]⟩
      case measure => simp [intOf]; omega
    · obtain rfl : k = ks.length := by omega
      go_wp2
      go_ret
      exact ⟨rfl, q, HW.out⟩

set_option maxHeartbeats 1600000 in
theorem eqExNode_same (op num : Int) (name : ByteArray) (u v : Value) (ks : List Int) (w : World) (hx : ks.length ≤ 1048576) (h : IRow w u ks) (h' : IRow w v ks) :
    Calls Tryz.prog 159 #[.agg #[.int .i64 op, .int .i64 num, .string name, u], .agg #[.int .i64 op, .int .i64 num, .string name, v]] w fun e w' => e = .returned (.bool true) ∧ Below w.heap.size w w' := by
  have hb := beq_yes (rfl : name = name)
  have BW : Hid (Below w.heap.size w ((w.alloc (.cells #[.int .i64 op, .int .i64 num, .string name, u] 71)).alloc (.cells #[.int .i64 op, .int .i64 num, .string name, v] 71))) := ((Below.refl _ _).alloc (Nat.le_refl _) _).alloc (by simp) _
  have HE : Hid (_) := eqIntS_same u v ks _ hx (h.below BW.out) (h'.below BW.out)
  obtain ⟨a, cap, rfl⟩ := h.slice
  obtain ⟨a', cap', rfl⟩ := h'.slice
  clear h h'
  go_enter Tryz.func159, Tryz.ntmps159
  go_wp2_with fail
  refine Calls.mono HE.out ?_
  rintro e w1 ⟨rfl, q, hq⟩
  have B1 : Hid (Below w.heap.size w w1) := by rw [hq]; exact bel_drewN BW.out q
  clear hq HE
  go_wp2
  go_ret
  exact ⟨rfl, B1.out⟩

theorem cells_keep8 {W W' : World} {a b c d a' b' c' d' : Addr} {x y z u x' y' z' u' : Value} (h : W.cell? a = some x ∧ W.cell? b = some y ∧ W.cell? c = some z ∧ W.cell? d = some u ∧ W.cell? a' = some x' ∧ W.cell? b' = some y' ∧ W.cell? c' = some z' ∧ W.cell? d' = some u') (hb : Below W.heap.size W W') :
    W'.cell? a = some x ∧ W'.cell? b = some y ∧ W'.cell? c = some z ∧ W'.cell? d = some u ∧ W'.cell? a' = some x' ∧ W'.cell? b' = some y' ∧ W'.cell? c' = some z' ∧ W'.cell? d' = some u' :=
  ⟨cell_keep h.1 hb, cell_keep h.2.1 hb, cell_keep h.2.2.1 hb, cell_keep h.2.2.2.1 hb, cell_keep h.2.2.2.2.1 hb, cell_keep h.2.2.2.2.2.1 hb, cell_keep h.2.2.2.2.2.2.1 hb, cell_keep h.2.2.2.2.2.2.2 hb⟩

set_option maxHeartbeats 3200000 in
theorem eqExNodeS_same (u v : Value) (ns : List NodeD) (w : World) (hn : ns.length ≤ 1048576) (hz : ∀ x ∈ ns, x.kids.length ≤ 1048576) (h : NRow w u ns) (h' : NRow w v ns) :
    Calls Tryz.prog 147 #[u, v] w fun e w' => e = .returned (.bool true) ∧ Below w.heap.size w w' := by
  have HX : Hid (NRow w u ns) := h
  have HY : Hid (NRow w v ns) := h'
  have HZ : Hid (∀ x ∈ ns, x.kids.length ≤ 1048576) := hz
  obtain ⟨a, cap, rfl⟩ := h.slice
  obtain ⟨a', cap', rfl⟩ := h'.slice
  clear h h' hz
  go_enter Tryz.func147, Tryz.ntmps147
  go_wp2
  go_loopw [5] (fun iv wr => ∃ k : Nat, iv = .int .i64 k ∧ k ≤ ns.length ∧ Below w.heap.size w wr) (fun iv _ => ns.length - (intOf iv).toNat)
  case atStart => exact ⟨0, rfl, Nat.zero_le _, Below.refl _ _⟩
  case round =>
    obtain ⟨k, rfl, hk, hb⟩ := hrel
    have HB : Hid (Below w.heap.size w wr) := hb
    have HXr : Hid (NRow wr (.slice a ns.length cap) ns) := HX.out.below hb
    have HYr : Hid (NRow wr (.slice a' ns.length cap') ns) := HY.out.below hb
    clear hb
    by_cases hlt : k < ns.length
    · obtain ⟨b, off, kv, rfl, n0, n1, n2, n3, hI⟩ := HXr.out.at hlt
      obtain ⟨b', off', kv', rfl, m0, m1, m2, m3, hI'⟩ := HYr.out.at hlt
      have i4 : (k : Int) < (ns.length : Int) := by omega
      have HE : Hid (_) := eqExNode_same ns[k].op ns[k].num ns[k].name kv kv' ns[k].kids wr.drew (HZ.out _ (List.getElem_mem hlt)) (hI.below (bel_drewN (Below.refl _ _) 1)) (hI'.below (bel_drewN (Below.refl _ _) 1))
      clear hI hI'
      generalize ns[k].op = op at *
      generalize ns[k].num = num at *
      generalize ns[k].name = name at *
      go_wp2
      go_region_held3 (fun W => W.cell? ⟨b, off + k * 4, none⟩ = some (.int .i64 op) ∧ W.cell? ⟨b, off + k * 4 + 1, none⟩ = some (.int .i64 num) ∧ W.cell? ⟨b, off + k * 4 + 2, none⟩ = some (.string name) ∧ W.cell? ⟨b, off + k * 4 + 3, none⟩ = some kv ∧ W.cell? ⟨b', off' + k * 4, none⟩ = some (.int .i64 op) ∧ W.cell? ⟨b', off' + k * 4 + 1, none⟩ = some (.int .i64 num) ∧ W.cell? ⟨b', off' + k * 4 + 2, none⟩ = some (.string name) ∧ W.cell? ⟨b', off' + k * 4 + 3, none⟩ = some kv')
        ((first | exact cells_keep8 (by assumption) hb2 | go_keep))
        ((first | (go_at_call 159; refine Calls.mono HE.out ?_; rintro e w2 ⟨rfl, hb2⟩)))
      have HB2 : Hid (Below w.heap.size w w2) := HB.out.trans ((bel_of_drew hb2).mono HB.out.size)
      clear hb2
      go_wp2
      go_roundw
      case rel => exact ⟨k + 1, by go_num, by omega, HB2.out⟩
      case measure => simp [intOf]; omega
    · obtain rfl : k = ns.length := by omega
      go_wp2
      go_ret
      exact ⟨rfl, HB.out⟩

theorem eqExpr_same (u v : Value) (ns : List NodeD) (w : World) (hn : ns.length ≤ 1048576) (hz : ∀ x ∈ ns, x.kids.length ≤ 1048576) (h : NRow w u ns) (h' : NRow w v ns) :
    Calls Tryz.prog 127 #[.agg #[u], .agg #[v]] w fun e w' => e = .returned (.bool true) ∧ Below w.heap.size w w' := by
  have BW : Hid (Below w.heap.size w ((w.alloc (.cells #[u] 52)).alloc (.cells #[v] 52))) := ((Below.refl _ _).alloc (Nat.le_refl _) _).alloc (by simp) _
  have HE : Hid (_) := eqExNodeS_same u v ns _ hn hz (h.below BW.out) (h'.below BW.out)
  obtain ⟨a, cap, rfl⟩ := h.slice
  obtain ⟨a', cap', rfl⟩ := h'.slice
  clear h h' hz
  go_enter Tryz.func127, Tryz.ntmps127
  go_wp2_with fail
  refine Calls.mono HE.out ?_
  rintro e w1 ⟨rfl, hb1⟩
  have B1 : Hid (Below w.heap.size w w1) := BW.out.trans (hb1.mono BW.out.size)
  clear hb1 HE
  go_wp2
  go_ret
  exact ⟨rfl, B1.out⟩

end Go.Proofs.YtcnkegkffmcdmaaGreatDoor
