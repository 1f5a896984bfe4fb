/- What the verifier's l04Any leaves in memory: a right expression's nodes, copied, one field of one of them written anew. -/
import Derived.Test.YtbpfapjchmignaaDoorXDraw
namespace Go.Proofs.YtbpfapjchmignaaDoor
open Go.RowKit

def EBox (b : Nat) (u : Value) (w : World) : Prop := w.heap[b]? = some (.cells #[u] 26 (0, 0))
theorem EBox.cell {b : Nat} {u : Value} {w : World} (h : EBox b u w) : w.cell? ⟨b, 0, none⟩ = some u := by rw [cell_of_row _ _ 0 _ _ _ h]; rfl
theorem EBox.frozen {b : Nat} {u : Value} {w : World} (h : EBox b u w) : w.frozen? ⟨b, 0, none⟩ = false := by
  have h' : w.heap[b]? = some (.cells #[u] 26 (0, 0)) := h
  simp [World.frozen?, h']
theorem EBox.lt {b : Nat} {u : Value} {w : World} (h : EBox b u w) : b < w.heap.size := (Array.getElem?_eq_some_iff.1 h).1
theorem EBox.made (w : World) (u : Value) : EBox w.heap.size u (w.alloc (.cells #[u] 26)) := heap_alloc_new w _
theorem EBox.set {b : Nat} {u : Value} {w : World} (h : EBox b u w) (y : Value) : EBox b y (w.setCell ⟨b, 0, none⟩ y) := by
  have h' : w.heap[b]? = some (.cells #[u] 26 (0, 0)) := h
  simp [EBox, World.setCell, Array.getElem?_modify, h']
theorem EBox.same {b : Nat} {u : Value} {w w' : World} (h : EBox b u w) (hb : w'.heap[b]? = w.heap[b]?) : EBox b u w' := hb.trans h

theorem nIn_right {ss : List ByteArray} {ns : List NodeD} (h : GoodN ss ns) (hl : ns.length ≤ 20) : NIn ns := by
  refine ⟨by omega, fun x hx => ?_⟩
  obtain ⟨k, hk, rfl⟩ := List.getElem_of_mem hx
  obtain ⟨hb, hn⟩ := h k hk
  obtain ⟨ho, hkl, hf, hkd⟩ := node_parts hb
  have hk2 : ns[k].kids.length ≤ 2 := by
    unfold kidsN at hkl
    split at hkl
    · omega
    · split at hkl <;> omega
  rw [fieldsB, Bool.and_eq_true] at hf
  have hnum : 0 ≤ ns[k].num ∧ ns[k].num ≤ 99 := by
    have h1 := hf.1
    split at h1
    · rw [inI, decide_eq_true_eq] at h1; exact h1
    · rw [decide_eq_true_eq] at h1; omega
  have hnm : ns[k].name.size ≤ 4 := by
    have h1 := hf.2
    split at h1
    · rw [nameB, Bool.and_eq_true, decide_eq_true_eq] at h1; exact h1.2.2
    · rw [decide_eq_true_eq] at h1; rw [h1]; decide
  exact ⟨by omega, by omega, ⟨by omega, by omega⟩, ⟨by omega, by omega⟩, fun q hq => by have := hkd q hq; exact ⟨by omega, by omega⟩⟩

/-- The state of l04Any ahead of its switch: the result's cell, the copy's cell, the copy's row. -/
structure AnyS (W : World) (v : Value) (n g : Nat) (w0 : World) (b5 rb cap : Nat) (ns : List NodeD) (w : World) : Prop where
  went : Went W v n g w0 w
  res : EBox w0.heap.size (.slice none 0 0) w
  box : EBox b5 (.slice (some ⟨rb, 0, none⟩) ns.length cap) w
  ne : w0.heap.size < b5
  own : OwnN w0.heap.size (.slice (some ⟨rb, 0, none⟩) ns.length cap) ns w
  len : 1 ≤ ns.length ∧ ns.length ≤ 7
  nin : NIn ns

theorem ownN_same {B : Nat} {o : Value} {ns : List NodeD} {w w' : World} (h : OwnN B o ns w) (hb : ∀ k, B ≤ k → k < w.heap.size → w'.heap[k]? = w.heap[k]?) : OwnN B o ns w' := by
  obtain ⟨qs, e, hr, hk⟩ := h
  exact ⟨qs, e, own_same hr fun k hk' => hb k (World.ownsRow.lt hr k hk').1 (World.ownsRow.lt hr k hk').2, fun q hq => own_same (hk q hq) fun k hk' => hb k (World.ownsRow.lt (hk q hq) k hk').1 (World.ownsRow.lt (hk q hq) k hk').2⟩

theorem AnyS.on {W : World} {v : Value} {n g : Nat} {w0 : World} {b5 rb cap : Nat} {ns : List NodeD} {w w' : World} (h : AnyS W v n g w0 b5 rb cap ns w) (hg : g < w0.heap.size) (hw : Went W v n g w w') : AnyS W v n g w0 b5 rb cap ns w' := by
  have keep : ∀ k, w0.heap.size ≤ k → k < w.heap.size → w'.heap[k]? = w.heap[k]? := fun k h1 h2 => hw.2.block k h2 (fun e => by have := Option.some.inj e; omega)
  exact ⟨went_trans h.went hw, h.res.same (keep _ (Nat.le_refl _) h.res.lt), h.box.same (keep _ (Nat.le_of_lt h.ne) h.box.lt), h.ne, ownN_same h.own keep, h.len, h.nin⟩
theorem went_drew {W : World} {v : Value} {n g : Nat} {w : World} (h : Cur W v n g w) : Went W v n g w w.drew :=
  ⟨h.moved ⟨h.1.os, h.1.tape, h.1.output, h.1.size, h.1.block⟩ rfl, ⟨rfl, rfl, rfl, Nat.le_refl _, fun _ _ _ => rfl⟩⟩
theorem AnyS.drew {W : World} {v : Value} {n g : Nat} {w0 : World} {b5 rb cap : Nat} {ns : List NodeD} {w : World} (h : AnyS W v n g w0 b5 rb cap ns w) (hg : g < w0.heap.size) : AnyS W v n g w0 b5 rb cap ns w.drew := h.on hg (went_drew h.went.1)
theorem AnyS.alloc {W : World} {v : Value} {n g : Nat} {w0 : World} {b5 rb cap : Nat} {ns : List NodeD} {w : World} (h : AnyS W v n g w0 b5 rb cap ns w) (hg : g < w0.heap.size) (o : Obj) : AnyS W v n g w0 b5 rb cap ns (w.alloc o) := h.on hg (went_alloc h.went.1 o)

/-- A list of nodes that lies in blocks past H alone: it lies in every world that has these blocks. -/
def RowIn (H : Nat) (w : World) (o : Value) (ns : List NodeD) : Prop := ∀ w' : World, w.heap.size ≤ w'.heap.size → (∀ k, H < k → k < w.heap.size → w'.heap[k]? = w.heap[k]?) → NRow w' o ns
theorem RowIn.row {H : Nat} {w : World} {o : Value} {ns : List NodeD} (h : RowIn H w o ns) : NRow w o ns := h w (Nat.le_refl _) (fun _ _ _ => rfl)
theorem RowIn.on {H H' : Nat} {w w' : World} {o : Value} {ns : List NodeD} (h : RowIn H w o ns) (hs : w.heap.size ≤ w'.heap.size) (hk : ∀ k, H < k → k < w.heap.size → w'.heap[k]? = w.heap[k]?) (hH : H' ≤ H) : RowIn H' w' o ns :=
  fun u h1 h2 => h u (Nat.le_trans hs h1) fun k a b => (h2 k (by omega) (by omega)).trans (hk k a b)
theorem RowIn.set {H : Nat} {w : World} {o : Value} {ns : List NodeD} (h : RowIn H w o ns) {b j : Nat} (hb : b ≤ H) (u : Value) : RowIn H (w.setCell ⟨b, j, none⟩ u) o ns :=
  h.on (by simp) (fun k hk _ => Below.heap_setCell w ⟨b, j, none⟩ u k (by show k ≠ b; omega)) (Nat.le_refl _)
theorem OwnN.rowIn {H : Nat} {w : World} {o : Value} {ns : List NodeD} (h : OwnN H o ns w) {u : Value} (hr : EBox H u w) : RowIn H w o ns := by
  obtain ⟨qs, e, hr', hk⟩ := h
  have lt : ∀ {ee : TypeId} {s m : Nat} {x : Value} {cs : List Value}, ee ≠ 26 → w.ownsRow H ee s x m cs → ∀ k, x.ownBlock = some k → H < k ∧ k < w.heap.size := fun hne h1 k hk => by
    have a := World.ownsRow.lt h1 k hk
    exact ⟨Nat.lt_of_le_of_ne a.1 (fun e => own_off h1 hr (fun e2 => hne e2.symm) (by rw [hk, e])), a.2⟩
  intro w' hs hag
  exact OwnN.row (B := H) ⟨qs, e, own_same hr' fun k hk' => hag k (lt (by decide) hr' k hk').1 (lt (by decide) hr' k hk').2, fun q hq => own_same (hk q hq) fun k hk' => hag k (lt (by decide) (hk q hq) k hk').1 (lt (by decide) (hk q hq) k hk').2⟩

/-- What the switch leaves. -/
structure AnyE (W : World) (v : Value) (n g : Nat) (w0 : World) (b5 : Nat) (o : Value) (ns : List NodeD) (w : World) : Prop where
  went : Went W v n g w0 w
  res : EBox w0.heap.size (.slice none 0 0) w
  box : EBox b5 o w
  row : RowIn w0.heap.size w o ns
  nin : NIn ns

/-- The cells of the copy. -/
theorem AnyS.cells {W : World} {v : Value} {n g : Nat} {w0 : World} {b5 rb cap : Nat} {ns : List NodeD} {w : World} (h : AnyS W v n g w0 b5 rb cap ns w) {i : Nat} (hi : i < ns.length) :
    ∃ kv, NodeAt w rb (i * 4) ns[i] kv ∧ (∀ f, f < 4 → w.frozen? ⟨rb, i * 4 + f, none⟩ = false) ∧ OwnZ w0.heap.size kv ns[i].kids w ∧ kv.ownBlock ≠ some rb := by
  obtain ⟨qs, e, hr, hk⟩ := h.own
  have hl : qs.length = ns.length := by rw [← e]; simp
  have hiq : i < qs.length := by omega
  have key : ∀ j u, (nv qs)[j]? = some u → w.cell? ⟨rb, j, none⟩ = some u := fun j u hu => by
    have := World.ownsRow.cells hr (g := rb) rfl j u hu
    rwa [Addr.add_lit, Nat.zero_add] at this
  have e2 : ns[i] = qs[i].1 := by simp [← e]
  have a := nv_at qs i hiq
  have z := hk qs[i] (List.getElem_mem hiq)
  refine ⟨qs[i].2, ?_, fun f hf => ?_, by rw [e2]; exact z, fun hb => ?_⟩
  · rw [e2]; exact ⟨key _ _ a.1, key _ _ a.2.1, key _ _ a.2.2.1, key _ _ a.2.2.2, z.row⟩
  · rcases hr.2 with ⟨h0, _⟩ | ⟨g1, cap1, cur1, h0, _, hc1, _⟩
    · cases h0
    · have e1 : rb = g1 := congrArg Addr.block (Option.some.inj (Value.slice.inj h0).1)
      subst e1
      simp [World.frozen?, hc1]
  · rcases own_ne2 z hr (by decide) with h0 | h0
    · rw [h0] at hb; cases hb
    · exact h0 hb
theorem AnyS.rb {W : World} {v : Value} {n g : Nat} {w0 : World} {b5 rb cap : Nat} {ns : List NodeD} {w : World} (h : AnyS W v n g w0 b5 rb cap ns w) : w0.heap.size < rb ∧ rb < w.heap.size ∧ rb ≠ b5 := by
  obtain ⟨qs, e, hr, hk⟩ := h.own
  have h1 := World.ownsRow.lt hr rb rfl
  have h2 := own_off hr h.res (by decide)
  have h3 := own_off hr h.box (by decide)
  refine ⟨Nat.lt_of_le_of_ne h1.1 (fun e => h2 (congrArg some e.symm)), h1.2, fun e => h3 (congrArg some e)⟩

/-- A field of a node written. -/
theorem AnyS.put {W : World} {v : Value} {n g : Nat} {w0 : World} {b5 rb cap : Nat} {ns : List NodeD} {w : World} (h : AnyS W v n g w0 b5 rb cap ns w) (hg : g < w0.heap.size) {i f : Nat} (hi : i < ns.length) (hf : f < 4) (u : Value) (x : NodeD)
    (hx : NIn [x]) (hat : ∀ kv, NodeAt w rb (i * 4) ns[i] kv → OwnZ w0.heap.size kv ns[i].kids w → kv.ownBlock ≠ some rb → ∀ w' : World, (∀ j, j ≠ i * 4 + f → w'.cell? ⟨rb, j, none⟩ = w.cell? ⟨rb, j, none⟩) → w'.cell? ⟨rb, i * 4 + f, none⟩ = some u → (∀ k, w0.heap.size < k → k < w.heap.size → k ≠ rb → w'.heap[k]? = w.heap[k]?) → ∃ kv', NodeAt w' rb (i * 4) x kv') :
    ∃ ns', AnyE W v n g w0 b5 (.slice (some ⟨rb, 0, none⟩) ns.length cap) ns' (w.setCell ⟨rb, i * 4 + f, none⟩ u) := by
  obtain ⟨r1, r2, r3⟩ := h.rb
  have keep : ∀ k, k ≠ rb → (w.setCell ⟨rb, i * 4 + f, none⟩ u).heap[k]? = w.heap[k]? := fun k hk => Below.heap_setCell w ⟨rb, i * 4 + f, none⟩ u k hk
  have hW0 : W.heap.size ≤ w0.heap.size := by have := h.went.1.2.1; omega
  refine ⟨ns.set i x, went_set h.went (Nat.le_of_lt r1) (by omega) hW0, h.res.same (keep _ (by omega)), h.box.same (keep _ (fun e => r3 e.symm)), ?_, ?_⟩
  · intro w'' hsz hag
    have hsw : (w.setCell ⟨rb, i * 4 + f, none⟩ u).heap.size = w.heap.size := by simp
    rw [hsw] at hsz hag
    refine ⟨some ⟨rb, 0, none⟩, cap, by rw [List.length_set], fun e => (by cases e), fun _ => ⟨rb, 0, rfl, by omega, fun j hj => ?_⟩⟩
    rw [List.length_set] at hj
    have keep2 : ∀ k, w0.heap.size < k → k < w.heap.size → k ≠ rb → w''.heap[k]? = w.heap[k]? := fun k h1 h2 h3 => (hag k h1 h2).trans (keep k h3)
    have hrow : ∀ a : Nat, w''.cell? ⟨rb, a, none⟩ = (w.setCell ⟨rb, i * 4 + f, none⟩ u).cell? ⟨rb, a, none⟩ := fun a => World.cell?_of_block (hag rb r1 r2)
    have hoth : ∀ a : Nat, a ≠ i * 4 + f → w''.cell? ⟨rb, a, none⟩ = w.cell? ⟨rb, a, none⟩ := fun a ha => by
      rw [hrow, World.cell?_setCell_other _ _ _ _ (by intro e; injection e with _ e2; omega)]
    obtain ⟨kvi, ni, zf, zi, oi⟩ := h.cells hi
    have hsame : w''.cell? ⟨rb, i * 4 + f, none⟩ = some u := by
      rw [hrow]
      obtain ⟨n0, n1, n2, n3, _⟩ := ni
      match f, hf with
      | 0, _ => exact World.cell?_setCell_same _ _ _ n0
      | 1, _ => exact World.cell?_setCell_same _ _ _ n1
      | 2, _ => exact World.cell?_setCell_same _ _ _ n2
      | 3, _ => exact World.cell?_setCell_same _ _ _ n3
    by_cases hij : i = j
    · subst hij
      rw [List.getElem_set_self, Nat.zero_add]
      exact hat kvi ni zi oi _ hoth hsame keep2
    · rw [List.getElem_set_ne hij, Nat.zero_add]
      obtain ⟨kv, ⟨n0, n1, n2, n3, _⟩, _, z, o⟩ := h.cells hj
      have z2 : OwnZ w0.heap.size kv ns[j].kids w'' := own_same z fun k hk => keep2 k (Nat.lt_of_le_of_ne (World.ownsRow.lt z k hk).1 (fun e => own_off z h.res (by decide) (by rw [hk, e]))) (World.ownsRow.lt z k hk).2 (fun e => o (by rw [hk, e]))
      exact ⟨kv, (hoth _ (by omega)).trans n0, (hoth _ (by omega)).trans n1, (hoth _ (by omega)).trans n2, (hoth _ (by omega)).trans n3, z2.row⟩
  · refine ⟨by rw [List.length_set]; exact h.nin.1, fun y hy => ?_⟩
    rcases List.mem_or_eq_of_mem_set hy with h1 | h1
    · exact h.nin.2 y h1
    · subst h1; exact hx.2 y (List.mem_singleton.2 rfl)

/-- Nothing written. -/
theorem AnyS.stay {W : World} {v : Value} {n g : Nat} {w0 : World} {b5 rb cap : Nat} {ns : List NodeD} {w : World} (h : AnyS W v n g w0 b5 rb cap ns w) : AnyE W v n g w0 b5 (.slice (some ⟨rb, 0, none⟩) ns.length cap) ns w := by
  exact ⟨h.went, h.res, h.box, h.own.rowIn h.res, h.nin⟩
/-- No nodes. -/
theorem AnyS.noNodes {W : World} {v : Value} {n g : Nat} {w0 : World} {b5 rb cap : Nat} {ns : List NodeD} {w : World} (h : AnyS W v n g w0 b5 rb cap ns w) (hg : g < w0.heap.size) (ob : Obj) (bn : Nat) : AnyE W v n g w0 b5 (.slice (some ⟨bn, 0, none⟩) 0 0) [] ((w.alloc ob).setCell ⟨b5, 0, none⟩ (.slice (some ⟨bn, 0, none⟩) 0 0)) := by
  have h2 := h.alloc hg ob
  have hne := h.ne
  have hW0 : W.heap.size ≤ w0.heap.size := by have := h.went.1.2.1; have := h.went.1.lt; omega
  refine ⟨went_set h2.went (Nat.le_of_lt hne) (by omega) ?_, h2.res.same (Below.heap_setCell _ ⟨b5, 0, none⟩ _ _ (by show w0.heap.size ≠ b5; omega)), h2.box.set _, fun _ _ _ => ⟨_, _, rfl, fun e => (by cases e), fun h => absurd h (by simp)⟩, ⟨by decide, fun x hx => by cases hx⟩⟩
  have := h.went.1.2.1
  omega
end Go.Proofs.YtbpfapjchmignaaDoor
