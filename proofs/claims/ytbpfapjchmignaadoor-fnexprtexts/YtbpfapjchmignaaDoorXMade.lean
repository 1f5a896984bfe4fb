/- The verifier's l04Made: a drawn expression's nodes, put into a list behind a pointer. -/
import Derived.Test.YtbpfapjchmignaaDoorXMade0
import Derived.Test.YtbpfapjchmignaaDoorXOk
import Derived.Deep.RegionLaw
namespace Go.Proofs.YtbpfapjchmignaaDoor
open Go.RowKit

/-- The names that may be drawn, as they lie in memory. -/
def NamesAt (nb : Nat) (ss : List ByteArray) (w : World) : Prop := ∀ i (h : i < ss.length), w.cell? ⟨nb, i, none⟩ = some (.string ss[i])
theorem names_keep {nb g bo : Nat} {ss : List ByteArray} {o : Value} {w w' : World} (h : NamesAt nb ss w) (hw : Keep g bo o w w') (h1 : nb ≠ g) (h2 : nb ≠ bo) (h3 : o.ownBlock ≠ some nb) : NamesAt nb ss w' := fun i hi =>
  (World.cell?_of_block (hw.block nb (World.block_lt_of_cell? w _ (h i hi)) h1 h2 h3)).trans (h i hi)
/-- All that a call of l04Made begins with, and ends with. -/
structure MadeS (W : World) (v : Value) (n g bo B nb : Nat) (ss : List ByteArray) (R : Nat → Prop) (o : Value) (ns : List NodeD) (w : World) : Prop where
  cur : Cur W v n g w
  box : Box bo o w
  own : OwnNR B R o ns w
  good : GoodN ss ns
  names : NamesAt nb ss w
  base : B ≤ w.heap.size
theorem MadeS.mono {W : World} {v : Value} {n g bo B nb : Nat} {ss : List ByteArray} {R R' : Nat → Prop} {o : Value} {ns : List NodeD} {w : World} (h : MadeS W v n g bo B nb ss R o ns w) (hR : ∀ b, b < w.heap.size → R b → R' b) : MadeS W v n g bo B nb ss R' o ns w :=
  ⟨h.cur, h.box, h.own.mono hR, h.good, h.names, h.base⟩
theorem MadeS.went {W : World} {v : Value} {n g bo B nb : Nat} {ss : List ByteArray} {R : Nat → Prop} {o : Value} {ns : List NodeD} {w w' : World} (h : MadeS W v n g bo B nb ss R o ns w) (hw : Went W v n g w w') (h1 : nb ≠ g) (h2 : nb ≠ bo) (h3 : nb < B) : MadeS W v n g bo B nb ss R o ns w' :=
  ⟨hw.1, box_went h.box h.cur hw, ownNR_went h.own h.cur hw, h.good, names_keep (o := o) (bo := bo) h.names (Keep.went hw) h1 h2 (fun e => by have := (h.own.lt nb e).1; omega), Nat.le_trans h.base hw.2.size⟩
theorem MadeS.below {W : World} {v : Value} {n g bo B nb : Nat} {ss : List ByteArray} {R : Nat → Prop} {o : Value} {ns : List NodeD} {w w' : World} (h : MadeS W v n g bo B nb ss R o ns w) (hb : Below w.heap.size w w') (h1 : nb ≠ g) (h2 : nb ≠ bo) (h3 : nb < B) : MadeS W v n g bo B nb ss R o ns w' :=
  ⟨h.cur.moved (h.cur.1.trans (hb.mono h.cur.1.size)) (hb.block g h.cur.lt), box_below h.box hb, h.own.below hb, h.good, names_keep (g := g) (o := o) (bo := bo) h.names (Keep.below hb) h1 h2 (fun e => by have := (h.own.lt nb e).1; omega), Nat.le_trans h.base hb.size⟩
/-- The new list lies where it did, or in a block that is new. -/
def NewAt (w : World) (o o' : Value) : Prop := o'.ownBlock = o.ownBlock ∨ ∀ b, o'.ownBlock = some b → w.heap.size ≤ b
theorem NewAt.trans {w w1 : World} {o o1 o2 : Value} (h : NewAt w o o1) (k : NewAt w1 o1 o2) (hs : w.heap.size ≤ w1.heap.size) : NewAt w o o2 := by
  rcases k with e | e
  · rcases h with e1 | e1
    · exact .inl (e.trans e1)
    · exact .inr (fun b hb => e1 b (e ▸ hb))
  · exact .inr (fun b hb => Nat.le_trans hs (e b hb))
theorem box_set {bo : Nat} {o : Value} {w : World} (h : w.heap[bo]? = some (.cells #[o] 24 (0, 0))) (u : Value) : Box bo u (w.setCell ⟨bo, 0, none⟩ u) := by
  simp [Box, World.setCell, Array.getElem?_modify, h]
/-- A node put at the list's end: what the append and the store into the box leave. -/
theorem put_node {W : World} {v : Value} {n g bo B nb : Nat} {ss : List ByteArray} {R : Nat → Prop} {o : Value} {ns : List NodeD} {w w3 : World} {x : NodeD} {kv : Value} {gg cap : Nat} {ob : Obj} {qs : List (NodeD × Value)}
    (h : MadeS W v n g bo B nb ss R o ns w) (hnb : nb ≠ g) (hnb3 : nb < B) (hgB : g < B) (hbB : B ≤ bo) (e : qs.map (·.1) = ns) (hqs : ∀ q ∈ qs, OwnZ B q.2 q.1.kids w ∧ ∀ b, q.2.ownBlock = some b → R b) (hr0 : w.ownsRow B 32 4 o qs.length (nv qs)) (hx : OwnZ B kv x.kids w) (hxR : ∀ b, kv.ownBlock = some b → R b) (hgood : nodeB ns.length x = true) (hnm : NmOk ss x)
    (hr : w3.ownsRow B 32 4 (.slice (some ⟨gg, 0, none⟩) (qs.length + 1) cap) (qs.length + 1) (nv qs ++ [.int .i64 x.op, .int .i64 x.num, .string x.name, kv])) (hgr : (w.alloc ob).grownBy w3 o.ownBlock) (hat : o.ownBlock = some gg ∨ gg = w.heap.size + 1) :
    MadeS W v n g bo B nb ss R (.slice (some ⟨gg, 0, none⟩) (qs.length + 1) cap) (ns ++ [x]) (w3.setCell ⟨bo, 0, none⟩ (.slice (some ⟨gg, 0, none⟩) (qs.length + 1) cap)) ∧ Keep g bo o w (w3.setCell ⟨bo, 0, none⟩ (.slice (some ⟨gg, 0, none⟩) (qs.length + 1) cap)) ∧ NewAt w o (.slice (some ⟨gg, 0, none⟩) (qs.length + 1) cap) := by
  have hbo := h.box.lt
  have hne : o.ownBlock ≠ some bo := own_off hr0 h.box (by decide)
  have hggbo : gg ≠ bo := by
    rcases hat with e1 | e1
    · intro e2; subst e2; exact hne e1
    · omega
  have hblk : ∀ k, k < w.heap.size → o.ownBlock ≠ some k → w3.heap[k]? = w.heap[k]? := fun k hk hko => by
    rw [hgr.block k (by simp; omega) (fun e1 => hko e1.symm), Below.heap_alloc w ob k hk]
  have hset : ∀ k, k ≠ bo → (w3.setCell ⟨bo, 0, none⟩ (.slice (some ⟨gg, 0, none⟩) (qs.length + 1) cap)).heap[k]? = w3.heap[k]? := fun k hk => Below.heap_setCell w3 ⟨bo, 0, none⟩ _ k hk
  have hsz : (w3.setCell ⟨bo, 0, none⟩ (.slice (some ⟨gg, 0, none⟩) (qs.length + 1) cap)).heap.size = w3.heap.size := by simp
  have hs3 : w.heap.size + 1 ≤ w3.heap.size := by have := hgr.size; simpa using this
  have keep : Keep g bo o w (w3.setCell ⟨bo, 0, none⟩ (.slice (some ⟨gg, 0, none⟩) (qs.length + 1) cap)) :=
    ⟨hgr.os, hgr.tape, hgr.output, by rw [hsz]; omega, fun k hk _ h2 h3 => (hset k h2).trans (hblk k hk h3)⟩
  have zkeep : ∀ {u : Value} {ks : List Int}, OwnZ B u ks w → OwnZ B u ks (w3.setCell ⟨bo, 0, none⟩ (.slice (some ⟨gg, 0, none⟩) (qs.length + 1) cap)) := fun hz => ownZ_keep hz h.cur h.box h.own keep
  have hgo : o.ownBlock ≠ some g := fun e1 => by have := (h.own.lt g e1).1; omega
  refine ⟨⟨?_, ?_, ?_, goodN_snoc h.good hgood hnm, names_keep h.names keep hnb (by omega) (fun e1 => by have := (h.own.lt nb e1).1; omega), by rw [hsz]; have := h.base; omega⟩, keep, ?_⟩
  · have hW := h.cur.2.1
    refine h.cur.moved ⟨keep.os.trans h.cur.1.os, keep.tape.trans h.cur.1.tape, keep.output.trans h.cur.1.output, Nat.le_trans h.cur.1.size keep.size, fun k hk => ?_⟩ ((hset g (by omega)).trans (hblk g h.cur.lt hgo))
    exact (keep.block k (Nat.lt_of_lt_of_le hk h.cur.1.size) (by omega) (by omega) (fun e1 => by have := (h.own.lt k e1).1; omega)).trans (h.cur.1.block k hk)
  · exact box_set ((hblk bo hbo hne).trans h.box) _
  · exact ownNR_snoc e (fun q hq => ⟨zkeep (hqs q hq).1, (hqs q hq).2⟩) (zkeep hx) hxR (own_same hr fun k hk => hset k (fun e1 => by
      have e2 : gg = k := Option.some.inj hk
      omega))
  · rcases hat with e1 | e1
    · exact .inl e1.symm
    · exact .inr (fun b hb => by have e2 : gg = b := Option.some.inj hb; omega)

theorem went_set {W : World} {v : Value} {n g bx j : Nat} {u : Value} {w w' : World} (h : Went W v n g w w') (hx : w.heap.size ≤ bx) (hg : bx ≠ g) (hW : W.heap.size ≤ w.heap.size) : Went W v n g w (w'.setCell ⟨bx, j, none⟩ u) :=
  ⟨h.1.moved ⟨h.1.1.os, h.1.1.tape, h.1.1.output, by simpa using h.1.1.size, fun k hk => (Below.heap_setCell w' ⟨bx, j, none⟩ u k (by show k ≠ bx; omega)).trans (h.1.1.block k hk)⟩ (Below.heap_setCell w' ⟨bx, j, none⟩ u g (fun e => hg e.symm)),
    ⟨h.2.os, h.2.tape, h.2.output, by simpa using h.2.size, fun k hk hr => (Below.heap_setCell w' ⟨bx, j, none⟩ u k (by show k ≠ bx; omega)).trans (h.2.block k hk hr)⟩⟩
theorem box_grown {bo : Nat} {o : Value} {w1 w3 : World} (hg : w1.grownBy w3 o.ownBlock) (hb : Box bo o w1) (hne : o.ownBlock ≠ some bo) : Box bo o w3 := (hg.block bo hb.lt (fun e => hne e.symm)).trans hb
theorem box_alloc {bo : Nat} {o : Value} {w : World} (hb : Box bo o w) (ob : Obj) : Box bo o (w.alloc ob) := (Below.heap_alloc w ob bo hb.lt).trans hb
theorem lit_ints (P : Int → Prop) (w : World) (ys : List Int) (t : TypeId) (h : ∀ y ∈ ys, P y) : ∀ i, i < ys.length → ∃ y : Int, (w.alloc (.cells (ys.map (Value.int .i64 ·)).toArray t)).cell? ⟨w.heap.size, i, none⟩ = some (.int .i64 y) ∧ P y := fun i hi => by
  refine ⟨ys[i], ?_, h _ (List.getElem_mem hi)⟩
  simp
def ints1 : List Int := [1, 1, 2, 2, 3]
def ints2 : List Int := [4, 4, 5, 6, 7, 8, 9, 10, 11]
def ints3 : List Int := [0, 1, 2, 3, 9, 99]
theorem ints1_in : ∀ y ∈ ints1, 1 ≤ y ∧ y ≤ 3 := by decide
theorem ints2_in : ∀ y ∈ ints2, 4 ≤ y ∧ y ≤ 11 := by decide
theorem ints3_in : ∀ y ∈ ints3, 0 ≤ y ∧ y ≤ 99 := by decide

/-- The box of the node that is being made. -/
def XBox (bx : Nat) (op num : Int) (name : ByteArray) (kv : Value) (w : World) : Prop := w.heap[bx]? = some (.cells #[.int .i64 op, .int .i64 num, .string name, kv] 32 (0, 0))
theorem XBox.cells {bx : Nat} {op num : Int} {name : ByteArray} {kv : Value} {w : World} (h : XBox bx op num name kv w) : w.cell? ⟨bx, 0, none⟩ = some (.int .i64 op) ∧ w.cell? ⟨bx, 1, none⟩ = some (.int .i64 num) ∧ w.cell? ⟨bx, 2, none⟩ = some (.string name) ∧ w.cell? ⟨bx, 3, none⟩ = some kv :=
  ⟨by rw [cell_of_row _ _ 0 _ _ _ h]; rfl, by rw [cell_of_row _ _ 1 _ _ _ h]; rfl, by rw [cell_of_row _ _ 2 _ _ _ h]; rfl, by rw [cell_of_row _ _ 3 _ _ _ h]; rfl⟩
theorem XBox.frozen {bx : Nat} {op num : Int} {name : ByteArray} {kv : Value} {w : World} (h : XBox bx op num name kv w) (j : Nat) : w.frozen? ⟨bx, j, none⟩ = false := by
  have h' : w.heap[bx]? = some (.cells #[.int .i64 op, .int .i64 num, .string name, kv] 32 (0, 0)) := h
  simp [World.frozen?, h']
theorem XBox.lt {bx : Nat} {op num : Int} {name : ByteArray} {kv : Value} {w : World} (h : XBox bx op num name kv w) : bx < w.heap.size := (Array.getElem?_eq_some_iff.1 h).1
theorem XBox.made (w : World) (op num : Int) (name : ByteArray) (kv : Value) : XBox w.heap.size op num name kv (w.alloc (.cells #[.int .i64 op, .int .i64 num, .string name, kv] 32)) := heap_alloc_new w _
theorem XBox.same {bx : Nat} {op num : Int} {name : ByteArray} {kv : Value} {w w' : World} (h : XBox bx op num name kv w) (e : w'.heap[bx]? = w.heap[bx]?) : XBox bx op num name kv w' := e.trans h
theorem XBox.alloc {bx : Nat} {op num : Int} {name : ByteArray} {kv : Value} {w : World} (h : XBox bx op num name kv w) (ob : Obj) : XBox bx op num name kv (w.alloc ob) := (Below.heap_alloc w ob bx h.lt).trans h
theorem XBox.set1 {bx : Nat} {op num : Int} {name : ByteArray} {kv : Value} {w : World} (h : XBox bx op num name kv w) (y : Int) : XBox bx op y name kv (w.setCell ⟨bx, 1, none⟩ (.int .i64 y)) := by
  have h' : w.heap[bx]? = some (.cells #[.int .i64 op, .int .i64 num, .string name, kv] 32 (0, 0)) := h
  simp [XBox, World.setCell, Array.getElem?_modify, h']
theorem XBox.set2 {bx : Nat} {op num : Int} {name : ByteArray} {kv : Value} {w : World} (h : XBox bx op num name kv w) (y : ByteArray) : XBox bx op num y kv (w.setCell ⟨bx, 2, none⟩ (.string y)) := by
  have h' : w.heap[bx]? = some (.cells #[.int .i64 op, .int .i64 num, .string name, kv] 32 (0, 0)) := h
  simp [XBox, World.setCell, Array.getElem?_modify, h']
theorem XBox.set3 {bx : Nat} {op num : Int} {name : ByteArray} {kv : Value} {w : World} (h : XBox bx op num name kv w) (y : Value) : XBox bx op num name y (w.setCell ⟨bx, 3, none⟩ y) := by
  have h' : w.heap[bx]? = some (.cells #[.int .i64 op, .int .i64 num, .string name, kv] 32 (0, 0)) := h
  simp [XBox, World.setCell, Array.getElem?_modify, h']

theorem MadeS.drew {W : World} {v : Value} {n g bo B nb : Nat} {ss : List ByteArray} {R : Nat → Prop} {o : Value} {ns : List NodeD} {w : World} (h : MadeS W v n g bo B nb ss R o ns w) (h1 : nb ≠ g) (h2 : nb ≠ bo) (h3 : nb < B) : MadeS W v n g bo B nb ss R o ns w.drew := h.below (bel_drewN (Below.refl _ _) 1) h1 h2 h3
theorem Keep.more {g bo : Nat} {o : Value} {w w1 w2 : World} (h : Keep g bo o w w1) (h1 : w2.os = w1.os) (h2 : w2.tape = w1.tape) (h3 : w2.output = w1.output) (h4 : w1.heap.size ≤ w2.heap.size) (h5 : ∀ k, k < w.heap.size → w2.heap[k]? = w1.heap[k]?) : Keep g bo o w w2 :=
  ⟨h1.trans h.os, h2.trans h.tape, h3.trans h.output, Nat.le_trans h.size h4, fun k hk a b c => (h5 k hk).trans (h.block k hk a b c)⟩
/-- A kid put to the node that is being made. -/
theorem kid_put {W : World} {v : Value} {n g bo B nb : Nat} {ss : List ByteArray} {R : Nat → Prop} {oc kv : Value} {nsc : List NodeD} {ks : List Int} {w5 w6 : World} {bx gg cap : Nat} {op y : Int} {nm : ByteArray} {ob : Obj}
    (h : MadeS W v n g bo B nb ss R oc nsc w5) (hz : OwnZ B kv ks w5) (hxb : XBox bx op 0 nm kv w5) (hR : ∀ b, b < w5.heap.size → R b → kv.ownBlock ≠ some b) (hnb3 : nb < B) (hgB : g < B) (hbx : B ≤ bx) (hbxb : bx ≠ bo) (hoff : oc.ownBlock ≠ some bx)
    (hr : w6.ownsRow B 3 1 (.slice (some ⟨gg, 0, none⟩) (ks.length + 1) cap) (ks.length + 1) (zv ks ++ [.int .i64 y])) (hgr : (w5.alloc ob).grownBy w6 kv.ownBlock) (hat : kv.ownBlock = some gg ∨ gg = w5.heap.size + 1) :
    MadeS W v n g bo B nb ss (fun b => R b ∧ gg ≠ b) oc nsc (w6.setCell ⟨bx, 3, none⟩ (.slice (some ⟨gg, 0, none⟩) (ks.length + 1) cap)) ∧ XBox bx op 0 nm (.slice (some ⟨gg, 0, none⟩) (ks.length + 1) cap) (w6.setCell ⟨bx, 3, none⟩ (.slice (some ⟨gg, 0, none⟩) (ks.length + 1) cap)) ∧ OwnZ B (.slice (some ⟨gg, 0, none⟩) (ks.length + 1) cap) (ks ++ [y]) (w6.setCell ⟨bx, 3, none⟩ (.slice (some ⟨gg, 0, none⟩) (ks.length + 1) cap)) ∧ w6.heap.size = (w6.setCell ⟨bx, 3, none⟩ (.slice (some ⟨gg, 0, none⟩) (ks.length + 1) cap)).heap.size ∧
      ∀ k, k < w5.heap.size → k ≠ bx → kv.ownBlock ≠ some k → (w6.setCell ⟨bx, 3, none⟩ (.slice (some ⟨gg, 0, none⟩) (ks.length + 1) cap)).heap[k]? = w5.heap[k]? := by
  have hkbx : kv.ownBlock ≠ some bx := own_off hz hxb (by decide)
  have hggbx : gg ≠ bx := by
    rcases hat with e1 | e1
    · intro e2; subst e2; exact hkbx e1
    · have := hxb.lt; omega
  have hblk : ∀ k, k < w5.heap.size → kv.ownBlock ≠ some k → w6.heap[k]? = w5.heap[k]? := fun k hk hko => by
    rw [hgr.block k (by simp; omega) (fun e1 => hko e1.symm), Below.heap_alloc w5 ob k hk]
  have hset : ∀ k, k ≠ bx → (w6.setCell ⟨bx, 3, none⟩ (.slice (some ⟨gg, 0, none⟩) (ks.length + 1) cap)).heap[k]? = w6.heap[k]? := fun k hk => Below.heap_setCell w6 ⟨bx, 3, none⟩ _ k hk
  have hsz : w6.heap.size = (w6.setCell ⟨bx, 3, none⟩ (.slice (some ⟨gg, 0, none⟩) (ks.length + 1) cap)).heap.size := by simp
  have hs6 : w5.heap.size + 1 ≤ w6.heap.size := by have := hgr.size; simpa using this
  have hall : ∀ k, k < w5.heap.size → k ≠ bx → kv.ownBlock ≠ some k → (w6.setCell ⟨bx, 3, none⟩ (.slice (some ⟨gg, 0, none⟩) (ks.length + 1) cap)).heap[k]? = w5.heap[k]? := fun k hk h1 h2 => (hset k h1).trans (hblk k hk h2)
  have hkg : kv.ownBlock ≠ some g := fun e => by have := (World.ownsRow.lt hz g e).1; omega
  have hkbo : kv.ownBlock ≠ some bo := own_off hz h.box (by decide)
  have hknb : kv.ownBlock ≠ some nb := fun e => by have := (World.ownsRow.lt hz nb e).1; omega
  obtain ⟨qs, hqe, hqr, hqz⟩ := h.own
  refine ⟨⟨?_, ?_, ⟨qs, hqe, ?_, fun q hq => ⟨?_, fun b hb => ⟨(hqz q hq).2 b hb, ?_⟩⟩⟩, h.good, fun i hi => ?_, by rw [← hsz]; have := h.base; omega⟩, ?_, ?_, hsz, hall⟩
  · have hW := h.cur.2.1
    refine h.cur.moved ⟨hgr.os.trans h.cur.1.os, hgr.tape.trans h.cur.1.tape, hgr.output.trans h.cur.1.output, by rw [← hsz]; have := h.cur.1.size; omega, fun k hk => ?_⟩ (hall g h.cur.lt (by omega) hkg)
    exact (hall k (Nat.lt_of_lt_of_le hk h.cur.1.size) (by omega) (fun e => by have := (World.ownsRow.lt hz k e).1; omega)).trans (h.cur.1.block k hk)
  · exact (hall bo h.box.lt (fun e => hbxb e.symm) hkbo).trans h.box
  · refine own_same hqr fun k hk => hall k (World.ownsRow.lt hqr k hk).2 (fun e => hoff (e ▸ hk)) (fun e => ?_)
    rcases own_ne2 hz hqr (by decide) with h1 | h1
    · rw [h1] at e; cases e
    · exact h1 (e.trans hk.symm)
  · refine own_same (hqz q hq).1 fun k hk => hall k (World.ownsRow.lt (hqz q hq).1 k hk).2 (fun e => own_off (hqz q hq).1 hxb (by decide) (e ▸ hk)) (hR k (World.ownsRow.lt (hqz q hq).1 k hk).2 ((hqz q hq).2 k hk))
  · have hb2 := (World.ownsRow.lt (hqz q hq).1 b hb).2
    rcases hat with e1 | e1
    · intro e2; subst e2; exact hR gg hb2 ((hqz q hq).2 gg hb) e1
    · omega
  · have hc := h.names i hi
    exact (World.cell?_of_block (hall nb (World.block_lt_of_cell? w5 _ hc) (by omega) hknb)).trans hc
  · exact XBox.set3 (hxb.same (hblk bx hxb.lt hkbx)) _
  · have hr2 : OwnZ B (.slice (some ⟨gg, 0, none⟩) (ks.length + 1) cap) (ks ++ [y]) w6 := by
      rw [OwnZ, List.length_append, zv, List.map_append]
      exact hr
    exact own_same hr2 fun k hk => hset k (fun e => by
      have e2 : gg = k := Option.some.inj hk
      omega)
end Go.Proofs.YtbpfapjchmignaaDoor
