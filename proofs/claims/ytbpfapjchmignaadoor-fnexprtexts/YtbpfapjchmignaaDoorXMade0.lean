/- Drawn expressions: the list behind a pointer, to which nodes are put one by one: what is kept. -/
import Derived.Test.YtbpfapjchmignaaDoorXKit3
import Derived.Test.YtbpfapjchmignaaDoorEnvDraw
import Derived.Deep.AppendLies
namespace Go.Proofs.YtbpfapjchmignaaDoor
open Go.RowKit

/-- The box that a pointer to the list points to. -/
def Box (bo : Nat) (o : Value) (w : World) : Prop := w.heap[bo]? = some (.cells #[o] 24 (0, 0))
theorem Box.cell {bo : Nat} {o : Value} {w : World} (h : Box bo o w) : w.cell? ⟨bo, 0, none⟩ = some o := by
  rw [cell_of_row _ _ 0 _ _ _ h]; rfl
theorem Box.frozen {bo : Nat} {o : Value} {w : World} (h : Box bo o w) : w.frozen? ⟨bo, 0, none⟩ = false := by
  have h' : w.heap[bo]? = some (.cells #[o] 24 (0, 0)) := h
  simp [World.frozen?, h']
theorem Box.lt {bo : Nat} {o : Value} {w : World} (h : Box bo o w) : bo < w.heap.size := (Array.getElem?_eq_some_iff.1 h).1
/-- What is kept: all but the cursor, the box and the list's own row. -/
structure Keep (g bo : Nat) (o : Value) (w w' : World) : Prop where
  os : w'.os = w.os
  tape : w'.tape = w.tape
  output : w'.output = w.output
  size : w.heap.size ≤ w'.heap.size
  block : ∀ k, k < w.heap.size → k ≠ g → k ≠ bo → o.ownBlock ≠ some k → w'.heap[k]? = w.heap[k]?
theorem Keep.refl (g bo : Nat) (o : Value) (w : World) : Keep g bo o w w := ⟨rfl, rfl, rfl, Nat.le_refl _, fun _ _ _ _ _ => rfl⟩
theorem Keep.trans {g bo : Nat} {o o1 : Value} {w w1 w2 : World} (h : Keep g bo o w w1) (k : Keep g bo o1 w1 w2) (ho : o1.ownBlock = o.ownBlock ∨ ∀ b, o1.ownBlock = some b → w.heap.size ≤ b) : Keep g bo o w w2 :=
  ⟨k.os.trans h.os, k.tape.trans h.tape, k.output.trans h.output, Nat.le_trans h.size k.size, fun b hb h1 h2 h3 => (k.block b (Nat.lt_of_lt_of_le hb h.size) h1 h2 (fun e => by
    rcases ho with e1 | e1
    · exact h3 (e1.symm.trans e)
    · have := e1 b e; omega)).trans (h.block b hb h1 h2 h3)⟩
theorem Keep.went {g bo : Nat} {o : Value} {W : World} {v : Value} {n : Nat} {w w' : World} (h : Went W v n g w w') : Keep g bo o w w' :=
  ⟨h.2.os, h.2.tape, h.2.output, h.2.size, fun k hk h1 _ _ => h.2.block k hk (fun e => h1 (Option.some.inj e))⟩
theorem Keep.below {g bo : Nat} {o : Value} {w w' : World} (h : Below w.heap.size w w') : Keep g bo o w w' :=
  ⟨h.os, h.tape, h.output, h.size, fun k hk _ _ _ => h.block k hk⟩
theorem Keep.bel {g bo B : Nat} {o : Value} {w w' : World} (h : Keep g bo o w w') (hB : B ≤ w.heap.size) (hg : B ≤ g) (hb : B ≤ bo) (ho : ∀ k, o.ownBlock = some k → B ≤ k) : Below B w w' :=
  ⟨h.os, h.tape, h.output, h.size, fun k hk => h.block k (by omega) (by omega) (by omega) (fun e => by have := ho k e; omega)⟩
/-- Rows of another kind are other blocks. -/
theorem own_off {B : Nat} {e : TypeId} {s n : Nat} {v : Value} {cs : List Value} {w : World} {k : Nat} {c : Array Value} {t : TypeId} {fr : Nat × Nat} (h : w.ownsRow B e s v n cs) (hk : w.heap[k]? = some (.cells c t fr)) (hne : t ≠ e) : v.ownBlock ≠ some k := by
  rcases h.2 with ⟨rfl, _⟩ | ⟨g, cap, cur, rfl, _, hc, _⟩
  · intro e; cases e
  · intro e
    obtain rfl : g = k := Option.some.inj e
    rw [hk] at hc
    cases hc
    exact hne rfl
theorem own_ne2 {B B' : Nat} {e e' : TypeId} {s s' n n' : Nat} {v v' : Value} {cs cs' : List Value} {w : World} (h : w.ownsRow B e s v n cs) (h' : w.ownsRow B' e' s' v' n' cs') (hne : e ≠ e') : v.ownBlock = none ∨ v.ownBlock ≠ v'.ownBlock := by
  rcases h.2 with ⟨rfl, _⟩ | ⟨g, cap, cur, rfl, _, hc, _⟩
  · exact .inl rfl
  · refine .inr (fun eq => ?_)
    rcases h'.2 with ⟨rfl, _⟩ | ⟨g', cap', cur', rfl, _, hc', _⟩
    · cases eq
    · obtain rfl : g = g' := Option.some.inj eq
      rw [hc] at hc'
      cases hc'
      exact hne rfl
theorem own_same {B : Nat} {e : TypeId} {s n : Nat} {v : Value} {cs : List Value} {w w' : World} (h : w.ownsRow B e s v n cs) (hb : ∀ k, v.ownBlock = some k → w'.heap[k]? = w.heap[k]?) : w'.ownsRow B e s v n cs := by
  refine ⟨h.1, ?_⟩
  rcases h.2 with h1 | ⟨g, cap, cur, rfl, hB, hc, r⟩
  · exact .inl h1
  · exact .inr ⟨g, cap, cur, rfl, hB, (hb g rfl).trans hc, r⟩
theorem cur_block {W : World} {v : Value} {n g : Nat} {w : World} (h : Cur W v n g w) : ∃ c, w.heap[g]? = some (.cells c 53 (0, 0)) := by
  obtain ⟨_, _, i, hh, _, _, _, _, h7⟩ := h
  exact ⟨_, h7⟩
/-- Nodes of the call's own, the blocks of whose kids' lists are so. -/
def OwnNR (B : Nat) (R : Nat → Prop) (v : Value) (ns : List NodeD) (w : World) : Prop :=
  ∃ qs : List (NodeD × Value), qs.map (·.1) = ns ∧ w.ownsRow B 32 4 v qs.length (nv qs) ∧ ∀ q ∈ qs, OwnZ B q.2 q.1.kids w ∧ ∀ b, q.2.ownBlock = some b → R b
theorem OwnNR.own {B : Nat} {R : Nat → Prop} {v : Value} {ns : List NodeD} {w : World} (h : OwnNR B R v ns w) : OwnN B v ns w := by
  obtain ⟨qs, e, hr, hk⟩ := h
  exact ⟨qs, e, hr, fun q hq => (hk q hq).1⟩
theorem OwnNR.mono {B : Nat} {R R' : Nat → Prop} {v : Value} {ns : List NodeD} {w : World} (h : OwnNR B R v ns w) (hR : ∀ b, b < w.heap.size → R b → R' b) : OwnNR B R' v ns w := by
  obtain ⟨qs, e, hr, hk⟩ := h
  exact ⟨qs, e, hr, fun q hq => ⟨(hk q hq).1, fun b hb => hR b (World.ownsRow.lt (hk q hq).1 b hb).2 ((hk q hq).2 b hb)⟩⟩
theorem OwnNR.lt {B : Nat} {R : Nat → Prop} {o : Value} {ns : List NodeD} {w : World} (h : OwnNR B R o ns w) : ∀ k, o.ownBlock = some k → B ≤ k ∧ k < w.heap.size := by
  obtain ⟨qs, e, hr, hk⟩ := h
  exact fun k hk => World.ownsRow.lt hr k hk
theorem OwnNR.below {B : Nat} {R : Nat → Prop} {v : Value} {ns : List NodeD} {w w' : World} (h : OwnNR B R v ns w) (hb : Below w.heap.size w w') : OwnNR B R v ns w' := by
  obtain ⟨qs, e, h, hk⟩ := h
  exact ⟨qs, e, own_below h hb, fun q hq => ⟨(hk q hq).1.below hb, (hk q hq).2⟩⟩
/-- The list stays where the cursor alone goes on. -/
theorem ownNR_went {B : Nat} {R : Nat → Prop} {o : Value} {ns : List NodeD} {W : World} {v : Value} {n g : Nat} {w w' : World} (h : OwnNR B R o ns w) (hc : Cur W v n g w) (hw : Went W v n g w w') : OwnNR B R o ns w' := by
  obtain ⟨qs, e, hr, hk⟩ := h
  obtain ⟨c, hcb⟩ := cur_block hc
  have key : ∀ {e : TypeId} {s n' : Nat} {u : Value} {cs : List Value}, w.ownsRow B e s u n' cs → 53 ≠ e → w'.ownsRow B e s u n' cs := fun h1 hne => own_same h1 fun k hk' => hw.2.block k (World.ownsRow.lt h1 k hk').2 (fun e1 => own_off h1 hcb hne (hk'.trans e1))
  exact ⟨qs, e, key hr (by decide), fun q hq => ⟨key (hk q hq).1 (by decide), (hk q hq).2⟩⟩
theorem box_went {bo : Nat} {o : Value} {W : World} {v : Value} {n g : Nat} {w w' : World} (h : Box bo o w) (hc : Cur W v n g w) (hw : Went W v n g w w') : Box bo o w' := by
  obtain ⟨c, hcb⟩ := cur_block hc
  refine (hw.2.block bo h.lt (fun e => ?_)).trans h
  obtain rfl : bo = g := Option.some.inj e
  have h' : w.heap[bo]? = some (.cells #[o] 24 (0, 0)) := h
  rw [h'] at hcb
  cases hcb
theorem box_below {bo : Nat} {o : Value} {w w' : World} (h : Box bo o w) (hb : Below w.heap.size w w') : Box bo o w' := (hb.block bo h.lt).trans h
theorem ownZ_went {B : Nat} {o : Value} {ks : List Int} {W : World} {v : Value} {n g : Nat} {w w' : World} (h : OwnZ B o ks w) (hc : Cur W v n g w) (hw : Went W v n g w w') : OwnZ B o ks w' := by
  obtain ⟨c, hcb⟩ := cur_block hc
  exact own_same h fun k hk' => hw.2.block k (World.ownsRow.lt h k hk').2 (fun e1 => own_off h hcb (by decide) (hk'.trans e1))
/-- A list of numbers of the call's own stays where nodes are put. -/
theorem ownZ_keep {B bo : Nat} {o ok : Value} {ks : List Int} {ns : List NodeD} {W : World} {v : Value} {n g : Nat} {w w' : World} (h : OwnZ B ok ks w) (hc : Cur W v n g w) (hb : Box bo o w) {R : Nat → Prop} (ho : OwnNR B R o ns w) (hw : Keep g bo o w w') : OwnZ B ok ks w' := by
  obtain ⟨c, hcb⟩ := cur_block hc
  obtain ⟨qs, e, hr, hk⟩ := ho
  refine own_same h fun k hk' => hw.block k (World.ownsRow.lt h k hk').2 (fun e1 => ?_) (fun e1 => ?_) (fun e1 => ?_)
  · subst e1; exact own_off h hcb (by decide) hk'
  · subst e1; exact own_off h hb (by decide) hk'
  · rcases own_ne2 hr h (by decide) with h1 | h1
    · rw [h1] at e1; cases e1
    · exact h1 (e1.trans hk'.symm)
/-- A name out of a list, where there is one. -/
def NmOk (ss : List ByteArray) (x : NodeD) : Prop := x.op = 2 → x.name ∈ ss
/-- Nodes that are right, with names out of a list. -/
def GoodN (ss : List ByteArray) (ns : List NodeD) : Prop := ∀ k (h : k < ns.length), nodeB k ns[k] = true ∧ (ns[k].op = 2 → ns[k].name ∈ ss)
theorem goodN_snoc {ss : List ByteArray} {ns : List NodeD} {x : NodeD} (h : GoodN ss ns) (hx : nodeB ns.length x = true) (h2 : x.op = 2 → x.name ∈ ss) : GoodN ss (ns ++ [x]) := by
  intro k hk
  rw [List.length_append, List.length_singleton] at hk
  by_cases e : k < ns.length
  · rw [List.getElem_append_left e]; exact h k e
  · obtain rfl : k = ns.length := by omega
    rw [List.getElem_append_right (Nat.le_refl _)]
    simpa using ⟨hx, h2⟩
/-- The list with one more node. -/
theorem ownNR_snoc {B : Nat} {R : Nat → Prop} {o' : Value} {ns : List NodeD} {qs : List (NodeD × Value)} {x : NodeD} {kv : Value} {w' : World} (e : qs.map (·.1) = ns) (hk : ∀ q ∈ qs, OwnZ B q.2 q.1.kids w' ∧ ∀ b, q.2.ownBlock = some b → R b) (hx : OwnZ B kv x.kids w') (hxR : ∀ b, kv.ownBlock = some b → R b)
    (hr : w'.ownsRow B 32 4 o' (qs.length + 1) (nv qs ++ [.int .i64 x.op, .int .i64 x.num, .string x.name, kv])) : OwnNR B R o' (ns ++ [x]) w' := by
  refine ⟨qs ++ [(x, kv)], by rw [List.map_append, e]; rfl, ?_, fun q hq => ?_⟩
  · rw [List.length_append, nv_app]
    exact hr
  · rcases List.mem_append.1 hq with h | h
    · exact hk q h
    · obtain rfl : q = (x, kv) := by simpa using h
      exact ⟨hx, hxR⟩
theorem four_cells (a b : Int) (s : ByteArray) (o : Option Addr) (l c : Nat) : ∀ u ∈ [Value.int .i64 a, .int .i64 b, .string s, .slice o l c], u.oneCell' = true := by
  intro u hu
  simp only [List.mem_cons, List.not_mem_nil, or_false] at hu
  rcases hu with rfl | rfl | rfl | rfl <;> rfl
end Go.Proofs.YtbpfapjchmignaaDoor
