/- EnvSet of the specification. -/
import Derived.Test.YtneobgikailhjabDoorVKit
import Derived.Laws.AppendOwnNone
namespace Go.Proofs.YtneobgikailhjabDoor
open Go.RowKit

def ltS (a b : ByteArray) : Bool := Op.bytesLess a.toList b.toList
/-- Greater, as the program asks it. -/
def gtS (a b : ByteArray) : Bool := !(Op.bytesLess a.toList b.toList || a.toList == b.toList)
/-- With this number, in its place. -/
def putB (xs : List VarD) (name : ByteArray) (num : Int) : List VarD := xs.filter (fun x => ltS x.1 name) ++ [(name, num)] ++ xs.filter (fun x => gtS x.1 name)

/-- What EnvSet leaves, and whether it is right. -/
def setOk (xs : List VarD) (name : ByteArray) (num : Int) : Bool := envB (putB xs name num)
def setL (xs : List VarD) (name : ByteArray) (num : Int) : List VarD := if envB (putB xs name num) = true then putB xs name num else xs
theorem setL_yes {xs : List VarD} {name : ByteArray} {num : Int} (h : envB (putB xs name num) = true) : setL xs name num = putB xs name num := if_pos h
theorem setL_no {xs : List VarD} {name : ByteArray} {num : Int} (h : envB (putB xs name num) = false) : setL xs name num = xs := if_neg (by simp [h])

theorem two_at (w : World) (x y : Value) (t : TypeId) : ∀ j u, [x, y][j]? = some u → (w.alloc (.cells #[x, y] t)).cell? ((⟨w.heap.size, 0, none⟩ : Addr).add j) = some u := by
  intro j u h
  have hb : (w.alloc (.cells #[x, y] t)).heap[w.heap.size]? = some (.cells #[x, y] t) := heap_alloc_new w _
  rw [Addr.add_lit, Nat.zero_add, cell_of_row _ _ j _ _ _ hb]
  simpa using h
theorem two_cell (s : ByteArray) (n : Int) : ∀ u ∈ [Value.string s, Value.int .i64 n], u.oneCell' = true := by
  intro u hu
  rcases List.mem_cons.1 hu with rfl | hu
  · rfl
  · rcases List.mem_cons.1 hu with rfl | hu
    · rfl
    · cases hu

/-- A list that grows: what an append of one more leaves. -/
theorem ownV_snoc {B : Nat} {o v' : Value} {ys : List VarD} {x : VarD} {wr w2 : World} {ob : Obj} (hown2 : w2.ownsRow B 32 2 v' (ys.length + 1) (vv ys ++ [.string x.1, .int .i64 x.2])) (hown : OwnV B o ys wr) (hgrow : (wr.alloc ob).grownBy w2 o.ownBlock)
    {w : World} (hw : B = w.heap.size) (hb : Below w.heap.size w wr) : OwnV B v' (ys ++ [x]) w2 ∧ Below w.heap.size w w2 := by
  subst hw
  refine ⟨?_, ?_⟩
  · rw [OwnV, vv_app, vv_one, List.length_append]
    exact hown2
  · exact (hb.alloc hb.size ob).grown hgrow (by have := hb.size; simp; omega) (fun k hk => (hown.lt k hk).1)

theorem VRow.nil {w : World} {n cap : Nat} {xs : List VarD} (h : VRow w (.slice none n cap) xs) : cap = 0 ∧ xs.length = 0 := by
  obtain ⟨a, c, e, h1, h2⟩ := h
  cases e
  refine ⟨h1 rfl, ?_⟩
  rcases Nat.eq_zero_or_pos xs.length with h | h
  · exact h
  · obtain ⟨_, _, e, _⟩ := h2 h
    cases e
theorem vv_split (xs : List VarD) (j : Nat) (u : Value) (h : (vv xs)[j]? = some u) : ∃ i, ∃ hi : i < xs.length, (j = i * 2 ∧ u = .string xs[i].1) ∨ (j = i * 2 + 1 ∧ u = .int .i64 xs[i].2) := by
  have hj : j < xs.length * 2 := by
    have := (List.getElem?_eq_some_iff.1 h).1
    rwa [vv_len] at this
  refine ⟨j / 2, by omega, ?_⟩
  have := vv_at xs (j / 2) (by omega)
  rcases Nat.mod_two_eq_zero_or_one j with h0 | h0
  · left
    have e : j / 2 * 2 = j := by omega
    rw [e] at this
    exact ⟨e.symm, Option.some.inj (h.symm.trans this.1)⟩
  · right
    have e : j / 2 * 2 + 1 = j := by omega
    rw [e] at this
    exact ⟨e.symm, Option.some.inj (h.symm.trans this.2)⟩
theorem vv_cells (xs : List VarD) : ∀ u ∈ vv xs, u.oneCell' = true := by
  intro u hu
  obtain ⟨j, hj, rfl⟩ := List.getElem_of_mem hu
  obtain ⟨i, hi, h | h⟩ := vv_split xs j _ (List.getElem?_eq_getElem hj)
  · rw [h.2]; rfl
  · rw [h.2]; rfl
/-- The cells of a list, behind a new block. -/
theorem VRow.news {w : World} {ad : Addr} {n cap : Nat} {xs : List VarD} (h : VRow w (.slice (some ad) n cap) xs) (o : Obj) : ∀ j u, (vv xs)[j]? = some u → (w.alloc o).cell? (ad.add j) = some u := by
  intro j u hu
  have hb := (Below.refl w.heap.size w).alloc (Nat.le_refl _) o
  obtain ⟨i, hi, hh⟩ := vv_split xs j u hu
  obtain ⟨b, off, e, h1, h2⟩ := h.at hi
  cases e
  rw [Addr.add_lit]
  rcases hh with ⟨rfl, rfl⟩ | ⟨rfl, rfl⟩
  · exact cell_keep h1 hb
  · rw [← Nat.add_assoc]; exact cell_keep h2 hb

theorem filt_next (p : VarD → Bool) (xs : List VarD) (k : Nat) (h : k < xs.length) : (xs.take (k + 1)).filter p = (xs.take k).filter p ++ (if p xs[k] = true then [xs[k]] else []) := by
  rw [List.take_succ_eq_append_getElem h, List.filter_append, List.filter_cons, List.filter_nil]



end Go.Proofs.YtneobgikailhjabDoor
