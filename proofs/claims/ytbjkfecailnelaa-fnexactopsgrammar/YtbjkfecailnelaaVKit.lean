/- The laws' own helpers on lists of names with numbers: how great they are, copied, compared. -/
import Derived.Test.YtbjkfecailnelaaEnvOk
import Derived.Handy
import Derived.OwnWalk
import Derived.Laws.OwnMore
namespace Go.Proofs.Ytbjkfecailnelaa
open Go.RowKit

theorem beq_yes {a b : ByteArray} (h : a = b) : (a.toList == b.toList) = true := by rw [bytes_beq]; simpa using h
theorem beq_no {a b : ByteArray} (h : ¬ a = b) : (a.toList == b.toList) = false := by rw [bytes_beq]; simpa using h

/-- The cells of a list of names with numbers. -/
def vv (xs : List VarD) : List Value := xs.flatMap fun x => [.string x.1, .int .i64 x.2]
theorem vv_len (xs : List VarD) : (vv xs).length = xs.length * 2 := by
  induction xs with
  | nil => rfl
  | cons x xs ih => rw [vv, List.flatMap_cons, List.length_append, ← vv, ih]; simp; omega
theorem vv_app (xs ys : List VarD) : vv (xs ++ ys) = vv xs ++ vv ys := by simp [vv]
theorem vv_one (x : VarD) : vv [x] = [.string x.1, .int .i64 x.2] := rfl
theorem vv_at : ∀ (xs : List VarD) (i : Nat) (h : i < xs.length), (vv xs)[i * 2]? = some (.string xs[i].1) ∧ (vv xs)[i * 2 + 1]? = some (.int .i64 xs[i].2)
  | x :: xs, 0, _ => ⟨rfl, rfl⟩
  | x :: xs, i + 1, h => by
    have := vv_at xs i (by simpa using h)
    have e : vv (x :: xs) = [.string x.1, .int .i64 x.2] ++ vv xs := rfl
    rw [e, List.getElem?_append_right (by simp; omega), List.getElem?_append_right (by simp; omega)]
    have e1 : (i + 1) * 2 - 2 = i * 2 := by omega
    have e2 : (i + 1) * 2 + 1 - 2 = i * 2 + 1 := by omega
    simpa [e1, e2] using this


def totS (xs : List VarD) : Nat := (xs.map fun x => x.1.size).sum
theorem totS_next (xs : List VarD) (k : Nat) (h : k < xs.length) : totS (xs.take (k + 1)) = totS (xs.take k) + xs[k].1.size := by
  rw [List.take_succ_eq_append_getElem h]
  simp only [totS, List.map_append, List.sum_append, List.map_cons, List.map_nil, List.sum_cons, List.sum_nil, Nat.add_zero]
theorem totS_mem {xs : List VarD} {x : VarD} (h : x ∈ xs) : x.1.size ≤ totS xs := by
  induction xs with
  | nil => cases h
  | cons y xs ih =>
    simp only [totS, List.map_cons, List.sum_cons]
    rcases List.mem_cons.1 h with rfl | h
    · omega
    · have := ih h; simp only [totS] at this; omega






/-- What is owned is owned behind whatever makes new memory alone. -/
theorem own_below {B : Nat} {e : TypeId} {size : Nat} {v : Value} {n : Nat} {xs : List Value} {w w' : World} (h : w.ownsRow B e size v n xs) (hb : Below w.heap.size w w') : w'.ownsRow B e size v n xs := by
  refine ⟨h.1, ?_⟩
  rcases h.2 with h | ⟨g, cap, cur, rfl, hg, hc, r⟩
  · exact .inl h
  · refine .inr ⟨g, cap, cur, rfl, hg, ?_, r⟩
    rw [hb.block g (Array.getElem?_eq_some_iff.1 hc).1]
    exact hc
theorem own_cell {B : Nat} {e : TypeId} {size : Nat} {g n cap : Nat} {xs : List Value} {w : World} (h : w.ownsRow B e size (.slice (some ⟨g, 0, none⟩) n cap) n xs) (j : Nat) (hj : j < n * size) :
    ∃ c, w.cell? ⟨g, j, none⟩ = some c ∧ w.frozen? ⟨g, j, none⟩ = false := by
  rcases h.2 with ⟨h', _⟩ | ⟨g', cap', cur, h', hb, hg, _⟩
  · cases h'
  · cases h'
    have hx : j < xs.length := by rw [h.1]; exact hj
    refine ⟨xs[j], ?_, ?_⟩
    · have := h.cells (g := g) rfl j xs[j] (List.getElem?_eq_getElem hx)
      rwa [Addr.add_lit, Nat.zero_add] at this
    · unfold World.frozen?
      rw [hg]
      simp

theorem take_two (cs : List Value) (j : Nat) (a b : Value) (h : j + 1 < cs.length) : ((cs.set j a).set (j + 1) b).take (j + 2) = cs.take j ++ [a, b] := by
  apply List.ext_getElem?
  intro i
  rw [List.getElem?_take]
  by_cases h1 : i < j
  · rw [if_pos (by omega), List.getElem?_set_ne (by omega), List.getElem?_set_ne (by omega), List.getElem?_append_left (by simp; omega), List.getElem?_take, if_pos h1]
  · have hl : (cs.take j).length = j := by simp; omega
    rw [List.getElem?_append_right (by omega), hl]
    by_cases h2 : i = j
    · subst h2
      rw [if_pos (by omega), List.getElem?_set_ne (by omega), List.getElem?_set_self (by omega)]
      simp
    · by_cases h3 : i = j + 1
      · subst h3
        rw [if_pos (by omega), List.getElem?_set_self (by simpa using h)]
        simp
      · rw [if_neg (by omega), List.getElem?_eq_none (by simp; omega)]


theorem cell_keep {W W' : World} {a : Addr} {x : Value} (h : W.cell? a = some x) (hb : Below W.heap.size W W') : W'.cell? a = some x :=
  (World.cell?_of_block (hb.block _ (World.block_lt_of_cell? W a h))).trans h
theorem cells_keep4 {W W' : World} {a b c d : Addr} {x y z u : Value} (h : W.cell? a = some x ∧ W.cell? b = some y ∧ W.cell? c = some z ∧ W.cell? d = some u) (hb : Below W.heap.size W W') :
    W'.cell? a = some x ∧ W'.cell? b = some y ∧ W'.cell? c = some z ∧ W'.cell? d = some u :=
  ⟨cell_keep h.1 hb, cell_keep h.2.1 hb, cell_keep h.2.2.1 hb, cell_keep h.2.2.2 hb⟩


end Go.Proofs.Ytbjkfecailnelaa
