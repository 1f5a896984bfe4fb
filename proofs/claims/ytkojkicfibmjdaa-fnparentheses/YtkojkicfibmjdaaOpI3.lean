/- What holds of a climb wherever it stands: how many things there are, and how long they are together. -/
import Derived.Test.YtkojkicfibmjdaaOpZb
namespace Go.Proofs.Ytkojkicfibmjdaa
open Go.RowKit
set_option linter.unusedVariables false

def real13 (x : OpD) : Bool := decide (1 ≤ x.level)
def sizes13 (ts : List ByteArray) : Nat := (ts.map ByteArray.size).sum
structure Inv13 (xs : List OpD) (N : Nat) (c : CmD) : Prop where
  num : c.ts.length = (c.ws.filter real13).length + (if c.behind = true then 1 else 0)
  sz : sizes13 c.ts + 3 * c.ws.length ≤ 4 * N
  wt : ∀ x ∈ c.ws, x = par13 ∨ x ∈ xs
theorem real_of {xs : List OpD} (ho : opsB xs = true) {x : OpD} (hx : x ∈ xs) : real13 x = true := decide_eq_true (sign_one ho hx).2.1
theorem par_not_before {xs : List OpD} (ho : opsB xs = true) {y : OpD} (hy : y = par13 ∨ y ∈ xs) : before13 par13 y = false := by
  rcases hy with rfl | hy
  · decide
  · have h := (sign_one ho hy).2.1
    unfold before13 par13
    rw [decide_eq_false (show ¬ y.level < (0 : Int) by omega), decide_eq_false (show ¬ (0 : Int) = y.level by omega)]
    rfl
theorem sizes_two (x : OpD) (a b : ByteArray) (r : List ByteArray) (hx : x.sign.size = 1) : sizes13 (two13 a x b :: r) = sizes13 (b :: a :: r) + 3 := by
  have : (two13 a x b).size = a.size + x.sign.size + b.size + 2 := by
    unfold two13
    rw [ByteArray.size_append, ByteArray.size_append, ByteArray.size_append, ByteArray.size_append]
    show 1 + a.size + x.sign.size + b.size + 1 = _
    omega
  simp only [sizes13, List.map_cons, List.sum_cons]
  omega
theorem Inv13.top {xs : List OpD} {N : Nat} {ts : List ByteArray} {ws : List OpD} {x y : OpD} (ho : opsB xs = true) (h : Inv13 xs N ⟨ts, x :: ws, true⟩) (hy : y = par13 ∨ y ∈ xs) (hb : before13 x y = true) : x ∈ xs ∧ ∃ b a r, ts = b :: a :: r := by
  have hx : x ∈ xs := by
    rcases h.wt x (List.mem_cons_self ..) with rfl | hx
    · rw [par_not_before ho hy] at hb; cases hb
    · exact hx
  refine ⟨hx, ?_⟩
  have hn := h.num
  simp only [List.filter_cons, real_of ho hx, if_true, List.length_cons] at hn
  match ts, hn with
  | b :: a :: r, _ => exact ⟨b, a, r, rfl⟩
  | [_], hn => simp at hn
  | [], hn => simp at hn
theorem Inv13.bind {xs : List OpD} {N : Nat} {a b : ByteArray} {r : List ByteArray} {ws : List OpD} {x : OpD} (ho : opsB xs = true) (h : Inv13 xs N ⟨b :: a :: r, x :: ws, true⟩) (hx : x ∈ xs) : Inv13 xs N ⟨two13 a x b :: r, ws, true⟩ := by
  refine ⟨?_, ?_, fun z hz => h.wt z (List.mem_cons_of_mem _ hz)⟩
  · have hn := h.num
    simp only [List.filter_cons, real_of ho hx, if_true, List.length_cons] at hn ⊢
    omega
  · have hs := h.sz
    have h1 : x.sign.size = 1 := by
      obtain ⟨c, _, e⟩ := sign_of ho hx
      rw [e]; rfl
    have h2 := sizes_two x a b r h1
    show sizes13 (two13 a x b :: r) + 3 * ws.length ≤ 4 * N
    simp only [List.length_cons] at hs
    omega
theorem Inv13.small {xs : List OpD} {N : Nat} {c : CmD} (h : Inv13 xs N c) (hN : N ≤ 12) : c.ws.length ≤ 16 ∧ c.ts.length ≤ 17 ∧ sizes13 c.ts ≤ 48 := by
  have h1 := h.sz
  have h2 := h.num
  have h3 := List.length_filter_le real13 c.ws
  refine ⟨by omega, ?_, by omega⟩
  split at h2 <;> omega
theorem sizes_at (ts : List ByteArray) : ∀ t ∈ ts, t.size ≤ sizes13 ts := by
  induction ts with
  | nil => intro t h; cases h
  | cons u ts ih =>
    intro t h
    simp only [sizes13, List.map_cons, List.sum_cons]
    rcases List.mem_cons.1 h with rfl | h
    · omega
    · have := ih t h
      unfold sizes13 at this
      omega
theorem keep7o {W W' : World} {a0 a1 a2 a3 a4 a5 a6 : Addr} {v0 v1 v2 v3 v4 v5 v6 : Value} (h : W.cell? a0 = some v0 ∧ W.cell? a1 = some v1 ∧ W.cell? a2 = some v2 ∧ W.cell? a3 = some v3 ∧ W.cell? a4 = some v4 ∧ W.cell? a5 = some v5 ∧ W.cell? a6 = some v6) (hb : Below W.heap.size W W') : W'.cell? a0 = some v0 ∧ W'.cell? a1 = some v1 ∧ W'.cell? a2 = some v2 ∧ W'.cell? a3 = some v3 ∧ W'.cell? a4 = some v4 ∧ W'.cell? a5 = some v5 ∧ W'.cell? a6 = some v6 :=
  ⟨cell_keep h.1 hb, cell_keep h.2.1 hb, cell_keep h.2.2.1 hb, cell_keep h.2.2.2.1 hb, cell_keep h.2.2.2.2.1 hb, cell_keep h.2.2.2.2.2.1 hb, cell_keep h.2.2.2.2.2.2 hb⟩

end Go.Proofs.Ytkojkicfibmjdaa
