/- The laws' own helpers on lists of names with numbers: how great they are, copied, compared. -/
/- Decimal figures: the plain mathematics, with no program in it. -/
import Derived.Test.YtofpoiccghpliaaGreatDoorEnvOk
import Derived.Test.YtofpoiccghpliaaGreatDoorVRow
import Derived.Handy
import Derived.OwnWalk
import Derived.Laws.OwnMore
import Derived.Lib.ItoaNum
import Derived.Lib.ItoaMem
namespace Go.Proofs.YtofpoiccghpliaaGreatDoor
open Go.RowKit

theorem beq_yes {a b : ByteArray} (h : a = b) : (a.toList == b.toList) = true := by rw [bytes_beq]; simpa using h
theorem beq_no {a b : ByteArray} (h : ¬ a = b) : (a.toList == b.toList) = false := by rw [bytes_beq]; simpa using h

/-- The cells of a list of names with numbers. -/
def vv (xs : List VarD) : List Value := xs.flatMap fun x => [.string x.1, .int .i64 x.2]
theorem vv_len (xs : List VarD) : (vv xs).length = xs.length * 2 := by
  induction xs with
  | nil => rfl
  | cons x xs ih => rw [vv, List.flatMap_cons, List.length_append, ← vv, ih]; simp; omega
theorem vv_app (xs ys : List VarD) : vv (xs ++ ys) = vv xs ++ vv ys := by simp [vv]
theorem vv_one (x : VarD) : vv [x] = [.string x.1, .int .i64 x.2] := rfl
theorem vv_at : ∀ (xs : List VarD) (i : Nat) (h : i < xs.length), (vv xs)[i * 2]? = some (.string xs[i].1) ∧ (vv xs)[i * 2 + 1]? = some (.int .i64 xs[i].2)
  | x :: xs, 0, _ => ⟨rfl, rfl⟩
  | x :: xs, i + 1, h => by
    have := vv_at xs i (by simpa using h)
    have e : vv (x :: xs) = [.string x.1, .int .i64 x.2] ++ vv xs := rfl
    rw [e, List.getElem?_append_right (by simp; omega), List.getElem?_append_right (by simp; omega)]
    have e1 : (i + 1) * 2 - 2 = i * 2 := by omega
    have e2 : (i + 1) * 2 + 1 - 2 = i * 2 + 1 := by omega
    simpa [e1, e2] using this

def totS (xs : List VarD) : Nat := (xs.map fun x => x.1.size).sum
theorem totS_next (xs : List VarD) (k : Nat) (h : k < xs.length) : totS (xs.take (k + 1)) = totS (xs.take k) + xs[k].1.size := by
  rw [List.take_succ_eq_append_getElem h]
  simp only [totS, List.map_append, List.sum_append, List.map_cons, List.map_nil, List.sum_cons, List.sum_nil, Nat.add_zero]
theorem totS_mem {xs : List VarD} {x : VarD} (h : x ∈ xs) : x.1.size ≤ totS xs := by
  induction xs with
  | nil => cases h
  | cons y xs ih =>
    simp only [totS, List.map_cons, List.sum_cons]
    rcases List.mem_cons.1 h with rfl | h
    · omega
    · have := ih h; simp only [totS] at this; omega

/-- What is owned is owned behind whatever makes new memory alone. -/
theorem own_below {B : Nat} {e : TypeId} {size : Nat} {v : Value} {n : Nat} {xs : List Value} {w w' : World} (h : w.ownsRow B e size v n xs) (hb : Below w.heap.size w w') : w'.ownsRow B e size v n xs := by
  refine ⟨h.1, ?_⟩
  rcases h.2 with h | ⟨g, cap, cur, rfl, hg, hc, r⟩
  · exact .inl h
  · refine .inr ⟨g, cap, cur, rfl, hg, ?_, r⟩
    rw [hb.block g (Array.getElem?_eq_some_iff.1 hc).1]
    exact hc
theorem own_cell {B : Nat} {e : TypeId} {size : Nat} {g n cap : Nat} {xs : List Value} {w : World} (h : w.ownsRow B e size (.slice (some ⟨g, 0, none⟩) n cap) n xs) (j : Nat) (hj : j < n * size) :
    ∃ c, w.cell? ⟨g, j, none⟩ = some c ∧ w.frozen? ⟨g, j, none⟩ = false := by
  rcases h.2 with ⟨h', _⟩ | ⟨g', cap', cur, h', hb, hg, _⟩
  · cases h'
  · cases h'
    have hx : j < xs.length := by rw [h.1]; exact hj
    refine ⟨xs[j], ?_, ?_⟩
    · have := h.cells (g := g) rfl j xs[j] (List.getElem?_eq_getElem hx)
      rwa [Addr.add_lit, Nat.zero_add] at this
    · unfold World.frozen?
      rw [hg]
      simp

theorem take_two (cs : List Value) (j : Nat) (a b : Value) (h : j + 1 < cs.length) : ((cs.set j a).set (j + 1) b).take (j + 2) = cs.take j ++ [a, b] := by
  apply List.ext_getElem?
  intro i
  rw [List.getElem?_take]
  by_cases h1 : i < j
  · rw [if_pos (by omega), List.getElem?_set_ne (by omega), List.getElem?_set_ne (by omega), List.getElem?_append_left (by simp; omega), List.getElem?_take, if_pos h1]
  · have hl : (cs.take j).length = j := by simp; omega
    rw [List.getElem?_append_right (by omega), hl]
    by_cases h2 : i = j
    · subst h2
      rw [if_pos (by omega), List.getElem?_set_ne (by omega), List.getElem?_set_self (by omega)]
      simp
    · by_cases h3 : i = j + 1
      · subst h3
        rw [if_pos (by omega), List.getElem?_set_self (by simpa using h)]
        simp
      · rw [if_neg (by omega), List.getElem?_eq_none (by simp; omega)]

theorem cell_keep {W W' : World} {a : Addr} {x : Value} (h : W.cell? a = some x) (hb : Below W.heap.size W W') : W'.cell? a = some x :=
  (World.cell?_of_block (hb.block _ (World.block_lt_of_cell? W a h))).trans h
theorem cells_keep4 {W W' : World} {a b c d : Addr} {x y z u : Value} (h : W.cell? a = some x ∧ W.cell? b = some y ∧ W.cell? c = some z ∧ W.cell? d = some u) (hb : Below W.heap.size W W') :
    W'.cell? a = some x ∧ W'.cell? b = some y ∧ W'.cell? c = some z ∧ W'.cell? d = some u :=
  ⟨cell_keep h.1 hb, cell_keep h.2.1 hb, cell_keep h.2.2.1 hb, cell_keep h.2.2.2 hb⟩

end Go.Proofs.YtofpoiccghpliaaGreatDoor

namespace Go.Proofs.YtofpoiccghpliaaGreatDoor
open Go.RowKit

/-- The figures of a number, none for 0. -/
def digs (u : Nat) : List UInt8 := if u = 0 then [] else Lib.decDigits u

theorem digs_step (u : Nat) (h : u ≠ 0) : digs u = digs (u / 10) ++ [UInt8.ofNat (48 + u % 10)] := by
  unfold digs
  rw [if_neg h, Lib.decDigits]
  by_cases h1 : u < 10
  · rw [dif_pos h1, if_pos (by omega), show u % 10 = u by omega]; rfl
  · rw [dif_neg h1, if_neg (by omega)]

theorem digs_len : ∀ (u : Nat), (digs u).length ≤ u / 10 + 1 := by
  intro u
  induction u using Nat.strongRecOn with
  | ind u ih =>
    by_cases h : u = 0
    · simp [digs, h]
    · rw [digs_step u h, List.length_append, List.length_singleton]
      by_cases h1 : u < 10
      · rw [show u / 10 = 0 by omega]; simp [digs]
      · have := ih (u / 10) (by omega)
        omega

theorem itoa_digs_neg (n : Int) (h : n < 0) : Lib.itoa n = 45 :: digs n.natAbs := by
  unfold Lib.itoa digs
  rw [if_pos h, if_neg (by omega)]

theorem itoa_digs_pos (n : Int) (h : 0 < n) : Lib.itoa n = digs n.natAbs := by
  unfold Lib.itoa digs
  rw [if_neg (by omega), if_neg (by omega), show n.toNat = n.natAbs by omega]

theorem itoa_zero : Lib.itoa 0 = [48] := by
  unfold Lib.itoa
  rw [if_neg (by omega), Lib.decDigits, dif_pos (by decide)]
  rfl

theorem str_add (a b : List UInt8) : str a ++ str b = str (a ++ b) := by
  apply ByteArray.ext
  simp [str]

theorem run_add_str {P : Program} (W : World) (a b : List UInt8) (h : a.length + b.length ≤ 9223372036854775807) :
    (Op.stringOp .add (str a) (str b)).run P W = .ok (.string (str (a ++ b))) W := by
  rw [run_string_add_sum _ _ _ (by rw [str_size, str_size]; exact h)]
  congr 2

/-- A number as a byte. -/
def byteI (z : Int) : UInt8 := UInt8.ofNat z.toNat

/-- One byte laid in a new block, made a string. -/
theorem run_one_string {P : Program} (w : World) (src dst e : TypeId) (z : Int) (h0 : 0 ≤ z) (h1 : z < 256) (hs : P.underlying src = some (.slice e)) (he : P.underlying e = some (.int .u8)) (hd : P.underlying dst = some .string) :
    (convert src dst (.slice (some ⟨w.heap.size, 0, none⟩) 1 1)).run P (w.alloc (.cells #[.int .u8 z] e)) = .ok (.string (str [byteI z])) (w.alloc (.cells #[.int .u8 z] e)) := by
  have := run_convert_bytes_back (P := P) (w.alloc (.cells #[.int .u8 z] e)) src dst e ⟨w.heap.size, 0, none⟩ 1 [byteI z] hs he hd (fun j hj => by
    have hj0 : j = 0 := by simpa using hj
    subst hj0
    have e1 := one_at w (.int .u8 z) e 0 (.int .u8 z) rfl
    rw [e1, List.getElem_cons_zero, byteI, toNat_ofNat _ (by omega)]
    simp [Int.toNat_of_nonneg h0])
  exact this

end Go.Proofs.YtofpoiccghpliaaGreatDoor
