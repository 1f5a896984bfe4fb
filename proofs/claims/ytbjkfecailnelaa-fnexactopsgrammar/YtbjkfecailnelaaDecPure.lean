/- Decimal figures: the plain mathematics, with no program in it. -/
import Derived.Test.YtbjkfecailnelaaKit
import Derived.Lib.ItoaNum
import Derived.Lib.ItoaMem
namespace Go.Proofs.Ytbjkfecailnelaa
open Go.RowKit

/-- The figures of a number, none for 0. -/
def digs (u : Nat) : List UInt8 := if u = 0 then [] else Lib.decDigits u

theorem digs_step (u : Nat) (h : u ≠ 0) : digs u = digs (u / 10) ++ [UInt8.ofNat (48 + u % 10)] := by
  unfold digs
  rw [if_neg h, Lib.decDigits]
  by_cases h1 : u < 10
  · rw [dif_pos h1, if_pos (by omega), show u % 10 = u by omega]; rfl
  · rw [dif_neg h1, if_neg (by omega)]

theorem digs_len : ∀ (u : Nat), (digs u).length ≤ u / 10 + 1 := by
  intro u
  induction u using Nat.strongRecOn with
  | ind u ih =>
    by_cases h : u = 0
    · simp [digs, h]
    · rw [digs_step u h, List.length_append, List.length_singleton]
      by_cases h1 : u < 10
      · rw [show u / 10 = 0 by omega]; simp [digs]
      · have := ih (u / 10) (by omega)
        omega

theorem itoa_digs_neg (n : Int) (h : n < 0) : Lib.itoa n = 45 :: digs n.natAbs := by
  unfold Lib.itoa digs
  rw [if_pos h, if_neg (by omega)]

theorem itoa_digs_pos (n : Int) (h : 0 < n) : Lib.itoa n = digs n.natAbs := by
  unfold Lib.itoa digs
  rw [if_neg (by omega), if_neg (by omega), show n.toNat = n.natAbs by omega]

theorem itoa_zero : Lib.itoa 0 = [48] := by
  unfold Lib.itoa
  rw [if_neg (by omega), Lib.decDigits, dif_pos (by decide)]
  rfl

theorem str_add (a b : List UInt8) : str a ++ str b = str (a ++ b) := by
  apply ByteArray.ext
  simp [str]

theorem run_add_str {P : Program} (W : World) (a b : List UInt8) (h : a.length + b.length ≤ 9223372036854775807) :
    (Op.stringOp .add (str a) (str b)).run P W = .ok (.string (str (a ++ b))) W := by
  rw [run_string_add_sum _ _ _ (by rw [str_size, str_size]; exact h)]
  congr 2

/-- A number as a byte. -/
def byteI (z : Int) : UInt8 := UInt8.ofNat z.toNat

/-- One byte laid in a new block, made a string. -/
theorem run_one_string {P : Program} (w : World) (src dst e : TypeId) (z : Int) (h0 : 0 ≤ z) (h1 : z < 256) (hs : P.underlying src = some (.slice e)) (he : P.underlying e = some (.int .u8)) (hd : P.underlying dst = some .string) :
    (convert src dst (.slice (some ⟨w.heap.size, 0, none⟩) 1 1)).run P (w.alloc (.cells #[.int .u8 z] e)) = .ok (.string (str [byteI z])) (w.alloc (.cells #[.int .u8 z] e)) := by
  have := run_convert_bytes_back (P := P) (w.alloc (.cells #[.int .u8 z] e)) src dst e ⟨w.heap.size, 0, none⟩ 1 [byteI z] hs he hd (fun j hj => by
    have hj0 : j = 0 := by simpa using hj
    subst hj0
    have e1 := one_at w (.int .u8 z) e 0 (.int .u8 z) rfl
    rw [e1, List.getElem_cons_zero, byteI, toNat_ofNat _ (by omega)]
    simp [Int.toNat_of_nonneg h0])
  exact this

end Go.Proofs.Ytbjkfecailnelaa
