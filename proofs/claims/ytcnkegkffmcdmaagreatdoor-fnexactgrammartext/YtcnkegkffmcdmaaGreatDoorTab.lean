/- The sums of chapter 2 by halves of a byte: four steps at once, off a table of sixteen. -/
/- A table of the library's that is a package-level variable reads on as it read, behind whatever makes new memory alone. -/
import Derived.Test.YtcnkegkffmcdmaaGreatDoorE16G
import Derived.Lib.LaidTab
import Derived.WalkKit
import Derived.Below
namespace Go.Proofs.YtcnkegkffmcdmaaGreatDoor
open Go.RowKit

theorem xor_half (x y : Nat) : (x ^^^ y) / 2 = (x / 2) ^^^ (y / 2) := by
  apply Nat.eq_of_testBit_eq
  intro i
  simp [Nat.testBit_div_two, Nat.testBit_xor]
theorem xor_mod2 (x y : Nat) : (x ^^^ y) % 2 = (x % 2) ^^^ (y % 2) := by
  have := Nat.xor_mod_two_pow (a := x) (b := y) (n := 1)
  simpa using this

theorem half_xor (x y : Nat) : half (x ^^^ y) = half x ^^^ half y := by
  have hm := xor_mod2 x y
  rcases Nat.mod_two_eq_zero_or_one x with h1 | h1 <;> rcases Nat.mod_two_eq_zero_or_one y with h2 | h2 <;> rw [h1, h2] at hm <;> simp only [half, h1, h2, hm, xor_half]
  · simp
  · simp [Nat.xor_assoc]
  · simp only [Nat.reduceXor, reduceIte, Nat.reduceEqDiff, Nat.xor_assoc]
    rw [Nat.xor_comm (y / 2)]
  · have e : 3558460437 ^^^ (y / 2 ^^^ 3558460437) = y / 2 := by rw [Nat.xor_comm (y / 2), ← Nat.xor_assoc, Nat.xor_self, Nat.zero_xor]
    simp [Nat.xor_assoc, e]

theorem halves_xor : ∀ (n x y : Nat), halves n (x ^^^ y) = halves n x ^^^ halves n y
  | 0, _, _ => rfl
  | n + 1, x, y => by rw [halves, half_xor, halves_xor n]; rfl
theorem halves_add : ∀ (m n x : Nat), halves (m + n) x = halves n (halves m x)
  | 0, n, x => by simp [halves]
  | m + 1, n, x => by rw [show m + 1 + n = (m + n) + 1 by omega, halves, halves_add m n]; rfl

theorem half_dbl (q : Nat) : half (2 * q) = q := by
  rw [half, if_neg (by omega)]; omega
theorem halves_16 (q : Nat) : halves 4 (16 * q) = q := by
  show half (half (half (half (16 * q)))) = q
  rw [show 16 * q = 2 * (2 * (2 * (2 * q))) by omega, half_dbl, half_dbl, half_dbl, half_dbl]

/-- The table. -/
def turnTab : List Int := [0, 1166650509, 2333301018, 3466261911, 3189058079, 4221339282, 889615109, 1888477064, 3558460437, 2442158232, 1594529039, 444807554, 1779230218, 797264519, 3776954128, 2761298845]
theorem turnTab_at (r : Nat) (h : r < 16) : turnTab.getD r 0 = (halves 4 r : Nat) := by
  have all : ∀ r : Fin 16, turnTab.getD r.1 0 = (halves 4 r.1 : Nat) := by decide
  exact all ⟨r, h⟩

theorem split16 (x : Nat) : x = (16 * (x / 16)) ^^^ (x % 16) := by
  apply Nat.eq_of_testBit_eq
  intro i
  rw [Nat.testBit_xor, show (16 : Nat) = 2 ^ 4 by rfl, Nat.testBit_two_pow_mul, Nat.testBit_mod_two_pow, Nat.testBit_div_two_pow]
  by_cases h : i < 4
  · have h2 : ¬ 4 ≤ i := by omega
    simp [h, h2]
  · have h2 : 4 ≤ i := by omega
    simp [h, h2]

/-- Four steps at once. -/
theorem halves_four (x : Nat) : halves 4 x = (x / 16) ^^^ halves 4 (x % 16) := by
  conv => lhs; rw [split16 x, halves_xor, halves_16]

theorem halves_eight (x : Nat) : halves 8 x = halves 4 (halves 4 x) := halves_add 4 4 x

end Go.Proofs.YtcnkegkffmcdmaaGreatDoor

namespace Go.Proofs.YtcnkegkffmcdmaaGreatDoor
open Go.RowKit

theorem tab_below {P : Program} {W W' : World} {name : String} {k : IntKind} {zs : List Int} (hT : Lib.TabIs P W name k zs) (hb : Below W.heap.size W W') : Lib.TabIs P W' name k zs := by
  unfold Lib.TabIs at hT ⊢
  unfold World.var? at hT ⊢
  match hg : P.globalNamed name, hT with
  | some g, hT =>
    simp only [Option.bind_some] at hT ⊢
    have hlt : g < W.heap.size := by
      rcases Nat.lt_or_ge g W.heap.size with h | h
      · exact h
      · rw [Array.getElem?_eq_none h] at hT
        simp at hT
    rw [hb.block g hlt]
    exact hT

end Go.Proofs.YtcnkegkffmcdmaaGreatDoor
