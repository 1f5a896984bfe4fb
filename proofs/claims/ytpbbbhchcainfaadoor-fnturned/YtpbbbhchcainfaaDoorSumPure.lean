/- The sums of chapter 2: the plain mathematics, with no program in it: a step is one-to-one, so that a turned byte gives another sum ever after. -/
import Derived.Test.YtpbbbhchcainfaaDoorKit
namespace Go.Proofs.YtpbbbhchcainfaaDoor
open Go.RowKit

/-- Half of it, exclusive-or the number where it was odd. -/
def half (x : Nat) : Nat := if x % 2 = 1 then (x / 2) ^^^ 3558460437 else x / 2

theorem half_lt (x : Nat) (h : x < 4294967296) : half x < 4294967296 := by
  unfold half
  split
  · exact Nat.xor_lt_two_pow (n := 32) (by omega) (by decide)
  · omega

theorem xor_cancel {a b c : Nat} (h : a ^^^ c = b ^^^ c) : a = b := by
  have := congrArg (· ^^^ c) h
  simpa [Nat.xor_assoc] using this

theorem half_top (x : Nat) (h : x < 4294967296) : (half x).testBit 31 = decide (x % 2 = 1) := by
  unfold half
  have hb : (x / 2).testBit 31 = false := Nat.testBit_lt_two_pow (by omega)
  by_cases h1 : x % 2 = 1
  · rw [if_pos h1, Nat.testBit_xor, hb]
    simp [h1]
    decide
  · rw [if_neg h1, hb]
    simp [h1]

theorem half_inj {x y : Nat} (hx : x < 4294967296) (hy : y < 4294967296) (h : half x = half y) : x = y := by
  have t : decide (x % 2 = 1) = decide (y % 2 = 1) := by rw [← half_top x hx, ← half_top y hy, h]
  unfold half at h
  by_cases h1 : x % 2 = 1
  · have h2 : y % 2 = 1 := by simpa [h1] using t
    rw [if_pos h1, if_pos h2] at h
    have := xor_cancel h
    omega
  · have h2 : ¬ y % 2 = 1 := by simpa [h1] using t
    rw [if_neg h1, if_neg h2] at h
    omega

/-- So many halves. -/
def halves : Nat → Nat → Nat
  | 0, x => x
  | n + 1, x => halves n (half x)
theorem halves_lt : ∀ (n x : Nat), x < 4294967296 → halves n x < 4294967296
  | 0, _, h => h
  | n + 1, x, h => halves_lt n (half x) (half_lt x h)
theorem halves_inj : ∀ (n x y : Nat), x < 4294967296 → y < 4294967296 → halves n x = halves n y → x = y
  | 0, _, _, _, _, h => h
  | n + 1, x, y, hx, hy, h => half_inj hx hy (halves_inj n _ _ (half_lt x hx) (half_lt y hy) h)
theorem halves_snoc : ∀ (n x : Nat), halves (n + 1) x = half (halves n x)
  | 0, _ => rfl
  | n + 1, x => halves_snoc n (half x)

/-- One byte more. -/
def sumStep (s : Nat) (b : UInt8) : Nat := halves 8 (s ^^^ b.toNat)
theorem sumStep_lt (s : Nat) (b : UInt8) (h : s < 4294967296) : sumStep s b < 4294967296 :=
  halves_lt 8 _ (Nat.xor_lt_two_pow (n := 32) (by omega) (by have := b.toNat_lt; omega))
theorem sumStep_inj {s t : Nat} (b : UInt8) (hs : s < 4294967296) (ht : t < 4294967296) (h : sumStep s b = sumStep t b) : s = t := by
  have hb := b.toNat_lt
  exact xor_cancel (halves_inj 8 _ _ (Nat.xor_lt_two_pow (n := 32) (by omega) (by omega)) (Nat.xor_lt_two_pow (n := 32) (by omega) (by omega)) h)
theorem sumStep_byte {s : Nat} {b c : UInt8} (hs : s < 4294967296) (h : sumStep s b = sumStep s c) : b = c := by
  have hb := b.toNat_lt
  have hc := c.toNat_lt
  have e := halves_inj 8 _ _ (Nat.xor_lt_two_pow (n := 32) (by omega) (by omega)) (Nat.xor_lt_two_pow (n := 32) (by omega) (by omega)) h
  rw [Nat.xor_comm s, Nat.xor_comm s] at e
  exact UInt8.toNat_inj.1 (xor_cancel e)

/-- A sum and more bytes. -/
def sumB (s : Nat) (l : List UInt8) : Nat := l.foldl sumStep s
theorem sumB_snoc (s : Nat) (l : List UInt8) (b : UInt8) : sumB s (l ++ [b]) = sumStep (sumB s l) b := by simp [sumB]
theorem sumB_app (s : Nat) (l m : List UInt8) : sumB s (l ++ m) = sumB (sumB s l) m := by simp [sumB]
theorem sumB_lt : ∀ (l : List UInt8) (s : Nat), s < 4294967296 → sumB s l < 4294967296
  | [], _, h => h
  | b :: l, s, h => sumB_lt l _ (sumStep_lt s b h)
theorem sumB_inj : ∀ (l : List UInt8) (s t : Nat), s < 4294967296 → t < 4294967296 → sumB s l = sumB t l → s = t
  | [], _, _, _, _, h => h
  | b :: l, s, t, hs, ht, h => sumStep_inj b hs ht (sumB_inj l _ _ (sumStep_lt s b hs) (sumStep_lt t b ht) h)

/-- A turned byte gives another sum. -/
theorem sumB_turned (s : Nat) (p r : List UInt8) (b c : UInt8) (hs : s < 4294967296) (hbc : b ≠ c) : sumB s (p ++ b :: r) ≠ sumB s (p ++ c :: r) := by
  intro h
  rw [sumB_app, sumB_app] at h
  have hp := sumB_lt p s hs
  exact hbc (sumStep_byte hp (sumB_inj r _ _ (sumStep_lt _ b hp) (sumStep_lt _ c hp) h))

/-- The sum in four bytes, the highest first. -/
def four (x : Nat) : List UInt8 := [UInt8.ofNat (x / 16777216 % 256), UInt8.ofNat (x / 65536 % 256), UInt8.ofNat (x / 256 % 256), UInt8.ofNat (x % 256)]
theorem four_inj {x y : Nat} (hx : x < 4294967296) (hy : y < 4294967296) (h : four x = four y) : x = y := by
  simp only [four, List.cons.injEq, and_true] at h
  obtain ⟨h1, h2, h3, h4⟩ := h
  have e : ∀ a b : Nat, a < 256 → b < 256 → UInt8.ofNat a = UInt8.ofNat b → a = b := fun a b ha hb hab => by
    have := congrArg UInt8.toNat hab
    rwa [toNat_ofNat a ha, toNat_ofNat b hb] at this
  have k1 := e _ _ (by omega) (by omega) h1
  have k2 := e _ _ (by omega) (by omega) h2
  have k3 := e _ _ (by omega) (by omega) h3
  have k4 := e _ _ (by omega) (by omega) h4
  omega

end Go.Proofs.YtpbbbhchcainfaaDoor
