/- What is written is read back: numbers, short texts, figures: the plain mathematics. -/
import Derived.Test.YtocccahgccoimaaDoorReadPure
import Derived.Test.YtocccahgccoimaaDoorFig
import Derived.Test.YtocccahgccoimaaDoorHex
import Derived.Test.YtocccahgccoimaaDoorUnhexPure
import Derived.Test.YtocccahgccoimaaDoorRdPure
namespace Go.Proofs.YtocccahgccoimaaDoor
open Go.RowKit

theorem varB_short : ∀ (j n : Nat), n < 128 ^ (j + 1) → (varB n).length ≤ j + 1
  | 0, n, h => by rw [varB_last n (by simp at h; omega)]; simp
  | j + 1, n, h => by
    by_cases h1 : 127 < n
    · rw [varB_more n h1, List.length_cons]
      have := varB_short j (n / 128) (by rw [Nat.pow_succ] at h; omega)
      omega
    · rw [varB_last n (by omega)]; simp

theorem valB_varB (n : Nat) : valB (varB n) = n := by
  induction n using Nat.strongRecOn with
  | ind n ih =>
    by_cases h : 127 < n
    · rw [varB_more n h, valB, ih (n / 128) (by omega), toNat_ofNat _ (by omega)]
      omega
    · rw [varB_last n (by omega), valB, valB, toNat_ofNat _ (by omega)]
      omega

theorem headB_varB (r : List UInt8) : ∀ (f n : Nat), (varB n).length ≤ f → headB f (varB n ++ r) = some (varB n)
  | 0, n, h => by have := varB_pos n; omega
  | f + 1, n, h => by
    by_cases h1 : 127 < n
    · have e := varB_more n h1
      rw [e, List.length_cons] at h
      rw [e, List.cons_append, headB, if_neg (by rw [toNat_ofNat _ (by omega)]; omega), headB_varB r f (n / 128) (by omega)]
      rfl
    · rw [varB_last n (by omega), List.singleton_append, headB, if_pos (by rw [toNat_ofNat _ (by omega)]; omega)]

theorem readB_varB (n : Nat) (r : List UInt8) (h : n ≤ 1000000000) : readB (varB n ++ r) = some (n, (varB n).length) := by
  rw [readB, headB_varB r 5 n (varB_short 4 n (by omega))]
  simp only [valB_varB]
  rw [if_neg (by intro h1; rcases h1 with h1 | h1; omega; exact h1 rfl)]

theorem rvOut_at (p r : List UInt8) (n : Nat) (h : n ≤ 1000000000) : rvOut (p ++ (varB n ++ r)) (p.length : Int) = ((n : Int), (p.length : Int) + (varB n).length, true) :=
  rvOut_some (by simp) (by rw [List.drop_left]; exact readB_varB n r h)

theorem valI_figB : ∀ k : Nat, k < 16 → valI (figB k).toNat = k := by
  have : ∀ k : Fin 16, valI (figB k.1).toNat = (k.1 : Int) := by decide
  exact fun k h => this ⟨k, h⟩

theorem unB_hexB : ∀ L : List UInt8, unB (hexB L) = some L
  | [] => rfl
  | b :: L => by
    have hb := b.toNat_lt
    rw [show hexB (b :: L) = figB (b.toNat / 16) :: figB (b.toNat % 16) :: hexB L from rfl, unB, valI_figB _ (by omega), valI_figB _ (by omega), if_pos ⟨by omega, by omega⟩, unB_hexB L]
    rw [Option.map_some, show (16 * ((b.toNat / 16 : Nat) : Int) + ((b.toNat % 16 : Nat) : Int)).toNat = b.toNat by omega]
    simp

theorem rdYes_dec (n : Nat) (h : n ≤ 1000000000) : rdYes (Lib.decDigits n) := ⟨by rw [valD_dec]; exact h, by rw [valD_dec]⟩

end Go.Proofs.YtocccahgccoimaaDoor
