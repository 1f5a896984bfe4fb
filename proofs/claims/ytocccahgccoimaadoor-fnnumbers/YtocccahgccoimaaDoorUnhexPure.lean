/- What is read out of figures: the plain mathematics, with no program in it. -/
import Derived.Test.YtocccahgccoimaaDoorKit
import Derived.Lib.IndexLaws
namespace Go.Proofs.YtocccahgccoimaaDoor
open Go.RowKit

/-- The value of a figure, or -1. -/
def valI (x : Nat) : Int := if 48 ≤ x ∧ x ≤ 57 then (x : Int) - 48 else if 97 ≤ x ∧ x ≤ 102 then (x : Int) - 97 + 10 else -1

theorem valI_lt (x : Nat) : valI x < 16 ∧ -1 ≤ valI x := by
  unfold valI
  split
  · omega
  · split <;> omega

def figs : List UInt8 := [48, 49, 50, 51, 52, 53, 54, 55, 56, 57, 97, 98, 99, 100, 101, 102]

theorem index_figs (b : UInt8) : Lib.indexByte figs b = valI b.toNat := by
  have h : ∀ n : Fin 256, Lib.indexByte figs (UInt8.ofNat n.1) = valI n.1 := by decide +kernel
  have := h ⟨b.toNat, b.toNat_lt⟩
  simpa using this

/-- Two figures a byte. -/
def unB : List UInt8 → Option (List UInt8)
  | [] => some []
  | [_] => none
  | a :: b :: r => if 0 ≤ valI a.toNat ∧ 0 ≤ valI b.toNat then (unB r).map (UInt8.ofNat (16 * valI a.toNat + valI b.toNat).toNat :: ·) else none

theorem unB_odd : ∀ (n : Nat) (l : List UInt8), l.length = 2 * n + 1 → unB l = none
  | 0, [_], _ => rfl
  | n + 1, a :: b :: r, h => by
    rw [unB]
    split
    · rw [unB_odd n r (by simp only [List.length_cons] at h; omega)]; rfl
    · rfl

/-- Behind so many pairs: pre is read. -/
def UnRel (L pre : List UInt8) : Prop := 2 * pre.length ≤ L.length ∧ unB L = (unB (L.drop (2 * pre.length))).map (pre ++ ·)

theorem un_start (L : List UInt8) : UnRel L [] := ⟨by simp, by simp⟩

theorem drop_two (L : List UInt8) (i : Nat) (h : i + 1 < L.length) : L.drop i = L[i] :: L[i + 1] :: L.drop (i + 2) := by
  rw [List.drop_eq_getElem_cons (by omega), List.drop_eq_getElem_cons h]

theorem un_step {L pre : List UInt8} {i : Nat} (h : UnRel L pre) (hi : i = 2 * pre.length) (hl : i + 1 < L.length) (h1 : 0 ≤ valI L[i].toNat) (h2 : 0 ≤ valI L[i + 1].toNat) :
    UnRel L (pre ++ [UInt8.ofNat (16 * valI L[i].toNat + valI L[i + 1].toNat).toNat]) := by
  subst hi
  refine ⟨by rw [List.length_append, List.length_singleton]; omega, ?_⟩
  rw [h.2, drop_two L _ hl, unB, if_pos ⟨h1, h2⟩, List.length_append, List.length_singleton, Nat.mul_add, Nat.mul_one]
  simp [Option.map_map, Function.comp_def]

theorem un_bad1 {L pre : List UInt8} {i : Nat} (h : UnRel L pre) (hi : i = 2 * pre.length) (hl : i < L.length) (h1 : valI L[i].toNat < 0) : unB L = none := by
  subst hi
  rw [h.2]
  by_cases h2 : 2 * pre.length + 1 < L.length
  · rw [drop_two L _ h2, unB, if_neg (by omega)]; rfl
  · rw [List.drop_eq_getElem_cons hl, List.drop_of_length_le (by omega)]; rfl

theorem un_bad2 {L pre : List UInt8} {i : Nat} (h : UnRel L pre) (hi : i = 2 * pre.length + 1) (hl : i < L.length) (h1 : valI L[i].toNat < 0) : unB L = none := by
  subst hi
  rw [h.2, drop_two L _ hl, unB, if_neg (by omega)]
  rfl

theorem un_end {L pre : List UInt8} (h : UnRel L pre) (hl : L.length = 2 * pre.length) : unB L = some pre := by
  rw [h.2, List.drop_of_length_le (by omega), unB]
  simp

theorem byte_of_pair (x y : Nat) (hx : 0 ≤ valI x) (hy : 0 ≤ valI y) : ((UInt8.ofNat (16 * valI x + valI y).toNat).toNat : Int) = 16 * valI x + valI y := by
  have h1 := valI_lt x
  have h2 := valI_lt y
  rw [toNat_ofNat _ (by omega)]
  omega

end Go.Proofs.YtocccahgccoimaaDoor
