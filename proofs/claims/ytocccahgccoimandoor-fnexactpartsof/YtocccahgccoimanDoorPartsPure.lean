/- The parts of a line: the plain mathematics, with no program in it. -/
import Derived.Test.YtocccahgccoimanDoorKit
import Derived.Lib.Fields
namespace Go.Proofs.YtocccahgccoimanDoor
open Go.RowKit

def okB (b : UInt8) : Bool := decide (32 ≤ b.toNat) && decide (b.toNat ≤ 126)
theorem okB_iff (b : UInt8) : okB b = true ↔ 32 ≤ b.toNat ∧ b.toNat ≤ 126 := by simp [okB]
def printB (L : List UInt8) : Bool := L.all okB
def poFlag (L : List UInt8) : Bool := decide (L.length ≤ 600) && printB L && decide ((Lib.fields L).length ≤ 10)
def poList (L : List UInt8) : List (List UInt8) := if poFlag L = true then Lib.fields L else []

theorem poFlag_long {L : List UInt8} (h : 600 < L.length) : poFlag L = false := by
  have : ¬ L.length ≤ 600 := by omega
  simp [poFlag, this]
theorem poFlag_bad {L : List UInt8} (h : printB L = false) : poFlag L = false := by simp [poFlag, h]
theorem poFlag_many {L : List UInt8} (h : 10 < (Lib.fields L).length) : poFlag L = false := by
  have : ¬ (Lib.fields L).length ≤ 10 := by omega
  simp [poFlag, this]
theorem poFlag_yes {L : List UInt8} (h1 : L.length ≤ 600) (h2 : printB L = true) (h3 : (Lib.fields L).length ≤ 10) : poFlag L = true := by simp [poFlag, h1, h2, h3]
theorem poList_no {L : List UInt8} (h : poFlag L = false) : poList L = [] := by simp [poList, h]
theorem poList_yes {L : List UInt8} (h : poFlag L = true) : poList L = Lib.fields L := by simp [poList, h]

theorem isSp_ok {b : UInt8} (h : okB b = true) (hb : b.toNat ≠ 32) : Lib.isSp b = false := by
  rw [okB_iff] at h
  have hne : ∀ c : UInt8, c.toNat < 32 ∨ c.toNat = 32 → (b == c) = false := by
    intro c hc
    rw [beq_eq_false_iff_ne]
    intro e
    subst e
    omega
  unfold Lib.isSp
  rw [hne 9 (by decide), hne 10 (by decide), hne 11 (by decide), hne 12 (by decide), hne 13 (by decide), hne 32 (by decide)]
  rfl
theorem isSp_blank {b : UInt8} (hb : b.toNat = 32) : Lib.isSp b = true := by
  obtain rfl : b = 32 := UInt8.toNat_inj.1 hb
  rfl

/-- Behind some rounds of the specification's loop: o are the parts, b is where the next one begins, i the place. -/
def PoRel (L : List UInt8) (o : List (List UInt8)) (b i : Nat) : Prop :=
  (i ≤ L.length → b ≤ i ∧ Lib.fields L = o ++ Lib.fieldsGo ((L.take i).drop b) (L.drop i)) ∧ (L.length < i → Lib.fields L = o) ∧ i ≤ L.length + 1 ∧ o.length ≤ i ∧ (L.take i).all okB = true

theorem po_start (L : List UInt8) : PoRel L [] 0 0 := ⟨fun _ => ⟨by omega, by simp [Lib.fields]⟩, fun h => by omega, by omega, by simp, by simp⟩

theorem cur_more (L : List UInt8) (b i : Nat) (hb : b ≤ i) (h : i < L.length) : (L.take (i + 1)).drop b = (L.take i).drop b ++ [L[i]] := by
  rw [List.take_succ_eq_append_getElem h, List.drop_append_of_le_length (by rw [List.length_take]; omega)]
theorem cur_none (L : List UInt8) (i : Nat) : (L.take i).drop i = [] := List.drop_of_length_le (by rw [List.length_take]; omega)
theorem cur_some (L : List UInt8) (b i : Nat) (hb : b < i) (hi : i ≤ L.length) : (L.take i).drop b ≠ [] := by
  intro e
  have := congrArg List.length e
  rw [List.length_drop, List.length_take] at this
  simp at this
  omega

theorem all_snoc (L : List UInt8) (i : Nat) (h : i < L.length) (ha : (L.take i).all okB = true) (hb : okB L[i] = true) : (L.take (i + 1)).all okB = true := by
  rw [List.take_succ_eq_append_getElem h, List.all_append, ha]
  simp [hb]

theorem po_more {L : List UInt8} {o : List (List UInt8)} {b i : Nat} (h : PoRel L o b i) (hi : i < L.length) (hok : okB L[i] = true) (hne : L[i].toNat ≠ 32) : PoRel L o b (i + 1) := by
  obtain ⟨h1, _, h3, h4, h5⟩ := h
  obtain ⟨hb, hf⟩ := h1 (by omega)
  refine ⟨fun _ => ⟨by omega, ?_⟩, fun h => by omega, by omega, by omega, all_snoc L i hi h5 hok⟩
  rw [hf, List.drop_eq_getElem_cons hi, Lib.fieldsGo_more _ _ _ (isSp_ok hok hne), cur_more L b i hb hi]

theorem po_part {L : List UInt8} {o : List (List UInt8)} {b i : Nat} (h : PoRel L o b i) (hi : i < L.length) (hok : okB L[i] = true) (he : L[i].toNat = 32) (hb : b < i) : PoRel L (o ++ [(L.take i).drop b]) (i + 1) (i + 1) := by
  obtain ⟨h1, _, h3, h4, h5⟩ := h
  obtain ⟨_, hf⟩ := h1 (by omega)
  refine ⟨fun _ => ⟨by omega, ?_⟩, fun h => by omega, by omega, by rw [List.length_append, List.length_singleton]; omega, all_snoc L i hi h5 hok⟩
  rw [hf, List.drop_eq_getElem_cons hi, Lib.fieldsGo_end _ _ _ (isSp_blank he) (cur_some L b i hb (by omega)), cur_none]
  simp

theorem po_skip {L : List UInt8} {o : List (List UInt8)} {b i : Nat} (h : PoRel L o b i) (hi : i < L.length) (hok : okB L[i] = true) (he : L[i].toNat = 32) (hb : ¬ b < i) : PoRel L o (i + 1) (i + 1) := by
  obtain ⟨h1, _, h3, h4, h5⟩ := h
  obtain ⟨hbi, hf⟩ := h1 (by omega)
  obtain rfl : b = i := by omega
  refine ⟨fun _ => ⟨by omega, ?_⟩, fun h => by omega, by omega, by omega, all_snoc L b hi h5 hok⟩
  rw [hf, List.drop_eq_getElem_cons hi, cur_none, cur_none, Lib.fieldsGo_sp _ _ (isSp_blank he)]

theorem po_last {L : List UInt8} {o : List (List UInt8)} {b : Nat} (h : PoRel L o b L.length) (hb : b < L.length) : PoRel L (o ++ [(L.take L.length).drop b]) (L.length + 1) (L.length + 1) := by
  obtain ⟨h1, _, h3, h4, h5⟩ := h
  obtain ⟨_, hf⟩ := h1 (Nat.le_refl _)
  refine ⟨fun h => by omega, fun _ => ?_, by omega, by rw [List.length_append, List.length_singleton]; omega, ?_⟩
  · rw [hf, List.drop_of_length_le (Nat.le_refl _), Lib.fieldsGo, if_neg (by simpa using cur_some L b L.length hb (Nat.le_refl _))]
  · rw [List.take_of_length_le (by omega)]; rwa [List.take_of_length_le (Nat.le_refl _)] at h5

theorem po_stop {L : List UInt8} {o : List (List UInt8)} {b : Nat} (h : PoRel L o b L.length) (hb : ¬ b < L.length) : PoRel L o (L.length + 1) (L.length + 1) := by
  obtain ⟨h1, _, h3, h4, h5⟩ := h
  obtain ⟨hbi, hf⟩ := h1 (Nat.le_refl _)
  obtain rfl : b = L.length := by omega
  refine ⟨fun h => by omega, fun _ => ?_, by omega, by omega, ?_⟩
  · rw [hf, List.drop_of_length_le (Nat.le_refl _), cur_none]; simp [Lib.fieldsGo]
  · rw [List.take_of_length_le (by omega)]; rwa [List.take_of_length_le (Nat.le_refl _)] at h5

theorem po_end {L : List UInt8} {o : List (List UInt8)} {b i : Nat} (h : PoRel L o b i) (hi : L.length < i) : Lib.fields L = o ∧ printB L = true := by
  obtain ⟨_, h2, h3, _, h5⟩ := h
  refine ⟨h2 hi, ?_⟩
  rwa [List.take_of_length_le (by omega)] at h5

theorem print_bad {L : List UInt8} {i : Nat} (hi : i < L.length) (h : okB L[i] = false) : printB L = false := by
  rw [printB, List.all_eq_false]
  exact ⟨L[i], List.getElem_mem hi, by simp [h]⟩

end Go.Proofs.YtocccahgccoimanDoor
