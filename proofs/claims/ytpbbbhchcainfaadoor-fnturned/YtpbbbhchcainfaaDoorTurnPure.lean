/- A sealed text with one byte turned is not unsealed: the plain mathematics. -/
import Derived.Test.YtpbbbhchcainfaaDoorSumSpec
namespace Go.Proofs.YtpbbbhchcainfaaDoor
open Go.RowKit

theorem sealB_len (l : List UInt8) : (sealB l).length = l.length + 4 := by simp [sealB, four_len]

theorem unOk_seal (l : List UInt8) (h : l.length ≤ 20000) : unOk (sealB l) = true := by
  rw [unOk_iff, sealB_len]
  refine ⟨by omega, by omega, ?_⟩
  rw [show l.length + 4 - 4 = l.length by omega]
  simp [sealB]

theorem usVal_seal (l : List UInt8) (h : l.length ≤ 20000) : usVal (sealB l) = .tuple #[.string (str l), .bool true] := by
  rw [usVal_yes (unOk_seal l h), sealB_len, show l.length + 4 - 4 = l.length by omega]
  simp [sealB]

theorem split_at (l : List UInt8) (i : Nat) (h : i < l.length) : l = l.take i ++ l[i] :: l.drop (i + 1) := by
  simp

theorem set_at (l : List UInt8) (i : Nat) (c : UInt8) (h : i < l.length) : l.set i c = l.take i ++ c :: l.drop (i + 1) := by
  rw [List.set_eq_take_append_cons_drop, if_pos h]

theorem unOk_turned (l : List UInt8) (i : Nat) (c : UInt8) (hi : i < (sealB l).length) (hc : c ≠ (sealB l)[i]) : unOk ((sealB l).set i c) = false := by
  cases hh : unOk ((sealB l).set i c) with
  | false => rfl
  | true =>
    exfalso
    obtain ⟨_, _, h⟩ := (unOk_iff _).1 hh
    have hlen := sealB_len l
    rw [List.length_set, hlen, show l.length + 4 - 4 = l.length by omega] at h
    by_cases him : i < l.length
    · have e1 : (sealB l).set i c = l.set i c ++ four (sumB 4294967295 l) := by
        rw [sealB, List.set_append_left _ _ him]
      have e2 : (sealB l)[i] = l[i] := by simp only [sealB]; exact List.getElem_append_left him
      rw [e1] at h
      rw [List.drop_left' (by simp), List.take_left' (by simp)] at h
      have e3 := four_inj (sumB_lt _ _ (by omega)) (sumB_lt _ _ (by omega)) h
      rw [set_at l i c him] at e3
      conv at e3 => lhs; rw [split_at l i him]
      exact sumB_turned 4294967295 (l.take i) (l.drop (i + 1)) l[i] c (by omega) (fun e => hc (by rw [e2, e])) e3
    · have e1 : (sealB l).set i c = l ++ (four (sumB 4294967295 l)).set (i - l.length) c := by
        rw [sealB, List.set_append_right _ _ (by omega)]
      rw [e1] at h
      rw [List.drop_left' rfl, List.take_left' rfl] at h
      have e2 := congrArg (fun z => z[i - l.length]?) h
      have hlt : i - l.length < (four (sumB 4294967295 l)).length := by rw [four_len]; omega
      simp only [List.getElem?_set_self hlt] at e2
      rw [List.getElem?_eq_getElem hlt] at e2
      apply hc
      rw [Option.some.inj e2]
      simp only [sealB]
      rw [List.getElem_append_right (by omega)]

/-- A byte and another that is not 0, exclusive-or, is another byte. -/
theorem xor_other (x d : Nat) (hx : x < 256) (hd : d < 256) (h0 : 0 < d) : UInt8.ofNat (x ^^^ d) ≠ UInt8.ofNat x := by
  intro h
  have hl := Nat.xor_lt_two_pow (n := 8) hx hd
  have := congrArg UInt8.toNat h
  rw [toNat_ofNat _ hl, toNat_ofNat _ hx] at this
  have e : d ^^^ x = 0 ^^^ x := by rw [Nat.zero_xor, Nat.xor_comm]; exact this
  have := xor_cancel e
  omega

end Go.Proofs.YtpbbbhchcainfaaDoor
