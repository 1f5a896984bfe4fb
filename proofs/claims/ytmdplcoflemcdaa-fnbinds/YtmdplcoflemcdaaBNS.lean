/- The specification's BindNum. -/
import Derived.Test.YtmdplcoflemcdaaBNP
import Derived.Test.YtmdplcoflemcdaaEnvOk
namespace Go.Proofs.Ytmdplcoflemcdaa
open Go.RowKit
set_option linter.unusedVariables false

theorem figs_next (l : List UInt8) (k : Nat) (h : k < l.length) : figsB (l.take (k + 1)) = (figsB (l.take k) && (decide (48 ≤ l[k].toNat) && decide (l[k].toNat ≤ 57))) := by
  rw [figsB, List.take_succ_eq_append_getElem h, List.all_append, ← figsB]
  simp
theorem numI_snoc : ∀ (l : List UInt8) (n : Int) (u : UInt8), numI n (l ++ [u]) = 10 * numI n l + (u.toNat : Int) - 48
  | [], n, u => rfl
  | x :: l, n, u => by rw [List.cons_append, numI, numI, numI_snoc l]
theorem numI_next (l : List UInt8) (k : Nat) (h : k < l.length) : numI 0 (l.take (k + 1)) = 10 * numI 0 (l.take k) + (l[k].toNat : Int) - 48 := by
  rw [List.take_succ_eq_append_getElem h, numI_snoc]
theorem numI_bound : ∀ (l : List UInt8) (n : Int) (m : Nat), -(m : Int) ≤ n → n ≤ m → l.length ≤ 2 → (-(100 * (m : Int) + 5000) ≤ numI n l) ∧ numI n l ≤ 100 * (m : Int) + 5000
  | [], n, m, h1, h2, _ => by rw [numI]; omega
  | [a], n, m, h1, h2, _ => by
    have := a.toNat_lt
    simp only [numI]; omega
  | [a, b], n, m, h1, h2, _ => by
    have := a.toNat_lt
    have := b.toNat_lt
    simp only [numI]; omega
  | _ :: _ :: _ :: _, _, _, _, _, h => by simp at h

set_option maxHeartbeats 3200000 in
set_option maxRecDepth 100000 in
theorem bindNum_any (s : ByteArray) (w : World) (hs : s.size ≤ 1048576) :
    Calls Try.prog 19 #[.string s] w fun e w' => e = .returned (.int .i64 (bindNum s)) ∧ w' = w := by
  have HB : Hid (∀ _ : Unit, bindNum s = if (decide ((1 : Int) ≤ s.size ∧ (s.size : Int) ≤ 2) && figsB s.data.toList) = true then numI 0 s.data.toList else if 99 < s.size then 99 else s.size) := fun _ => rfl
  by_cases h12 : 1 ≤ s.size ∧ s.size ≤ 2
  · have HIn : Hid (∀ W, Calls Try.prog 28 #[.int .i64 s.size, .int .i64 1, .int .i64 2] W fun e w' => e = .returned (.bool true) ∧ w' = W) := fun W => by
      have := in_any s.size 1 2 W
      rwa [decide_eq_true (by omega)] at this
    have hll : s.data.toList.length = s.size := by simp
    have HN0 : Hid (∀ k, k ≤ 2 → -5000 ≤ numI 0 (s.data.toList.take k) ∧ numI 0 (s.data.toList.take k) ≤ 5000) := fun k hk => by
      have := numI_bound (s.data.toList.take k) 0 0 (by omega) (by omega) (by rw [List.length_take]; omega)
      omega
    go_enter Try.func19, Try.ntmps19
    go_wp2_with (go_at_call 28; refine (HIn.out _).mono ?_; rintro e wq ⟨rfl, hw⟩; rw [hw]; clear hw)
    go_loopw [3, 4, 5] (fun nv ov iv wr => ∃ k : Nat, iv = .int .i64 k ∧ k ≤ s.size ∧ nv = .int .i64 (numI 0 (s.data.toList.take k)) ∧ ov = .bool (figsB (s.data.toList.take k)) ∧ wr = w) (fun _ _ iv _ => s.size - (intOf iv).toNat)
    case atStart => exact ⟨0, rfl, Nat.zero_le _, rfl, rfl, rfl⟩
    case round =>
      obtain ⟨k, rfl, hk, rfl, rfl, hwr⟩ := hrel
      rw [hwr]
      clear hwr
      by_cases hlt : k < s.size
      · have hu := s[k].toNat_lt
        have HNx : Hid (_ = _) := numI_next s.data.toList k (by simpa using hlt)
        have HFx : Hid (_ = _) := figs_next s.data.toList k (by simpa using hlt)
        have hb := HN0.out k (by omega)
        have e0 : (s.data.toList[k]'(by simpa using hlt)) = s[k] := rfl
        rw [e0] at HNx HFx
        have i4 : (k : Int) < (s.size : Int) := by omega
        clear hll e0
        generalize numI 0 (s.data.toList.take k) = n at *
        have w1 : IntKind.i64.wrap (10 * n) = 10 * n := by rw [IntKind.wrap_i64]; omega
        have w2 : IntKind.i64.wrap (10 * n + (s[k].toNat : Int)) = 10 * n + (s[k].toNat : Int) := by rw [IntKind.wrap_i64]; omega
        have w3 : IntKind.i64.wrap (10 * n + (s[k].toNat : Int) - 48) = 10 * n + (s[k].toNat : Int) - 48 := by rw [IntKind.wrap_i64]; omega
        have w4 : IntKind.i64.wrap (s[k].toNat : Int) = (s[k].toNat : Int) := by rw [IntKind.wrap_i64]; omega
        generalize s.data.toList = l at *
        cases hf : figsB (l.take k) with
        | false =>
          rw [hf, Bool.false_and] at HFx
          go_wp2
          go_roundw
          case rel => exact ⟨k + 1, by go_num, by omega, by rw [HNx.out], by rw [HFx.out], (by first | rfl | trivial)⟩
          case measure => simp [intOf]; omega
        | true =>
          rw [hf, Bool.true_and] at HFx
          by_cases c1 : 48 ≤ s[k].toNat
          · by_cases c2 : s[k].toNat ≤ 57
            · have e57 : decide ((s[k].toNat : Int) ≤ 57) = true := by rw [decide_eq_true]; omega
              rw [decide_eq_true c1, decide_eq_true c2] at HFx
              go_wp2
              go_roundw
              case rel => exact ⟨k + 1, by go_num, by omega, by rw [HNx.out], by rw [HFx.out]; rfl, (by first | rfl | trivial)⟩
              case measure => simp [intOf]; omega
            · have e57 : decide ((s[k].toNat : Int) ≤ 57) = false := by rw [decide_eq_false]; omega
              rw [decide_eq_false c2, Bool.and_false] at HFx
              go_wp2
              go_roundw
              case rel => exact ⟨k + 1, by go_num, by omega, by rw [HNx.out], by rw [HFx.out], (by first | rfl | trivial)⟩
              case measure => simp [intOf]; omega
          · have c1' : s[k].toNat < 48 := by omega
            rw [decide_eq_false c1, Bool.false_and] at HFx
            go_wp2
            go_roundw
            case rel => exact ⟨k + 1, by go_num, by omega, by rw [HNx.out], by rw [HFx.out], (by first | rfl | trivial)⟩
            case measure => simp [intOf]; omega
      · obtain rfl : k = s.size := by omega
        have e1 : s.data.toList.take s.size = s.data.toList := List.take_of_length_le (by rw [hll]; exact Nat.le_refl _)
        rw [e1]
        cases hf : figsB s.data.toList with
        | true =>
          have HV : Hid (bindNum s = numI 0 s.data.toList) := by rw [Hid, HB.out (), hf, decide_eq_true (by omega)]; rfl
          clear HB hll e1
          generalize s.data.toList = l at *
          go_wp2
          go_ret
          rw [HV.out]
          exact ⟨rfl, rfl⟩
        | false =>
          have HV : Hid (bindNum s = s.size) := by rw [Hid, HB.out (), hf, Bool.and_false, if_neg (by decide), if_neg (by omega)]
          clear HB hll e1
          generalize s.data.toList = l at *
          go_wp2
          go_ret
          rw [HV.out]
          exact ⟨rfl, rfl⟩
  · have HIn : Hid (∀ W, Calls Try.prog 28 #[.int .i64 s.size, .int .i64 1, .int .i64 2] W fun e w' => e = .returned (.bool false) ∧ w' = W) := fun W => by
      have := in_any s.size 1 2 W
      rwa [decide_eq_false (by omega)] at this
    by_cases h99 : 99 < s.size
    · have HV : Hid (bindNum s = 99) := by rw [Hid, HB.out (), decide_eq_false (by omega), Bool.false_and, if_neg (by decide), if_pos h99]
      clear HB
      go_enter Try.func19, Try.ntmps19
      go_wp2_with (go_at_call 28; refine (HIn.out _).mono ?_; rintro e wq ⟨rfl, hw⟩; rw [hw]; clear hw)
      go_ret
      rw [HV.out]
      exact ⟨rfl, rfl⟩
    · have HV : Hid (bindNum s = s.size) := by rw [Hid, HB.out (), decide_eq_false (by omega), Bool.false_and, if_neg (by decide), if_neg h99]
      clear HB
      go_enter Try.func19, Try.ntmps19
      go_wp2_with (go_at_call 28; refine (HIn.out _).mono ?_; rintro e wq ⟨rfl, hw⟩; rw [hw]; clear hw)
      go_ret
      rw [HV.out]
      exact ⟨rfl, rfl⟩

end Go.Proofs.Ytmdplcoflemcdaa
