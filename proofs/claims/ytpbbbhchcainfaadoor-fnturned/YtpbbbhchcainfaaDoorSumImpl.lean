/- Sums: what the program's functions answer. -/
import Derived.Test.YtpbbbhchcainfaaDoorSumSpec
import Derived.Test.YtpbbbhchcainfaaDoorSumTab
import Derived.Test.YtpbbbhchcainfaaDoorTab
import Derived.Test.YtpbbbhchcainfaaDoorShelf
namespace Go.Proofs.YtpbbbhchcainfaaDoor
open Go.RowKit

/-- The program's table holds what its initialiser lays. -/
abbrev Turns (W : World) : Prop := Lib.TabIs Tryd.prog W "loop.example/g00243/impl.halfTurns" .u32 turnTab

set_option maxHeartbeats 800000 in
theorem half4_any (x : Nat) (w : World) (hx : x < 4294967296) (T : Turns w) :
    Calls Tryd.prog 28 #[.int .u32 x] w fun e w' => e = .returned (.int .u32 (halves 4 x)) ∧ w' = w := by
  have hc := T.cell (show Tryd.prog.globalNamed "loop.example/g00243/impl.halfTurns" = some 0 by kernel_rfl) (x % 16) (by simp [turnTab]; omega)
  rw [turnTab_at _ (by omega)] at hc
  have HF : Hid (_ = _) := halves_four x
  have hl := halves_lt 4 (x % 16) (by omega)
  generalize halves 4 (x % 16) = z at *
  have e2 := u32_xor_nat (x / 16) z (by omega) (by omega)
  clear T
  go_enter Tryd.func28, Tryd.ntmps28
  go_wp2
  go_ret
  rw [HF.out, ← e2]
  exact ⟨rfl, rfl⟩

set_option maxHeartbeats 800000 in
theorem with_any (x : Nat) (b : UInt8) (w : World) (hx : x < 4294967296) (T : Turns w) :
    Calls Tryd.prog 25 #[.int .u32 x, .int .u8 b.toNat] w fun e w' => e = .returned (.int .u32 (sumStep x b)) ∧ w' = w := by
  have hb := b.toNat_lt
  have ex := u32_xor_nat x b.toNat hx (by omega)
  have hz := Nat.xor_lt_two_pow (n := 32) hx (show b.toNat < 2 ^ 32 by omega)
  have HF : Hid (sumStep x b = halves 4 (halves 4 (x ^^^ b.toNat))) := halves_eight _
  generalize x ^^^ b.toNat = z at *
  have hu := halves_lt 4 z hz
  have H1 : Hid (∀ W, _) := fun W => half4_any z W hz
  have H2 : Hid (∀ W, _) := fun W => half4_any (halves 4 z) W hu
  have HT : Hid (Turns w) := T
  clear T
  generalize halves 4 z = u at *
  go_enter Tryd.func25, Tryd.ntmps25
  go_wp2_with (fail)
  refine (H1.out _ HT.out).mono ?_
  rintro e w1 ⟨rfl, hw⟩
  rw [hw]
  clear hw
  go_wp2_with (fail)
  refine (H2.out _ HT.out).mono ?_
  rintro e w1 ⟨rfl, hw⟩
  rw [hw]
  clear hw
  go_wp2
  go_ret
  rw [HF.out]
  exact ⟨rfl, rfl⟩

set_option maxHeartbeats 1600000 in
set_option maxRecDepth 100000 in
theorem sumMore_any (x : Nat) (s : ByteArray) (w : World) (hx : x < 4294967296) (hs : s.size ≤ 1048577) (T : Turns w) :
    Calls Tryd.prog 13 #[.int .u32 x, .string s] w fun e w' => e = .returned (.int .u32 (sumB x s.data.toList)) ∧ w' = w := by
  have HT : Hid (Turns w) := T
  clear T
  go_enter Tryd.func13, Tryd.ntmps13
  go_wp2
  go_loop [5, 10] (fun sv iv => ∃ k : Nat, k ≤ s.size ∧ iv = .int .i64 k ∧ sv = .int .u32 (sumB x (s.data.toList.take k))) (fun _ iv => s.size - (intOf iv).toNat)
  case atStart => exact ⟨0, Nat.zero_le _, rfl, rfl⟩
  case round =>
    obtain ⟨k, hk, rfl, rfl⟩ := hrel
    have hy := sumB_lt (s.data.toList.take k) x hx
    generalize hq : sumB x (s.data.toList.take k) = y at *
    have HQ : Hid (sumB x (s.data.toList.take k) = y) := hq
    clear hq
    by_cases hlt : k < s.size
    · have HN : Hid (sumB x (s.data.toList.take (k + 1)) = sumStep y s[k]) := by
        have := HQ.out
        exact (by rw [take_snoc4 s k hlt, sumB_snoc, this] : sumB x (s.data.toList.take (k + 1)) = sumStep y s[k])
      have H1 : Hid (∀ W, _) := fun W => with_any y s[k] W hy
      generalize sumStep y s[k] = z at *
      go_wp2_with (fail)
      refine (H1.out _ HT.out).mono ?_
      rintro e w1 ⟨rfl, hw1⟩
      rw [hw1]
      clear hw1
      go_wp2
      go_round
      case rel => exact ⟨k + 1, by omega, by go_num, by rw [HN.out]⟩
      case measure => simp [intOf]; omega
    · obtain rfl : k = s.size := by omega
      have HE : Hid (sumB x s.data.toList = y) := by
        have := HQ.out
        rwa [List.take_of_length_le (by simp)] at this
      go_wp2
      go_ret
      rw [HE.out]
      exact ⟨rfl, rfl⟩

theorem sumOf_any (s : ByteArray) (w : World) (hs : s.size ≤ 1048577) (T : Turns w) :
    Calls Tryd.prog 14 #[.string s] w fun e w' => e = .returned (.int .u32 (sumB 4294967295 s.data.toList)) ∧ w' = w := by
  go_enter Tryd.func14, Tryd.ntmps14
  go_wp2_with (go_at_call 13; refine (sumMore_any 4294967295 s _ (by omega) hs T).mono ?_; rintro e w1 ⟨rfl, rfl⟩)
  go_ret
  exact ⟨rfl, rfl⟩

set_option maxHeartbeats 800000 in
theorem bytes_any (x : Nat) (w : World) (hx : x < 4294967296) :
    Calls Tryd.prog 23 #[.int .u32 x] w fun e w' => e = .returned (.string (str (four x))) ∧ Below w.heap.size w w' := by
  have hcv := fun W => run_lit_string (P := Tryd.prog) W 22 9 5 (four x) (by simp [four]) Tryd.underlying22 Tryd.underlying5 Tryd.underlying9
  rw [bv_four x hx] at hcv
  have hfl : (four x).length = 4 := rfl
  rw [hfl] at hcv
  clear hfl
  go_enter Tryd.func23, Tryd.ntmps23
  go_wp2
  go_ret
  exact ⟨rfl, (Below.refl _ _).alloc (Nat.le_refl _) _⟩

end Go.Proofs.YtpbbbhchcainfaaDoor
