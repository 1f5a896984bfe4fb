/- slices.IndexFunc at the climb's closure. -/
import Derived.Test.YtkojkicfibmjdaaOpI
namespace Go.Proofs.Ytkojkicfibmjdaa
open Go.RowKit
set_option linter.unusedVariables false

set_option maxHeartbeats 1600000 in
theorem indexFuncB_any (p : OpD → Bool) (cv v : Value) (xs : List OpD) (w : World) (hn : xs.length ≤ 1048576) (h : Ops w v xs)
    (hC : ∀ x ∈ xs, ∀ W : World, Below w.heap.size w W → Calls Try.prog 44 #[.agg #[.string x.sign, .int .i64 x.level, .bool x.right], cv] W fun e w' => e = .returned (.bool (p x)) ∧ Below W.heap.size W w') :
    Calls Try.prog 38 #[v, .func (.func 44) #[] #[cv]] w fun e w' => e = .returned (.int .i64 (idxI p xs)) ∧ Below w.heap.size w w' := by
  obtain ⟨a, cap, rfl⟩ := h.slice
  have HR : Hid (Ops w (.slice a xs.length cap) xs) := h
  have HC : Hid (∀ x ∈ xs, ∀ W : World, Below w.heap.size w W → Calls Try.prog 44 #[.agg #[.string x.sign, .int .i64 x.level, .bool x.right], cv] W fun e w' => e = .returned (.bool (p x)) ∧ Below W.heap.size W w') := hC
  clear h hC
  go_enter Try.func38, Try.ntmps38
  go_wp2
  go_loopw [8] (fun iv wr => ∃ k : Nat, iv = .int .i64 k ∧ k ≤ xs.length ∧ idxF p k (xs.drop k) = idxI p xs ∧ Below w.heap.size w wr) (fun iv _ => xs.length - (intOf iv).toNat)
  case atStart => exact ⟨0, rfl, Nat.zero_le _, rfl, Below.refl _ _⟩
  case round =>
    obtain ⟨k, rfl, hk, hat, hbw⟩ := hrel
    have HA : Hid (idxF p k (xs.drop k) = idxI p xs) := hat
    have BW : Hid (Below w.heap.size w wr) := hbw
    clear hat hbw
    by_cases hlt : k < xs.length
    · have HD : Hid (_ = _) := idxF_drop p xs k hlt
      obtain ⟨b, off, rfl, n0, n1, n2⟩ := (HR.out.below BW.out).at hlt
      have i4 : (k : Int) < (xs.length : Int) := by omega
      have HCl : Hid (∀ W : World, Below w.heap.size w W → _) := HC.out xs[k] (List.getElem_mem hlt)
      by_cases he : p xs[k] = true
      · rw [he] at HCl
        have HV : Hid (idxI p xs = (k : Int)) := by rw [Hid, ← HA.out, HD.out, if_pos he]
        clear he
        go_wp2_with (go_at_call 44; refine (HCl.out _ BW.out).mono ?_; rintro e w1 ⟨rfl, hb1⟩)
        go_ret
        rw [HV.out]
        exact ⟨rfl, BW.out.trans (hb1.mono BW.out.size)⟩
      · have HN : Hid (idxF p (k + 1) (xs.drop (k + 1)) = idxI p xs) := by rw [Hid, ← HA.out, HD.out, if_neg he]
        rw [Bool.not_eq_true] at he
        rw [he] at HCl
        clear he
        go_wp2_with (go_at_call 44; refine (HCl.out _ BW.out).mono ?_; rintro e w1 ⟨rfl, hb1⟩)
        go_roundw
        case rel => exact ⟨k + 1, by go_num, by omega, HN.out, BW.out.trans (hb1.mono BW.out.size)⟩
        case measure => simp [intOf]; omega
    · obtain rfl : k = xs.length := by omega
      have HV : Hid (idxI p xs = -1) := by rw [Hid, ← HA.out, List.drop_of_length_le (Nat.le_refl _)]; rfl
      go_wp2
      go_ret
      rw [HV.out]
      exact ⟨rfl, BW.out⟩

end Go.Proofs.Ytkojkicfibmjdaa
