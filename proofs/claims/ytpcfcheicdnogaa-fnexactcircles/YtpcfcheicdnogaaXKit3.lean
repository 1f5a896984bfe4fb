/- The laws' own helpers on expressions: whole ones copied, compared with their like. -/
import Derived.Test.YtpcfcheicdnogaaXKit2
namespace Go.Proofs.Ytpcfcheicdnogaa
open Go.RowKit


set_option maxHeartbeats 1600000 in
theorem eqIntS_same (u v : Value) (ks : List Int) (w : World) (hx : ks.length ≤ 1048576) (h : IRow w u ks) (h' : IRow w v ks) :
    Calls Try.prog 39 #[u, v] w fun e w' => e = .returned (.bool true) ∧ ∃ q, w' = w.drewN q := by
  have HX : Hid (IRow w u ks) := h
  have HY : Hid (IRow w v ks) := h'
  obtain ⟨a, cap, rfl⟩ := h.slice
  obtain ⟨a', cap', rfl⟩ := h'.slice
  clear h h'
  go_enter Try.func39, Try.ntmps39
  go_wp2
  go_loopw [5] (fun iv wr => ∃ k q : Nat, iv = .int .i64 k ∧ k ≤ ks.length ∧ wr = w.drewN q) (fun iv _ => ks.length - (intOf iv).toNat)
  case atStart => exact ⟨0, 0, rfl, Nat.zero_le _, rfl⟩
  case round =>
    obtain ⟨k, q, rfl, hk, hwr⟩ := hrel
    have HW : Hid (wr = w.drewN q) := hwr
    have HXr : Hid (IRow wr (.slice a ks.length cap) ks) := by rw [HW.out]; exact HX.out.below (bel_drewN (Below.refl _ _) q)
    have HYr : Hid (IRow wr (.slice a' ks.length cap') ks) := by rw [HW.out]; exact HY.out.below (bel_drewN (Below.refl _ _) q)
    clear hwr
    by_cases hlt : k < ks.length
    · obtain ⟨b, off, rfl, hc1⟩ := HXr.out.at hlt
      obtain ⟨b', off', rfl, hc2⟩ := HYr.out.at hlt
      have i4 : (k : Int) < (ks.length : Int) := by omega
      go_wp2
      go_big_quiet (fail)
      go_wp2
      go_roundw
      case rel => exact ⟨k + 1, q + nq, by go_num, by omega, by rw [HW.out, World.drewN_drewN]⟩
      case measure => simp [intOf]; omega
    · obtain rfl : k = ks.length := by omega
      go_wp2
      go_ret
      exact ⟨rfl, q, HW.out⟩




end Go.Proofs.Ytpcfcheicdnogaa
