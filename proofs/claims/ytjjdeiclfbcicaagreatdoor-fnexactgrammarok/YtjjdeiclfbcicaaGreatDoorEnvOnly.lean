/- EnvOnly of the specification. -/
import Derived.Test.YtjjdeiclfbcicaaGreatDoorEnvSet
import Derived.Test.YtjjdeiclfbcicaaGreatDoorSKit
namespace Go.Proofs.YtjjdeiclfbcicaaGreatDoor
open Go.RowKit

def inB (ss : List ByteArray) (s : ByteArray) : Bool := ss.any (fun t => decide (t = s))
theorem inB_iff (ss : List ByteArray) (s : ByteArray) : inB ss s = true ↔ s ∈ ss := by simp [inB]
def onlyB (xs : List VarD) (ss : List ByteArray) : List VarD := xs.filter (fun x => inB ss x.1)

set_option maxHeartbeats 800000 in
theorem specIn_any (v : Value) (ss : List ByteArray) (s : ByteArray) (w : World) (hn : ss.length ≤ 1048576) (h : SRow w v ss) :
    Calls Tryz.prog 35 #[v, .string s] w fun e w' => e = .returned (.bool (inB ss s)) ∧ w' = w := by
  have HR : Hid (SRow w v ss) := h
  obtain ⟨a, cap, rfl⟩ := h.slice
  clear h
  go_enter Tryz.func35, Tryz.ntmps35
  go_wp2
  go_loop [5] (fun iv => ∃ k : Nat, iv = .int .i64 k ∧ k ≤ ss.length ∧ ∀ j (hj : j < ss.length), j < k → ss[j] ≠ s) (fun iv => ss.length - (intOf iv).toNat)
  case atStart => exact ⟨0, rfl, Nat.zero_le _, fun _ _ h => by omega⟩
  case round =>
    obtain ⟨k, rfl, hk, hj⟩ := hrel
    have HJ : Hid (∀ j (hj : j < ss.length), j < k → ss[j] ≠ s) := hj
    clear hj
    by_cases hlt : k < ss.length
    · obtain ⟨b, off, rfl, hc1⟩ := HR.out.at hlt
      by_cases hnm : ss[k] = s
      · have ht := beq_yes hnm
        have HV : Hid (inB ss s = true) := by rw [Hid, inB_iff, ← hnm]; exact List.getElem_mem _
        clear hnm
        go_wp2
        go_ret
        rw [HV.out]
        exact ⟨rfl, rfl⟩
      · have ht := beq_no hnm
        go_wp2
        go_round
        case rel =>
          refine ⟨k + 1, by go_num, by omega, fun j hj hjk => ?_⟩
          by_cases e : j = k
          · subst e; exact hnm
          · exact HJ.out j hj (by omega)
        case measure => simp [intOf]; omega
    · have HV : Hid (inB ss s = false) := by
        rw [Hid, ← Bool.not_eq_true, inB_iff]
        intro hm
        obtain ⟨j, hj, e⟩ := List.getElem_of_mem hm
        exact HJ.out j hj (by omega) e
      go_wp2
      go_ret
      rw [HV.out]
      exact ⟨rfl, rfl⟩
theorem specIn_is (v : Value) (ss : List ByteArray) (s : ByteArray) (b : Bool) (hb : inB ss s = b) (w : World) (hn : ss.length ≤ 1048576) (h : SRow w v ss) :
    Calls Tryz.prog 35 #[v, .string s] w fun e w' => e = .returned (.bool b) ∧ w' = w := by
  rw [← hb]; exact specIn_any v ss s w hn h


end Go.Proofs.YtjjdeiclfbcicaaGreatDoor
