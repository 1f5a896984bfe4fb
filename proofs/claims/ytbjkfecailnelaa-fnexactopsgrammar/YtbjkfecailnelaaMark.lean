/- The texts that the laws write into an answer's strings: what markText answers at every number above 0. -/
import Derived.Test.YtbjkfecailnelaaRows
import Derived.Test.YtbjkfecailnelaaDecPure
namespace Go.Proofs.Ytbjkfecailnelaa
open Go.RowKit

def markB (k : Nat) : List UInt8 := 109 :: digs k

/-- What holds at each round's head: the figures of m are left. -/
def MarkRel (n0 : Nat) (base : Nat) (w : World) (nv sv : Value) (wr : World) : Prop :=
  ∃ (m : Nat) (t : List UInt8), nv = .int .i64 m ∧ sv = .string (str t) ∧ digs m ++ t = digs n0 ∧ m ≤ n0 ∧ Below base w wr ∧ base ≤ wr.heap.size

theorem markRel_step {n0 m : Nat} {base : Nat} {w wr : World} {t : List UInt8} (hm : 0 < m) (hmn : m ≤ n0)
    (hd : digs m ++ t = digs n0) (hbel : Below base w wr) (hsz : base ≤ wr.heap.size) (o : Obj) :
    MarkRel n0 base w (.int .i64 ((m : Int) / 10)) (.string (str ([byteI (48 + (m : Int) % 10)] ++ t))) (wr.alloc o) := by
  refine ⟨m / 10, _, by simp, rfl, ?_, by omega, hbel.alloc hsz o, by simp; omega⟩
  rw [← hd, digs_step m (by omega)]
  have : (48 + (m : Int) % 10).toNat = 48 + m % 10 := by omega
  rw [byteI, this]
  simp

theorem mark_room {n0 m : Nat} {t : List UInt8} (hd : digs m ++ t = digs n0) (b2 : n0 ≤ 1000000000000) : t.length ≤ 100000000001 := by
  have h1 := digs_len n0
  have h2 := congrArg List.length hd
  rw [List.length_append] at h2
  omega

set_option maxHeartbeats 800000 in
theorem mark_any (n : Nat) (w : World) (h0 : 0 < n) (h1 : n ≤ 1000000000000) :
    Calls Try.prog 23 #[.int .i64 n] w fun e w' => e = .returned (.string (str (markB n))) ∧ Below w.heap.size w w' := by
  have hn0 : ¬ n = 0 := by omega
  go_enter Try.func23, Try.ntmps23
  go_wp2
  go_loopw [0, 3] (fun nv sv wr => MarkRel n w.heap.size w nv sv wr) (fun nv _ _ => (intOf nv).toNat)
  case atStart => exact ⟨n, [], rfl, rfl, by simp, Nat.le_refl _, Below.refl _ _, Nat.le_refl _⟩
  case round =>
    obtain ⟨m, t, rfl, rfl, hd, hmn, hbel, hsz⟩ := hrel
    have hroom := mark_room hd h1
    have HD : Hid (digs m ++ t = digs n) := hd
    clear hd
    have hz : (str t).size ≤ 100000000001 := by rw [str_size]; omega
    by_cases hm : 0 < m
    · have hcv := fun W => run_one_string (P := Try.prog) W 72 9 5 (48 + (m : Int) % 10) (by omega) (by omega) Try.underlying72 Try.underlying5 Try.underlying9
      have hadd := fun W => run_add_str (P := Try.prog) W [byteI (48 + (m : Int) % 10)] t (by simp; omega)
      have R := markRel_step hm hmn HD.out hbel hsz (.cells #[.int .u8 (48 + (m : Int) % 10)] 5)
      go_wp2
      go_roundw
      case rel => exact R
      case measure => simp [intOf]; omega
    · obtain rfl : m = 0 := by omega
      have HE : Hid (markB n = [109] ++ t) := by
        have := HD.out
        simp only [digs, if_true, List.nil_append] at this
        simp only [Hid, markB, digs, this]
        rfl
      go_wp2
      go_ret
      rw [HE.out, ← str_add]
      exact ⟨rfl, hbel⟩

end Go.Proofs.Ytbjkfecailnelaa
