/- The specification's climber: op, atom, climb, and Climb, walked. -/
import Derived.Test.YtkojkicfibmjdaaOpC
namespace Go.Proofs.Ytkojkicfibmjdaa
open Go.RowKit
set_option linter.unusedVariables false

/-- The climber behind its pointer; W: the world ahead of it. -/
structure ClB (W : World) (xs : List OpD) (a : Option Addr) (cap : Nat) (text : ByteArray) (p : Nat) (c : ClD) (w : World) : Prop where
  bel : Below W.heap.size W w
  le : W.heap.size ≤ p
  box : w.heap[p]? = some (.cells #[.slice a xs.length cap, .string text, .int .i64 c.at', .bool c.bad] 57 (0, 0))
  ops : Ops W (.slice a xs.length cap) xs
section
variable {W : World} {xs : List OpD} {a : Option Addr} {cap : Nat} {text : ByteArray} {p : Nat} {c : ClD} {w : World}
theorem ClB.drewN (h : ClB W xs a cap text p c w) (q : Nat) : ClB W xs a cap text p c (w.drewN q) := ⟨bel_drewN h.bel q, h.le, h.box, h.ops⟩
theorem ClB.set2 (h : ClB W xs a cap text p c w) (n : Nat) : ClB W xs a cap text p ⟨n, c.bad⟩ (w.setCell ⟨p, 2, none⟩ (.int .i64 n)) := ⟨h.bel.setCell h.le _, h.le, setCell_self (j := 2) _ h.box, h.ops⟩
theorem ClB.set3 (h : ClB W xs a cap text p c w) (b : Bool) : ClB W xs a cap text p ⟨c.at', b⟩ (w.setCell ⟨p, 3, none⟩ (.bool b)) := ⟨h.bel.setCell h.le _, h.le, setCell_self (j := 3) _ h.box, h.ops⟩
theorem ClB.row (h : ClB W xs a cap text p c w) : Ops w (.slice a xs.length cap) xs := h.ops.below h.bel
end
def opI : Option Nat → Int
  | none => -1
  | some k => k
theorem byteAt_is {text : ByteArray} {i : Nat} (h : i < text.size) : byteAt text i = text[i] := by
  unfold byteAt
  rw [List.getD_eq_getElem?_getD, List.getElem?_eq_getElem (by simpa using h)]
  rfl

set_option maxHeartbeats 3200000 in
set_option maxRecDepth 100000 in
theorem opOf_any (W : World) (xs : List OpD) (a : Option Addr) (cap : Nat) (text : ByteArray) (p : Nat) (c : ClD) (w : World) (hl : xs.length ≤ 1048576) (ht : text.size ≤ 1048576) (hc : c.at' ≤ text.size) (h : ClB W xs a cap text p c w) :
    Calls Try.prog 43 #[.pointer (some ⟨p, 0, none⟩)] w fun e w' => e = .returned (.int .i64 (opI (next13 xs text c))) ∧ ClB W xs a cap text p c w' := by
  have H : Hid (ClB W xs a cap text p c w) := h
  have c0 := run_cell (j := 0) h.box rfl
  have c1 := run_cell (j := 1) h.box rfl
  have c2 := run_cell (j := 2) h.box rfl
  have c3 := run_cell (j := 3) h.box rfl
  clear h
  by_cases hbad : c.bad = true
  · have HV : Hid (next13 xs text c = none) := if_pos (.inl hbad)
    rw [hbad] at c3
    rw [HV.out]
    go_enter Try.func43, Try.ntmps43
    go_wp2
    go_loopw [3] (fun iv wr => ∃ q : Nat, iv = .int .i64 0 ∧ wr = w.drewN q) (fun iv _ => 0)
    case atStart => exact ⟨0, rfl, rfl⟩
    case round =>
      obtain ⟨q, rfl, rfl⟩ := hrel
      by_cases h0 : 0 < xs.length
      · have d0 : decide ((0 : Int) < (xs.length : Int)) = true := decide_eq_true (by omega)
        go_wp2
        go_quiet (fail)
        go_wp2
        go_ret
        exact ⟨rfl, (H.out.drewN q).drewN _⟩
      · have d0 : decide ((0 : Int) < (xs.length : Int)) = false := decide_eq_false (by omega)
        go_wp2
        go_quiet (fail)
        go_wp2
        go_ret
        exact ⟨rfl, (H.out.drewN q).drewN _⟩
  have hbf : c.bad = false := by simpa using hbad
  rw [hbf] at c3
  by_cases hsz : text.size ≤ c.at'
  · have HV : Hid (next13 xs text c = none) := if_pos (.inr hsz)
    have d1 : decide ((c.at' : Int) < (text.size : Int)) = false := decide_eq_false (by omega)
    rw [HV.out]
    go_enter Try.func43, Try.ntmps43
    go_wp2
    go_loopw [3] (fun iv wr => ∃ q : Nat, iv = .int .i64 0 ∧ wr = w.drewN q) (fun iv _ => 0)
    case atStart => exact ⟨0, rfl, rfl⟩
    case round =>
      obtain ⟨q, rfl, rfl⟩ := hrel
      by_cases h0 : 0 < xs.length
      · have d0 : decide ((0 : Int) < (xs.length : Int)) = true := decide_eq_true (by omega)
        go_wp2
        go_quiet (fail)
        go_wp2
        go_ret
        exact ⟨rfl, (H.out.drewN q).drewN _⟩
      · have d0 : decide ((0 : Int) < (xs.length : Int)) = false := decide_eq_false (by omega)
        go_wp2
        go_quiet (fail)
        go_wp2
        go_ret
        exact ⟨rfl, (H.out.drewN q).drewN _⟩
  · have HV : Hid (next13 xs text c = find13 (text.extract c.at' (c.at' + 1)) 0 xs) := if_neg (fun h => h.elim hbad hsz)
    have d1 : decide ((c.at' : Int) < (text.size : Int)) = true := decide_eq_true (by omega)
    have j0 : (0 : Int) ≤ (c.at' : Int) := by omega
    have j1 : (c.at' : Int) ≤ (c.at' : Int) + 1 := by omega
    have j2 : (c.at' : Int) + 1 ≤ (text.size : Int) := by omega
    have w1 : IntKind.i64.wrap ((c.at' : Int) + 1) = (c.at' : Int) + 1 := by rw [IntKind.wrap_i64]; omega
    rw [HV.out]
    clear HV hbad hbf
    generalize c.at' = n at *
    go_enter Try.func43, Try.ntmps43
    go_wp2
    go_loopw [3] (fun iv wr => ∃ i q : Nat, iv = .int .i64 i ∧ i ≤ xs.length ∧ find13 (text.extract n (n + 1)) i (xs.drop i) = find13 (text.extract n (n + 1)) 0 xs ∧ wr = w.drewN q) (fun iv _ => xs.length - (intOf iv).toNat)
    case atStart => exact ⟨0, 0, rfl, Nat.zero_le _, rfl, rfl⟩
    case round =>
      obtain ⟨i, q, rfl, hi0, hE, rfl⟩ := hrel
      have HE : Hid (find13 (text.extract n (n + 1)) i (xs.drop i) = find13 (text.extract n (n + 1)) 0 xs) := hE
      clear hE
      by_cases hi : i < xs.length
      · have d0 : decide ((i : Int) < (xs.length : Int)) = true := decide_eq_true (by omega)
        have i1 : (i : Int) < (xs.length : Int) := by omega
        obtain ⟨b, off, rfl, n0, n1, n2⟩ := H.out.row.at hi
        have HD : Hid (find13 (text.extract n (n + 1)) 0 xs = if text.extract n (n + 1) = xs[i].sign then some i else find13 (text.extract n (n + 1)) (i + 1) (xs.drop (i + 1))) := by rw [Hid, ← HE.out, List.drop_eq_getElem_cons hi, find13]
        by_cases hs : text.extract n (n + 1) = xs[i].sign
        · have qs := beq_yes hs
          rw [if_pos hs] at HD
          clear hs HE
          go_wp2
          go_quiet (fail)
          go_wp2
          go_quiet (fail)
          go_wp2
          go_ret
          rw [HD.out]
          exact ⟨rfl, ((H.out.drewN q).drewN _).drewN _⟩
        · have qs := beq_no hs
          rw [if_neg hs] at HD
          clear hs
          go_wp2
          go_quiet (fail)
          go_wp2
          go_quiet (fail)
          go_wp2
          go_roundw
          case rel => exact ⟨i + 1, _, by go_num, by omega, HD.out.symm, by first | rfl | (simp only [World.drewN_drewN]; rfl)⟩
          case measure => simp [intOf]; omega
      · obtain rfl : i = xs.length := by omega
        have d0 : decide ((xs.length : Int) < (xs.length : Int)) = false := decide_eq_false (by omega)
        have HV : Hid (find13 (text.extract n (n + 1)) 0 xs = none) := by rw [Hid, ← HE.out, List.drop_length]; rfl
        clear HE
        go_wp2
        go_quiet (fail)
        go_wp2
        go_ret
        rw [HV.out]
        exact ⟨rfl, (H.out.drewN q).drewN _⟩

theorem figO_any (b : Nat) (w : World) : Calls Try.prog 48 #[.int .u8 b] w fun e w' => e = .returned (.bool (decide (48 ≤ b) && decide (b ≤ 57))) ∧ w' = w := by
  by_cases h1 : 48 ≤ b
  · have d1 : decide ((48 : Int) ≤ (b : Int)) = true := by rw [decide_eq_true]; omega
    by_cases h2 : b ≤ 57
    · have HV : Hid ((decide (48 ≤ b) && decide (b ≤ 57)) = true) := by simp [Hid, h1, h2]
      have d2 : decide ((b : Int) ≤ 57) = true := by rw [decide_eq_true]; omega
      go_enter Try.func48, Try.ntmps48
      go_wp2
      go_ret
      rw [HV.out]
      exact ⟨rfl, rfl⟩
    · have HV : Hid ((decide (48 ≤ b) && decide (b ≤ 57)) = false) := by simp [Hid]; omega
      have d2 : decide ((b : Int) ≤ 57) = false := by rw [decide_eq_false]; omega
      go_enter Try.func48, Try.ntmps48
      go_wp2
      go_ret
      rw [HV.out]
      exact ⟨rfl, rfl⟩
  · have d1 : decide ((48 : Int) ≤ (b : Int)) = false := by rw [decide_eq_false]; omega
    have HV : Hid ((decide (48 ≤ b) && decide (b ≤ 57)) = false) := by simp [Hid]; omega
    go_enter Try.func48, Try.ntmps48
    go_wp2
    go_ret
    rw [HV.out]
    exact ⟨rfl, rfl⟩

end Go.Proofs.Ytkojkicfibmjdaa
