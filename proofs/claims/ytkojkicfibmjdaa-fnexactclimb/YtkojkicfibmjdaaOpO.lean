/- The specification's Climb, whole. -/
import Derived.Test.YtkojkicfibmjdaaOpN
namespace Go.Proofs.Ytkojkicfibmjdaa
open Go.RowKit
set_option linter.unusedVariables false

theorem climbs_all (xs : List OpD) (text : ByteArray) (ho : opsB xs = true) (ht : text.size ≤ 12) (f : Nat) : AtomC xs text f ∧ ClimbC xs text f := by
  induction f using Nat.strongRecOn with
  | ind f ih =>
    cases f with
    | zero => exact ⟨fun _ _ _ _ _ _ _ h => absurd h (by omega), fun _ _ _ _ _ _ _ _ h => absurd h (by omega)⟩
    | succ f => exact ⟨atom_of xs text ho ht f (ih f (by omega)).2, climb_of xs text ho ht f (ih f (by omega)).1 (fun g hg => (ih g (by omega)).2)⟩
def climbS (xs : List OpD) (text : ByteArray) : ByteArray := match climbB xs text with | some s => s | none => ⟨#[]⟩

set_option maxHeartbeats 3200000 in
set_option maxRecDepth 100000 in
theorem specClimb_any (v : Value) (xs : List OpD) (text : ByteArray) (w : World) (hl : xs.length ≤ 1048576) (ht : text.size ≤ 1048576) (h : Ops w v xs) :
    Calls Try.prog 12 #[v, .string text] w fun e w' => e = .returned (.tuple #[.string (climbS xs text), .bool (climbB xs text).isSome]) ∧ Below w.heap.size w w' := by
  obtain ⟨a, cap, rfl⟩ := h.slice
  have bal : Below w.heap.size w (w.alloc (.cells #[.slice a xs.length cap, .string text, .int .i64 0, .bool false] 57)) := (Below.refl _ _).alloc (Nat.le_refl _) _
  have X1 := heap_alloc_new w (.cells #[.slice a xs.length cap, .string text, .int .i64 0, .bool false] 57)
  have C1 : Hid (ClB w xs a cap text w.heap.size ⟨0, false⟩ (w.alloc (.cells #[.slice a xs.length cap, .string text, .int .i64 0, .bool false] 57))) := ⟨bal, Nat.le_refl _, X1, h⟩
  have HOk : Hid (∀ V : World, Ops V (.slice a xs.length cap) xs → Calls Try.prog 27 #[.slice a xs.length cap] V fun e w' => e = .returned (.bool (opsB xs)) ∧ Below V.heap.size V w') := fun V hV => specOpsOk_any _ xs V hl hV
  clear bal X1 h
  cases ho : opsB xs with
  | false =>
    have HV : Hid (climbB xs text = none) := if_pos (.inl (by rw [ho]; decide))
    have HS : Hid (climbS xs text = ⟨#[]⟩) := by rw [Hid, climbS, HV.out]
    rw [ho] at HOk
    rw [HS.out, HV.out]
    clear ho
    go_enter Try.func12, Try.ntmps12
    go_wp2_with fail
    refine (HOk.out _ C1.out.row).mono ?_
    rintro e w2 ⟨rfl, hb2⟩
    have B2 : Hid (Below w.heap.size w w2) := C1.out.bel.trans (hb2.mono C1.out.bel.size)
    clear hb2
    go_wp2
    go_ret2
    exact ⟨rfl, B2.out⟩
  | true =>
    rw [ho] at HOk
    by_cases hz : 12 < text.size
    · have HV : Hid (climbB xs text = none) := if_pos (.inr hz)
      have HS : Hid (climbS xs text = ⟨#[]⟩) := by rw [Hid, climbS, HV.out]
      have dz : decide ((12 : Int) < (text.size : Int)) = true := decide_eq_true (by omega)
      rw [HS.out, HV.out]
      clear ho
      go_enter Try.func12, Try.ntmps12
      go_wp2_with fail
      refine (HOk.out _ C1.out.row).mono ?_
      rintro e w2 ⟨rfl, hb2⟩
      have B2 : Hid (Below w.heap.size w w2) := C1.out.bel.trans (hb2.mono C1.out.bel.size)
      clear hb2
      go_wp2
      go_ret2
      exact ⟨rfl, B2.out⟩
    · have dz : decide ((12 : Int) < (text.size : Int)) = false := decide_eq_false (by omega)
      have HC : Hid (∀ V : World, ClB w xs a cap text w.heap.size ⟨0, false⟩ V → Calls Try.prog 28 #[.pointer (some ⟨w.heap.size, 0, none⟩), .int .i64 0] V fun e w' => e = .returned (.string (clF xs text (3 * text.size + 3) (.climb 0) ⟨0, false⟩).2) ∧ ClB w xs a cap text w.heap.size (clF xs text (3 * text.size + 3) (.climb 0) ⟨0, false⟩).1 w') := fun V hV => (climbs_all xs text ho (by omega) (3 * text.size + 3)).2 w a cap w.heap.size ⟨0, false⟩ 0 V (Nat.zero_le _) (by show 3 * (text.size - 0) + 2 ≤ _; omega) hV
      have HV : Hid (climbB xs text = (match clF xs text (3 * text.size + 3) (.climb 0) ⟨0, false⟩ with | (d, s) => if d.bad = true ∨ d.at' < text.size then none else some s)) := if_neg (by rw [ho]; rintro (h | h); exact h rfl; exact hz h)
      have hI := clF_inv ho text (3 * text.size + 3) (.climb 0) ⟨0, false⟩ (Nat.zero_le _)
      generalize clF xs text (3 * text.size + 3) (.climb 0) ⟨0, false⟩ = R at *
      obtain ⟨d, s⟩ := R
      have hd : d.at' ≤ text.size := hI.2.1
      have HV : Hid (climbB xs text = if d.bad = true ∨ d.at' < text.size then none else some s) := HV.out
      clear hI ho hz
      go_enter Try.func12, Try.ntmps12
      go_wp2_with fail
      refine (HOk.out _ C1.out.row).mono ?_
      rintro e w2 ⟨rfl, hb2⟩
      have C2 : Hid (ClB w xs a cap text w.heap.size ⟨0, false⟩ w2) := ⟨C1.out.bel.trans (hb2.mono C1.out.bel.size), Nat.le_refl _, (hb2.block _ (Array.getElem?_eq_some_iff.1 C1.out.box).1).trans C1.out.box, C1.out.ops⟩
      clear hb2 C1 HOk
      go_wp2_with fail
      refine (HC.out _ C2.out).mono ?_
      rintro e w3 ⟨rfl, h3⟩
      have H3 : Hid (ClB w xs a cap text w.heap.size d w3) := h3
      have g2 : w3.cell? ⟨w.heap.size, 2, none⟩ = some (.int .i64 (d.at' : Int)) := run_cell (j := 2) h3.box rfl
      have g3 : w3.cell? ⟨w.heap.size, 3, none⟩ = some (.bool d.bad) := run_cell (j := 3) h3.box rfl
      clear h3 HC C2
      by_cases hb : d.bad = true
      · rw [if_pos (.inl hb)] at HV
        have HS : Hid (climbS xs text = ⟨#[]⟩) := by rw [Hid, climbS, HV.out]
        rw [hb] at g3
        go_wp2
        go_ret2
        rw [HS.out, HV.out]
        exact ⟨rfl, H3.out.bel⟩
      · have hb' : d.bad = false := by simpa using hb
        rw [hb'] at g3
        by_cases hl2 : d.at' < text.size
        · have dl : decide ((d.at' : Int) < (text.size : Int)) = true := decide_eq_true (by omega)
          rw [if_pos (.inr hl2)] at HV
          have HS : Hid (climbS xs text = ⟨#[]⟩) := by rw [Hid, climbS, HV.out]
          go_wp2
          go_ret2
          rw [HS.out, HV.out]
          exact ⟨rfl, H3.out.bel⟩
        · have dl : decide ((d.at' : Int) < (text.size : Int)) = false := decide_eq_false (by omega)
          rw [if_neg (fun h => h.elim hb hl2)] at HV
          have HS : Hid (climbS xs text = s) := by rw [Hid, climbS, HV.out]
          go_wp2
          go_ret2
          rw [HS.out, HV.out]
          exact ⟨rfl, H3.out.bel⟩

end Go.Proofs.Ytkojkicfibmjdaa
