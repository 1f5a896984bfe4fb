/- The exact laws on OpsOk and Climb, walked out of contracts, the program's own contracts handed in. -/
import Derived.Test.YtkojkicfibmjdaaOpK
import Derived.Test.YtkojkicfibmjdaaOpS
import Derived.Test.YtkojkicfibmjdaaOpO
namespace Go.Proofs.Ytkojkicfibmjdaa
open Go.RowKit
set_option linter.unusedVariables false


set_option maxHeartbeats 3200000 in
set_option maxRecDepth 100000 in
theorem fnExactClimb_of (v : Value) (xs : List OpD) (text : ByteArray) (w : World) (hI : ∀ (v : Value) (W : World), Below w.heap.size w W → xs.length ≤ 1048576 → text.size ≤ 1048576 → Ops W v xs → Calls Try.prog 8 #[v, .string text] W fun e w' => e = .returned (.tuple #[.string (climbS xs text), .bool (climbB xs text).isSome]) ∧ Below W.heap.size W w') (hin : RowInn OpIn xs) (htx : text.size ≤ maxLen) (h : Ops w v xs) :
    Calls Try.prog 5 #[v, .string text] w fun e w' => e = .returned (.bool true) ∧ Below w.heap.size w w' := by
  have HR : Hid (Ops w v xs) := h
  have HI : Hid (∀ (v : Value) (W : World), Below w.heap.size w W → xs.length ≤ 1048576 → text.size ≤ 1048576 → Ops W v xs → Calls Try.prog 8 #[v, .string text] W fun e w' => e = .returned (.tuple #[.string (climbS xs text), .bool (climbB xs text).isSome]) ∧ Below W.heap.size W w') := hI
  have HSz : Hid (∀ W : World, Ops W v xs → Calls Try.prog 11 #[v, .int .i64 1048576] W fun e w' => ∃ r : Int, e = .returned (.int .i64 r) ∧ (r = -1 ∨ (0 ≤ r ∧ r + (rowTot opTot xs : Nat) = 1048576)) ∧ Below W.heap.size W w') := fun W hW => szOpS_any v xs 1048576 W (by omega) (by omega) hin hW
  obtain ⟨a, cap, rfl⟩ := h.slice
  unfold maxLen at htx
  clear h hI hin
  by_cases hts : text.size ≤ 1048576
  · have dt : decide ((1048576 : Int) < (text.size : Int)) = false := decide_eq_false (by omega)
    have dt' : ¬ (1048576 : Int) < (text.size : Int) := by omega
    go_enter Try.func5, Try.ntmps5
    go_wp2_with fail
    refine (HSz.out _ HR.out).mono ?_
    rintro e w1 ⟨r, rfl, hr, hb1⟩
    have B1 : Hid (Below w.heap.size w w1) := hb1
    clear hb1
    rcases hr with rfl | ⟨hr0, hr1⟩
    · go_wp2
      go_ret
      exact ⟨rfl, B1.out⟩
    · have hr2 : ¬ r < 0 := by omega
      have hT : rowTot opTot xs ≤ 1048576 := by omega
      have hL : xs.length ≤ 1048576 := Nat.le_trans (rowTot_len opTot xs) hT
      have HTo : Hid (∀ W : World, Ops W (.slice a xs.length cap) xs → Calls Try.prog 13 #[.slice a xs.length cap] W fun e w' => ∃ a' c', e = .returned (.slice a' xs.length c') ∧ Fresh W.heap.size w' (fun V => Ops V (.slice a' xs.length c') xs) ∧ Below W.heap.size W w') := fun W hW => toOpS_any _ xs W hT hW
      have HSp : Hid (∀ (u : Value) (W : World), Ops W u xs → Calls Try.prog 12 #[u, .string text] W fun e w' => e = .returned (.tuple #[.string (climbS xs text), .bool (climbB xs text).isSome]) ∧ Below W.heap.size W w') := fun u W hW => specClimb_any u xs text W hL hts hW
      have HEq : Hid (∀ (u u' : Value) (W : World), Ops W u xs → Ops W u' xs → Calls Try.prog 14 #[u, u'] W fun e w' => e = .returned (.bool true) ∧ Below W.heap.size W w') := fun u u' W h1 h2 => eqOpS_same u u' xs W hT h1 h2
      generalize (climbB xs text).isSome = b at *
      generalize climbS xs text = S at *
      have qS := beq_yes (rfl : S = S)
      clear hr1 hT
      go_wp2_with fail
      refine (HTo.out _ (HR.out.below B1.out)).mono ?_
      rintro e w2 ⟨a2, c2, rfl, hf2, hb2⟩
      have O2 : Hid (Ops w2 (.slice a2 xs.length c2) xs) := hf2 w2 (Nat.le_refl _) (fun _ _ _ => rfl)
      have B2 : Hid (Below w.heap.size w w2) := B1.out.trans (hb2.mono B1.out.size)
      clear hf2 hb2
      go_wp2_with fail
      refine (HSp.out _ _ O2.out).mono ?_
      rintro e w3 ⟨rfl, hb3⟩
      have B3 : Hid (Below w.heap.size w w3) := B2.out.trans (hb3.mono B2.out.size)
      clear hb3
      go_wp2_with fail
      refine (HTo.out _ (HR.out.below B3.out)).mono ?_
      rintro e w4 ⟨a4, c4, rfl, hf4, hb4⟩
      have O4 : Hid (Ops w4 (.slice a4 xs.length c4) xs) := hf4 w4 (Nat.le_refl _) (fun _ _ _ => rfl)
      have B4 : Hid (Below w.heap.size w w4) := B3.out.trans (hb4.mono B3.out.size)
      clear hf4 hb4
      go_wp2_with fail
      refine (HI.out _ _ B4.out hL hts O4.out).mono ?_
      rintro e w5 ⟨rfl, hb5⟩
      have O5 : Hid (Ops w5 (.slice a4 xs.length c4) xs) := O4.out.below hb5
      have B5 : Hid (Below w.heap.size w w5) := B4.out.trans (hb5.mono B4.out.size)
      clear hb5
      cases b
      all_goals
        go_wp2_with fail
        refine (HTo.out _ (HR.out.below B5.out)).mono ?_
        rintro e w6 ⟨a6, c6, rfl, hf6, hb6⟩
        have O6 : Hid (Ops w6 (.slice a6 xs.length c6) xs) := hf6 w6 (Nat.le_refl _) (fun _ _ _ => rfl)
        have Q6 : Hid (Ops w6 (.slice a4 xs.length c4) xs) := O5.out.below hb6
        have B6 : Hid (Below w.heap.size w w6) := B5.out.trans (hb6.mono B5.out.size)
        clear hf6 hb6
        go_wp2_with fail
        refine (HEq.out _ _ _ Q6.out O6.out).mono ?_
        rintro e w7 ⟨rfl, hb7⟩
        have B7 : Hid (Below w.heap.size w w7) := B6.out.trans (hb7.mono B6.out.size)
        clear hb7
        go_wp2
        go_ret
        exact ⟨rfl, B7.out⟩
  · have dt : decide ((1048576 : Int) < (text.size : Int)) = true := decide_eq_true (by omega)
    go_enter Try.func5, Try.ntmps5
    go_wp2
    go_ret
    exact ⟨rfl, Below.refl _ _⟩

end Go.Proofs.Ytkojkicfibmjdaa
