/- The law FnParentheses, walked out of contracts on the program's OpsOk and Climb. -/
import Derived.Test.YtkojkicfibmjdaaOpU
import Derived.Test.YtkojkicfibmjdaaOpSg
import Derived.Test.YtkojkicfibmjdaaOpR
namespace Go.Proofs.Ytkojkicfibmjdaa
open Go.RowKit
set_option linter.unusedVariables false

set_option maxHeartbeats 1600000 in
set_option maxRecDepth 100000 in
theorem fnParentheses_of (a : Option Addr) (n cap : Nat) (w : World)
    (hC : ∀ (v : Value) (xs : List OpD) (text : ByteArray) (W : World), Below w.heap.size w W → xs.length ≤ 1048576 → text.size ≤ 1048576 → Ops W v xs → (∀ x ∈ xs, x.sign.size ≤ maxLen) → Calls Try.prog 8 #[v, .string text] W fun e w' => e = .returned (.tuple #[.string (climbS xs text), .bool (climbB xs text).isSome]) ∧ Below W.heap.size W w')
    (hO : ∀ (v : Value) (xs : List OpD) (W : World), Below w.heap.size w W → xs.length ≤ 1048576 → Ops W v xs → (∀ x ∈ xs, x.sign.size ≤ maxLen) → Calls Try.prog 9 #[v] W fun e w' => e = .returned (.bool (opsB xs)) ∧ Below W.heap.size W w')
    (hcode : CodeRow w (.slice a n cap) n) :
    Calls Try.prog 4 #[.slice a n cap] w fun e w' => e = .returned (.bool true) ∧ Below w.heap.size w w' := by
  have HC : Hid (CodeRow w (.slice a n cap) n) := hcode
  have HCl : Hid (∀ (xs : List OpD) (text : ByteArray), opsB xs = true → xs.length ≤ 1048576 → text.size ≤ 1048576 → ∃ (S : ByteArray) (b : Bool), (∀ (v : Value) (W : World), Below w.heap.size w W → Ops W v xs → Calls Try.prog 8 #[v, .string text] W fun e w' => e = .returned (.tuple #[.string S, .bool b]) ∧ Below W.heap.size W w') ∧ ((climbB xs text = none ∧ S = ⟨#[]⟩ ∧ b = false) ∨ (climbB xs text = some S ∧ b = true))) := fun xs text hop hl ht => by
    cases h : climbB xs text with
    | none =>
      refine ⟨⟨#[]⟩, false, fun v W hb hO => ?_, .inl ⟨rfl, rfl, rfl⟩⟩
      have := hC v xs text W hb hl ht hO (signs_of hop)
      rw [climbS, h] at this
      exact this
    | some S =>
      refine ⟨S, true, fun v W hb hO => ?_, .inr ⟨rfl, rfl⟩⟩
      have := hC v xs text W hb hl ht hO (signs_of hop)
      rw [climbS, h] at this
      exact this
  have HOk : Hid (∀ (v : Value) (xs : List OpD) (W : World), Below w.heap.size w W → xs.length ≤ 1048576 → Ops W v xs → opsB xs = true → Calls Try.prog 9 #[v] W fun e w' => e = .returned (.bool true) ∧ Below W.heap.size W w') := fun v xs W hb hl h he => by
    have := hO v xs W hb hl h (signs_of he)
    rwa [he] at this
  clear hcode hC hO
  by_cases hn : n ≤ 1048576
  · have hd : decide (1048576 < (n : Int)) = false := by simp; omega
    go_enter Try.func4, Try.ntmps4
    go_wp2_with fail
    refine (bigO_any a n cap _).mono ?_
    rintro e wq ⟨rfl, hw⟩
    rw [hw, hd]
    clear hw wq
    go_wp2_with fail
    refine (drawOps_of w _ n _ (by omega) HC.out (Below.refl _ _)).mono ?_
    rintro e w1 ⟨xs, oa, oc, text, ho, rfl, htx, hO1, hb1⟩
    have HO : Hid (opsB xs = true) := ho
    have O1 : Hid (Ops w1 (.slice oa xs.length oc) xs) := hO1
    have B1 : Hid (Below w.heap.size w w1) := hb1
    have hl6 := ops_six ho
    clear hO1 hb1 ho
    obtain ⟨s, b2, h2c, hr2⟩ := HCl.out xs text HO.out (by omega) (by omega)
    rcases hr2 with ⟨_, rfl, rfl⟩ | ⟨hcl, rfl⟩
    · clear HCl
      have HC2 : Hid (∀ (v : Value) (W : World), Below w.heap.size w W → Ops W v xs → Calls Try.prog 8 #[v, .string text] W fun e w' => e = .returned (.tuple #[.string ⟨#[]⟩, .bool false]) ∧ Below W.heap.size W w') := h2c
      clear h2c
      go_wp2_with fail
      refine (HC2.out _ _ B1.out O1.out).mono ?_
      rintro e w2 ⟨rfl, hb2⟩
      have B2 : Hid (Below w.heap.size w w2) := B1.out.trans (hb2.mono B1.out.size)
      have O2 : Hid (Ops w2 (.slice oa xs.length oc) xs) := O1.out.below hb2
      clear hb2 HC2
      go_wp2_with fail
      refine (HOk.out _ xs _ B2.out (by omega) O2.out HO.out).mono ?_
      rintro e w3 ⟨rfl, hb3⟩
      have B3 : Hid (Below w.heap.size w w3) := B2.out.trans (hb3.mono B2.out.size)
      clear hb3
      go_wp2
      go_ret
      exact ⟨rfl, B3.out⟩
    · have HCs : Hid (climbB xs text = some s) := hcl
      clear hcl
      have HC2 : Hid (∀ (v : Value) (W : World), Below w.heap.size w W → Ops W v xs → Calls Try.prog 8 #[v, .string text] W fun e w' => e = .returned (.tuple #[.string s, .bool true]) ∧ Below W.heap.size W w') := h2c
      clear h2c
      go_wp2_with fail
      refine (HC2.out _ _ B1.out O1.out).mono ?_
      rintro e w2 ⟨rfl, hb2⟩
      have B2 : Hid (Below w.heap.size w w2) := B1.out.trans (hb2.mono B1.out.size)
      have O2 : Hid (Ops w2 (.slice oa xs.length oc) xs) := O1.out.below hb2
      clear hb2 HC2
      by_cases h12 : 12 < s.size
      · have d12 : decide ((12 : Int) < (s.size : Int)) = true := decide_eq_true (by omega)
        go_wp2_with fail
        refine (HOk.out _ xs _ B2.out (by omega) O2.out HO.out).mono ?_
        rintro e w3 ⟨rfl, hb3⟩
        have B3 : Hid (Below w.heap.size w w3) := B2.out.trans (hb3.mono B2.out.size)
        clear hb3
        go_wp2
        go_ret
        exact ⟨rfl, B3.out⟩
      · have d12 : decide ((12 : Int) < (s.size : Int)) = false := decide_eq_false (by omega)
        have hag := climb_again HCs.out (show s.size ≤ 12 by omega)
        have qs := beq_yes (rfl : s = s)
        obtain ⟨s3, b3, h3c, hr3⟩ := HCl.out xs s HO.out (by omega) (by omega)
        obtain ⟨rfl, rfl⟩ : s = s3 ∧ b3 = true := by
          rcases hr3 with ⟨h, _⟩ | ⟨h, h'⟩
          · rw [hag] at h; cases h
          · rw [hag] at h; exact ⟨Option.some.inj h, h'⟩
        clear hr3 hag
        have HC3 : Hid (∀ (v : Value) (W : World), Below w.heap.size w W → Ops W v xs → Calls Try.prog 8 #[v, .string s] W fun e w' => e = .returned (.tuple #[.string s, .bool true]) ∧ Below W.heap.size W w') := h3c
        clear h3c
        go_wp2_with fail
        refine (HC3.out _ _ B2.out O2.out).mono ?_
        rintro e w3 ⟨rfl, hb3⟩
        have B3 : Hid (Below w.heap.size w w3) := B2.out.trans (hb3.mono B2.out.size)
        have O3 : Hid (Ops w3 (.slice oa xs.length oc) xs) := O2.out.below hb3
        clear hb3 HC3
        have e40 : (⟨#[40]⟩ : ByteArray).size = 1 := rfl
        have e41 : (⟨#[41]⟩ : ByteArray).size = 1 := rfl
        obtain ⟨s4, b4, h4c, hr4⟩ := HCl.out xs (⟨#[40]⟩ ++ text ++ ⟨#[41]⟩) HO.out (by omega) (by rw [ByteArray.size_append, ByteArray.size_append, e40, e41]; omega)
        clear e40 e41 HCl
        by_cases h10 : 10 < text.size
        · have d10 : decide ((10 : Int) < (text.size : Int)) = true := decide_eq_true (by omega)
          clear hr4
          have HC4 : Hid (∀ (v : Value) (W : World), Below w.heap.size w W → Ops W v xs → Calls Try.prog 8 #[v, .string (⟨#[40]⟩ ++ text ++ ⟨#[41]⟩)] W fun e w' => e = .returned (.tuple #[.string s4, .bool b4]) ∧ Below W.heap.size W w') := h4c
          clear h4c
          go_wp2_with fail
          refine (HC4.out _ _ B3.out O3.out).mono ?_
          rintro e w4 ⟨rfl, hb4⟩
          have B4 : Hid (Below w.heap.size w w4) := B3.out.trans (hb4.mono B3.out.size)
          have O4 : Hid (Ops w4 (.slice oa xs.length oc) xs) := O3.out.below hb4
          clear hb4 HC4
          go_wp2
          go_ret
          exact ⟨rfl, B4.out⟩
        · have d10 : decide ((10 : Int) < (text.size : Int)) = false := decide_eq_false (by omega)
          have hwi := climb_within HCs.out (show text.size ≤ 10 by omega)
          obtain ⟨rfl, rfl⟩ : s = s4 ∧ b4 = true := by
            rcases hr4 with ⟨h, _⟩ | ⟨h, h'⟩
            · rw [hwi] at h; cases h
            · rw [hwi] at h; exact ⟨Option.some.inj h, h'⟩
          clear hr4 hwi
          have HC4 : Hid (∀ (v : Value) (W : World), Below w.heap.size w W → Ops W v xs → Calls Try.prog 8 #[v, .string (⟨#[40]⟩ ++ text ++ ⟨#[41]⟩)] W fun e w' => e = .returned (.tuple #[.string s, .bool true]) ∧ Below W.heap.size W w') := h4c
          clear h4c
          go_wp2_with fail
          refine (HC4.out _ _ B3.out O3.out).mono ?_
          rintro e w4 ⟨rfl, hb4⟩
          have B4 : Hid (Below w.heap.size w w4) := B3.out.trans (hb4.mono B3.out.size)
          have O4 : Hid (Ops w4 (.slice oa xs.length oc) xs) := O3.out.below hb4
          clear hb4 HC4
          go_wp2
          go_ret
          exact ⟨rfl, B4.out⟩
  · have hd : decide (1048576 < (n : Int)) = true := by simp; omega
    go_enter Try.func4, Try.ntmps4
    go_wp2_with fail
    refine (bigO_any a n cap _).mono ?_
    rintro e wq ⟨rfl, hw⟩
    rw [hw, hd]
    clear hw wq
    go_wp2
    go_ret
    exact ⟨rfl, Below.refl _ _⟩

end Go.Proofs.Ytkojkicfibmjdaa
