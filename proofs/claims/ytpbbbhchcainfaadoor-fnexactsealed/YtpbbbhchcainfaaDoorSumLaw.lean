/- The exact laws on sums, walked out of contracts: each returns true at every argument. -/
import Derived.Test.YtpbbbhchcainfaaDoorSealImpl
import Derived.OpenShut
namespace Go.Proofs.YtpbbbhchcainfaaDoor
open Go.RowKit

theorem u32_nat (a : Int) (wf : (Lit.int .u32 a).wf = true) : ∃ x : Nat, a = x ∧ x < 4294967296 := by
  have := bounds_u32 wf
  exact ⟨a.toNat, by omega, by omega⟩

theorem fnExactSumMore_walk (a : Int) (wf : (Lit.int .u32 a).wf = true) (s : ByteArray) (_hs : s.size ≤ maxLen) (w : World) (T : Turns w) :
    Calls Tryd.prog 4 #[.int .u32 a, .string s] w fun e w' => e = .returned (.bool true) ∧ Below w.heap.size w w' := by
  obtain ⟨x, rfl, hx⟩ := u32_nat a wf
  by_cases h1 : s.size ≤ 1048576
  · have HT : Hid (Turns w) := T
    clear T
    have H1 : Hid (∀ W, _) := fun W => specSumMore_any x s W hx h1
    have H2 : Hid (∀ W, _) := fun W => sumMore_any x s W hx (by omega)
    generalize sumB x s.data.toList = v at *
    go_enter Tryd.func4, Tryd.ntmps4
    go_wp2_with (first
      | (go_at_call 15; refine (H1.out _).mono ?_; rintro e w1 ⟨rfl, rfl⟩)
      | (go_at_call 13; refine (H2.out _ HT.out).mono ?_; rintro e w2 ⟨rfl, rfl⟩))
    go_ret
    exact ⟨rfl, Below.refl _ _⟩
  · have h2 : (1048576 : Int) < s.size := by omega
    clear T
    go_enter Tryd.func4, Tryd.ntmps4
    go_wp2
    go_ret
    exact ⟨rfl, Below.refl _ _⟩

theorem fnExactSumOf_walk (s : ByteArray) (_hs : s.size ≤ maxLen) (w : World) (T : Turns w) :
    Calls Tryd.prog 5 #[.string s] w fun e w' => e = .returned (.bool true) ∧ Below w.heap.size w w' := by
  by_cases h1 : s.size ≤ 1048576
  · have HT : Hid (Turns w) := T
    clear T
    have H1 : Hid (∀ W, _) := fun W => specSumOf_any s W h1
    have H2 : Hid (∀ W, _) := fun W => sumOf_any s W (by omega)
    generalize sumB 4294967295 s.data.toList = v at *
    go_enter Tryd.func5, Tryd.ntmps5
    go_wp2_with (first
      | (go_at_call 16; refine (H1.out _).mono ?_; rintro e w1 ⟨rfl, rfl⟩)
      | (go_at_call 14; refine (H2.out _ HT.out).mono ?_; rintro e w2 ⟨rfl, rfl⟩))
    go_ret
    exact ⟨rfl, Below.refl _ _⟩
  · have h2 : (1048576 : Int) < s.size := by omega
    clear T
    go_enter Tryd.func5, Tryd.ntmps5
    go_wp2
    go_ret
    exact ⟨rfl, Below.refl _ _⟩

theorem fnExactSealed_walk (s : ByteArray) (_hs : s.size ≤ maxLen) (w : World) (T : Turns w) :
    Calls Tryd.prog 6 #[.string s] w fun e w' => e = .returned (.bool true) ∧ Below w.heap.size w w' := by
  by_cases h : s.size ≤ 20000
  · have HT : Hid (Turns w) := T
    clear T
    have H1 : Hid (∀ W, _) := fun W => specSealed_yes s W h
    have H2 : Hid (∀ W, _) := fun W => sealed_yes s W h
    generalize str (sealB s.data.toList) = v at *
    go_enter Tryd.func6, Tryd.ntmps6
    go_wp2_with (first
      | (go_at_call 17; refine (H1.out _).mono ?_; rintro e w1 ⟨rfl, hb1⟩)
      | (go_at_call 11; refine (H2.out _ (tab_below HT.out hb1)).mono ?_; rintro e w2 ⟨rfl, hb2⟩))
    go_ret
    exact ⟨rfl, hb1.trans (hb2.mono hb1.size)⟩
  · clear T
    by_cases h1 : s.size ≤ 1048576
    · go_enter Tryd.func6, Tryd.ntmps6
      go_wp2_with (first
        | (go_at_call 17; refine (specSealed_no _ _ (by omega)).mono ?_; rintro e w1 ⟨rfl, rfl⟩)
        | (go_at_call 11; refine (sealed_no _ _ (by omega)).mono ?_; rintro e w2 ⟨rfl, rfl⟩))
      go_ret
      exact ⟨rfl, Below.refl _ _⟩
    · have h2 : (1048576 : Int) < s.size := by omega
      go_enter Tryd.func6, Tryd.ntmps6
      go_wp2
      go_ret
      exact ⟨rfl, Below.refl _ _⟩

theorem usVal_some (l : List UInt8) : ∃ (v : ByteArray) (b : Bool), usVal l = .tuple #[.string v, .bool b] := by
  unfold usVal
  split
  · exact ⟨_, _, rfl⟩
  · exact ⟨_, _, rfl⟩

theorem fnExactUnsealed_walk (s : ByteArray) (_hs : s.size ≤ maxLen) (w : World) (T : Turns w) :
    Calls Tryd.prog 7 #[.string s] w fun e w' => e = .returned (.bool true) ∧ Below w.heap.size w w' := by
  by_cases h1 : s.size ≤ 1048576
  · have HT : Hid (Turns w) := T
    clear T
    have H1 : Hid (∀ W, _) := fun W => specUnsealed_any s W h1
    have H2 : Hid (∀ W, _) := fun W => unsealed_any s W h1
    obtain ⟨v, b, hv⟩ := usVal_some s.data.toList
    rw [hv] at H1 H2
    clear hv
    go_enter Tryd.func7, Tryd.ntmps7
    go_wp2_with (first
      | (go_at_call 18; refine (H1.out _).mono ?_; rintro e w1 ⟨rfl, hb1⟩)
      | (go_at_call 12; refine (H2.out _ (tab_below HT.out hb1)).mono ?_; rintro e w2 ⟨rfl, hb2⟩))
    go_ret
    exact ⟨rfl, hb1.trans (hb2.mono hb1.size)⟩
  · have h2 : (1048576 : Int) < s.size := by omega
    clear T
    go_enter Tryd.func7, Tryd.ntmps7
    go_wp2
    go_ret
    exact ⟨rfl, Below.refl _ _⟩

end Go.Proofs.YtpbbbhchcainfaaDoor
