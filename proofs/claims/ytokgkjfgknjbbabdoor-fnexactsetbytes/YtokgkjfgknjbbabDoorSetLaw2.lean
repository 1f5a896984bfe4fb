/- The exact laws on SetBytes, JoinSets, MeetSets and SetOf, walked out of contracts. -/
import Derived.Test.YtokgkjfgknjbbabDoorSetSpec4
import Derived.Test.YtokgkjfgknjbbabDoorSetTold2
namespace Go.Proofs.YtokgkjfgknjbbabDoor
open Go.RowKit

set_option maxRecDepth 100000 in
theorem fnExactSetBytes_walk (s : ByteArray) (_hs : s.size ≤ maxLen) (w : World) (hT : TzTab w) :
    Calls Tryd.prog 3 #[.string s] w fun e w' => e = .returned (.bool true) ∧ Below w.heap.size w w' := by
  by_cases h : s.size ≤ 1048576
  · have HS : Hid (∀ W, _) := fun W => specSetBytes_any s W h
    have HI : Hid (∀ W, TzTab W → _) := fun W hT' => implSetBytes_any s W hT'
    have HT : Hid (TzTab w) := hT
    clear hT
    generalize str (bytesB (inL s.data.toList)) = t at *
    go_enter Tryd.func3, Tryd.ntmps3
    go_wp2_with (first
      | (go_at_call 7; refine (HS.out _).mono ?_; rintro e w1 ⟨rfl, hb1⟩)
      | (go_at_call 8; refine (HI.out _ (HT.out.below hb1)).mono ?_; rintro e w2 ⟨rfl, hb2⟩))
    go_ret
    exact ⟨rfl, hb1.trans (hb2.mono hb1.size)⟩
  · have h2 : (1048576 : Int) < s.size := by omega
    go_enter Tryd.func3, Tryd.ntmps3
    go_wp2
    go_ret
    exact ⟨rfl, Below.refl _ _⟩

set_option maxRecDepth 100000 in
theorem fnExactSetOf_walk (s : ByteArray) (_hs : s.size ≤ maxLen) (w : World) (hT : TzTab w) :
    Calls Tryd.prog 6 #[.string s] w fun e w' => e = .returned (.bool true) ∧ Below w.heap.size w w' := by
  by_cases h : s.size ≤ 1048576
  · have HS : Hid (∀ W, _) := fun W => specSetOf_any s W h
    have HI : Hid (∀ W, TzTab W → _) := fun W hT' => implSetOf_any s W h hT'
    have HT : Hid (TzTab w) := hT
    clear hT
    generalize hv : pairV (setOfP s.data.toList) = v at *
    obtain ⟨t, ok, rfl⟩ : ∃ t ok, v = .tuple #[.string t, .bool ok] := ⟨_, _, hv.symm⟩
    clear hv
    go_enter Tryd.func6, Tryd.ntmps6
    go_wp2_with (first
      | (go_at_call 13; refine (HS.out _).mono ?_; rintro e w1 ⟨rfl, hb1⟩)
      | (go_at_call 14; refine (HI.out _ (HT.out.below hb1)).mono ?_; rintro e w2 ⟨rfl, hb2⟩))
    go_ret
    exact ⟨rfl, hb1.trans (hb2.mono hb1.size)⟩
  · have h2 : (1048576 : Int) < s.size := by omega
    go_enter Tryd.func6, Tryd.ntmps6
    go_wp2
    go_ret
    exact ⟨rfl, Below.refl _ _⟩

set_option maxRecDepth 100000 in
theorem fnExactJoinSets_walk (a : ByteArray) (_ha : a.size ≤ maxLen) (b : ByteArray) (_hb : b.size ≤ maxLen) (w : World) (hT : TzTab w) :
    Calls Tryd.prog 4 #[.string a, .string b] w fun e w' => e = .returned (.bool true) ∧ Below w.heap.size w w' := by
  by_cases h : a.size ≤ 1048576
  · by_cases h' : b.size ≤ 1048576
    · have HS : Hid (∀ W, _) := fun W => specJoin_any a b W h h'
      have HI : Hid (∀ W, TzTab W → _) := fun W hT' => implJoin_any a b W hT'
      have HT : Hid (TzTab w) := hT
      clear hT
      generalize hv : pairV (joinP a.data.toList b.data.toList) = v at *
      obtain ⟨t, ok, rfl⟩ : ∃ t ok, v = .tuple #[.string t, .bool ok] := ⟨_, _, hv.symm⟩
      clear hv
      go_enter Tryd.func4, Tryd.ntmps4
      go_wp2_with (first
        | (go_at_call 9; refine (HS.out _).mono ?_; rintro e w1 ⟨rfl, hb1⟩)
        | (go_at_call 10; refine (HI.out _ (HT.out.below hb1)).mono ?_; rintro e w2 ⟨rfl, hb2⟩))
      go_ret
      exact ⟨rfl, hb1.trans (hb2.mono hb1.size)⟩
    · have h2 : (1048576 : Int) < b.size := by omega
      go_enter Tryd.func4, Tryd.ntmps4
      go_wp2
      go_ret
      exact ⟨rfl, Below.refl _ _⟩
  · have h2 : (1048576 : Int) < a.size := by omega
    go_enter Tryd.func4, Tryd.ntmps4
    go_wp2
    go_ret
    exact ⟨rfl, Below.refl _ _⟩

set_option maxRecDepth 100000 in
theorem fnExactMeetSets_walk (a : ByteArray) (_ha : a.size ≤ maxLen) (b : ByteArray) (_hb : b.size ≤ maxLen) (w : World) (hT : TzTab w) :
    Calls Tryd.prog 5 #[.string a, .string b] w fun e w' => e = .returned (.bool true) ∧ Below w.heap.size w w' := by
  by_cases h : a.size ≤ 1048576
  · by_cases h' : b.size ≤ 1048576
    · have HS : Hid (∀ W, _) := fun W => specMeet_any a b W h h'
      have HI : Hid (∀ W, TzTab W → _) := fun W hT' => implMeet_any a b W hT'
      have HT : Hid (TzTab w) := hT
      clear hT
      generalize hv : pairV (meetP a.data.toList b.data.toList) = v at *
      obtain ⟨t, ok, rfl⟩ : ∃ t ok, v = .tuple #[.string t, .bool ok] := ⟨_, _, hv.symm⟩
      clear hv
      go_enter Tryd.func5, Tryd.ntmps5
      go_wp2_with (first
        | (go_at_call 11; refine (HS.out _).mono ?_; rintro e w1 ⟨rfl, hb1⟩)
        | (go_at_call 12; refine (HI.out _ (HT.out.below hb1)).mono ?_; rintro e w2 ⟨rfl, hb2⟩))
      go_ret
      exact ⟨rfl, hb1.trans (hb2.mono hb1.size)⟩
    · have h2 : (1048576 : Int) < b.size := by omega
      go_enter Tryd.func5, Tryd.ntmps5
      go_wp2
      go_ret
      exact ⟨rfl, Below.refl _ _⟩
  · have h2 : (1048576 : Int) < a.size := by omega
    go_enter Tryd.func5, Tryd.ntmps5
    go_wp2
    go_ret
    exact ⟨rfl, Below.refl _ _⟩

end Go.Proofs.YtokgkjfgknjbbabDoor
