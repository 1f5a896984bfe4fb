/- The law on ReadShort, walked out of contracts: it returns true at every text and every int. -/
/- The figure of a half byte: what the specification's function answers at 0 .. 15. -/
/- Figures: what the two functions that write bytes in figures answer. -/
/- What is read out of figures: the plain mathematics, with no program in it. -/
import Derived.Test.YtokidlklkgghkaaGreatDoorReadSpec
import Derived.Test.YtokidlklkgghkaaGreatDoorXFreeI
import Derived.Test.YtokidlklkgghkaaGreatDoorRows
import Derived.Test.YtokidlklkgghkaaGreatDoorEnvGet
import Derived.Deep.RegionHeld3
import Derived.Deep.AppendLies
import Derived.Lib.IndexLaws
namespace Go.Proofs.YtokidlklkgghkaaGreatDoor
open Go.RowKit

theorem headB_len : ∀ (f : Nat) (l bs : List UInt8), headB f l = some bs → bs.length ≤ l.length
  | 0, _, _, h => by simp [headB] at h
  | _ + 1, [], _, h => by simp [headB] at h
  | f + 1, b :: r, bs, h => by
    rw [headB] at h
    split at h
    · obtain rfl := Option.some.inj h; simp
    · match hr : headB f r, h with
      | some cs, h =>
        rw [Option.map_some] at h
        obtain rfl := Option.some.inj h
        have := headB_len f r cs hr
        simp only [List.length_cons]; omega

theorem rvOut_bounds {L : List UInt8} {a n x : Int} (h : rvOut L a = (n, x, true)) : 0 ≤ n ∧ n ≤ 1000000000 ∧ 0 ≤ x ∧ x ≤ L.length := by
  rw [rvOut] at h
  split at h
  · rename_i ha
    split at h
    · simp at h
    · rename_i m k hm
      rw [readB] at hm
      split at hm
      · simp at hm
      · rename_i bs hb
        have hl := headB_len _ _ _ hb
        rw [List.length_drop] at hl
        split at hm
        · simp at hm
        · rename_i hc
          simp only [Option.some.injEq, Prod.mk.injEq] at hm
          simp only [Prod.mk.injEq] at h
          obtain ⟨h1, h2, _⟩ := h
          obtain ⟨h3, h4⟩ := hm
          omega
  · simp at h

theorem strClone (s : ByteArray) (w : World) (h : s.size ≤ 1048576) :
    Calls Tryz.prog 36 #[.string s] w fun e w' => e = .returned (.string s) ∧ Below w.heap.size w w' := by
  go_enter Tryz.func36, Tryz.ntmps36
  go_wp2_with (go_at_call 60; refine (Tryz.stringslite_Clone _ _ (by omega)).mono ?_; rintro e w1 ⟨rfl, hb1⟩)
  go_ret
  exact ⟨rfl, hb1⟩

/-- What is read: the text, the place behind it, and whether there is one. -/
def rsVal (s : ByteArray) (a : Int) : Value :=
  if (rvOut s.data.toList a).2.2 = true ∧ (rvOut s.data.toList a).1 ≤ 20000 ∧ (rvOut s.data.toList a).1 ≤ s.size - (rvOut s.data.toList a).2.1 then
    .tuple #[.string (s.extract (rvOut s.data.toList a).2.1.toNat ((rvOut s.data.toList a).2.1 + (rvOut s.data.toList a).1).toNat), .int .i64 ((rvOut s.data.toList a).2.1 + (rvOut s.data.toList a).1), .bool true]
  else .tuple #[.string (str []), .int .i64 0, .bool false]

theorem rsVal_no {s : ByteArray} {a n x : Int} {b : Bool} (h : rvOut s.data.toList a = (n, x, b)) (hc : ¬ (b = true ∧ n ≤ 20000 ∧ n ≤ s.size - x)) :
    rsVal s a = .tuple #[.string (str []), .int .i64 0, .bool false] := by
  rw [rsVal, h, if_neg hc]

theorem rsVal_yes {s : ByteArray} {a n x : Int} (h : rvOut s.data.toList a = (n, x, true)) (h1 : n ≤ 20000) (h2 : n ≤ s.size - x) :
    rsVal s a = .tuple #[.string (s.extract x.toNat (x + n).toNat), .int .i64 (x + n), .bool true] := by
  rw [rsVal, h, if_pos ⟨rfl, h1, h2⟩]

set_option maxRecDepth 100000 in
theorem implReadShort_any (s : ByteArray) (a : Int) (w : World) (hs : s.size ≤ 1048576) :
    Calls Tryz.prog 63 #[.string s, .int .i64 a] w fun e w' => e = .returned (rsVal s a) ∧ Below w.heap.size w w' := by
  obtain ⟨n, x, b, hr⟩ : ∃ n x b, rvOut s.data.toList a = (n, x, b) := ⟨_, _, _, rfl⟩
  have HC : Hid (∀ W, _) := fun W => implRead_any s a W hs
  rw [rvVal_of hr] at HC
  cases b with
  | false =>
    have HE : Hid (_ = _) := rsVal_no hr (by simp)
    clear hr
    go_enter Tryz.func63, Tryz.ntmps63
    go_wp2_with (go_at_call 61; refine (HC.out _).mono ?_; rintro e w1 ⟨rfl, rfl⟩)
    go_ret3
    exact ⟨congrArg _ HE.out.symm, Below.refl _ _⟩
  | true =>
    obtain ⟨b1, b2, b3, b4⟩ := rvOut_bounds hr
    have b5 : x ≤ s.size := by simpa using b4
    clear b4
    by_cases h1 : n ≤ 20000
    · by_cases h2 : n ≤ s.size - x
      · have HE : Hid (_ = _) := rsVal_yes hr h1 h2
        clear hr
        have hsl := fun W => run_slice_string (P := Tryz.prog) W 9 s .i64 .i64 x (x + n) Tryz.underlying9 b3 (by omega) (by omega)
        have hz : (s.extract x.toNat (x + n).toNat).size ≤ 1048576 := by
          rw [ByteArray.size_extract]; omega
        go_enter Tryz.func63, Tryz.ntmps63
        go_wp2_with (first
          | (go_at_call 61; refine (HC.out _).mono ?_; rintro e w1 ⟨rfl, rfl⟩)
          | (go_at_call 36; refine (strClone _ _ hz).mono ?_; rintro e w2 ⟨rfl, hb2⟩))
        go_ret3
        exact ⟨congrArg _ HE.out.symm, hb2⟩
      · have HE : Hid (_ = _) := rsVal_no hr (by omega)
        clear hr
        go_enter Tryz.func63, Tryz.ntmps63
        go_wp2_with (go_at_call 61; refine (HC.out _).mono ?_; rintro e w1 ⟨rfl, rfl⟩)
        go_ret3
        exact ⟨congrArg _ HE.out.symm, Below.refl _ _⟩
    · have HE : Hid (_ = _) := rsVal_no hr (by omega)
      clear hr
      go_enter Tryz.func63, Tryz.ntmps63
      go_wp2_with (go_at_call 61; refine (HC.out _).mono ?_; rintro e w1 ⟨rfl, rfl⟩)
      go_ret3
      exact ⟨congrArg _ HE.out.symm, Below.refl _ _⟩

set_option maxRecDepth 100000 in
theorem specReadShort_any (s : ByteArray) (a : Int) (w : World) (hs : s.size ≤ 1048576) :
    Calls Tryz.prog 26 #[.string s, .int .i64 a] w fun e w' => e = .returned (rsVal s a) ∧ Below w.heap.size w w' := by
  obtain ⟨n, x, b, hr⟩ : ∃ n x b, rvOut s.data.toList a = (n, x, b) := ⟨_, _, _, rfl⟩
  have HC : Hid (∀ W, _) := fun W => specRead_any s a W hs
  rw [rvVal_of hr] at HC
  cases b with
  | false =>
    have HE : Hid (_ = _) := rsVal_no hr (by simp)
    clear hr
    go_enter Tryz.func26, Tryz.ntmps26
    go_wp2_with (go_at_call 25; refine (HC.out _).mono ?_; rintro e w1 ⟨rfl, hb1⟩)
    go_ret3
    exact ⟨congrArg _ HE.out.symm, hb1⟩
  | true =>
    obtain ⟨b1, b2, b3, b4⟩ := rvOut_bounds hr
    have b5 : x ≤ s.size := by simpa using b4
    clear b4
    by_cases h1 : n ≤ 20000
    · by_cases h2 : n ≤ s.size - x
      · have HE : Hid (_ = _) := rsVal_yes hr h1 h2
        clear hr
        have hsl := fun W => run_slice_string (P := Tryz.prog) W 9 s .i64 .i64 x (x + n) Tryz.underlying9 b3 (by omega) (by omega)
        go_enter Tryz.func26, Tryz.ntmps26
        go_wp2_with (go_at_call 25; refine (HC.out _).mono ?_; rintro e w1 ⟨rfl, hb1⟩)
        go_ret3
        exact ⟨congrArg _ HE.out.symm, hb1⟩
      · have HE : Hid (_ = _) := rsVal_no hr (by omega)
        clear hr
        go_enter Tryz.func26, Tryz.ntmps26
        go_wp2_with (go_at_call 25; refine (HC.out _).mono ?_; rintro e w1 ⟨rfl, hb1⟩)
        go_ret3
        exact ⟨congrArg _ HE.out.symm, hb1⟩
    · have HE : Hid (_ = _) := rsVal_no hr (by omega)
      clear hr
      go_enter Tryz.func26, Tryz.ntmps26
      go_wp2_with (go_at_call 25; refine (HC.out _).mono ?_; rintro e w1 ⟨rfl, hb1⟩)
      go_ret3
      exact ⟨congrArg _ HE.out.symm, hb1⟩

end Go.Proofs.YtokidlklkgghkaaGreatDoor

namespace Go.Proofs.YtokidlklkgghkaaGreatDoor
open Go.RowKit

end Go.Proofs.YtokidlklkgghkaaGreatDoor

namespace Go.Proofs.YtokidlklkgghkaaGreatDoor
open Go.RowKit

end Go.Proofs.YtokidlklkgghkaaGreatDoor

namespace Go.Proofs.YtokidlklkgghkaaGreatDoor
open Go.RowKit

end Go.Proofs.YtokidlklkgghkaaGreatDoor
