/- The law on ReadShort, walked out of contracts: it returns true at every text and every int. -/
import Derived.Test.YtocccahgccoimamRead
import Derived.Test.YtocccahgccoimamReadSpec
import Derived.Test.YtocccahgccoimamShelf
namespace Go.Proofs.Ytocccahgccoimam
open Go.RowKit

theorem headB_len : ∀ (f : Nat) (l bs : List UInt8), headB f l = some bs → bs.length ≤ l.length
  | 0, _, _, h => by simp [headB] at h
  | _ + 1, [], _, h => by simp [headB] at h
  | f + 1, b :: r, bs, h => by
    rw [headB] at h
    split at h
    · obtain rfl := Option.some.inj h; simp
    · match hr : headB f r, h with
      | some cs, h =>
        rw [Option.map_some] at h
        obtain rfl := Option.some.inj h
        have := headB_len f r cs hr
        simp only [List.length_cons]; omega

theorem rvOut_bounds {L : List UInt8} {a n x : Int} (h : rvOut L a = (n, x, true)) : 0 ≤ n ∧ n ≤ 1000000000 ∧ 0 ≤ x ∧ x ≤ L.length := by
  rw [rvOut] at h
  split at h
  · rename_i ha
    split at h
    · simp at h
    · rename_i m k hm
      rw [readB] at hm
      split at hm
      · simp at hm
      · rename_i bs hb
        have hl := headB_len _ _ _ hb
        rw [List.length_drop] at hl
        split at hm
        · simp at hm
        · rename_i hc
          simp only [Option.some.injEq, Prod.mk.injEq] at hm
          simp only [Prod.mk.injEq] at h
          obtain ⟨h1, h2, _⟩ := h
          obtain ⟨h3, h4⟩ := hm
          omega
  · simp at h

theorem strClone (s : ByteArray) (w : World) (h : s.size ≤ 1048576) :
    Calls Try.prog 23 #[.string s] w fun e w' => e = .returned (.string s) ∧ Below w.heap.size w w' := by
  go_enter Try.func23, Try.ntmps23
  go_wp2_with (go_at_call 27; refine (Try.stringslite_Clone _ _ (by omega)).mono ?_; rintro e w1 ⟨rfl, hb1⟩)
  go_ret
  exact ⟨rfl, hb1⟩

/-- What is read: the text, the place behind it, and whether there is one. -/
def rsVal (s : ByteArray) (a : Int) : Value :=
  if (rvOut s.data.toList a).2.2 = true ∧ (rvOut s.data.toList a).1 ≤ 20000 ∧ (rvOut s.data.toList a).1 ≤ s.size - (rvOut s.data.toList a).2.1 then
    .tuple #[.string (s.extract (rvOut s.data.toList a).2.1.toNat ((rvOut s.data.toList a).2.1 + (rvOut s.data.toList a).1).toNat), .int .i64 ((rvOut s.data.toList a).2.1 + (rvOut s.data.toList a).1), .bool true]
  else .tuple #[.string (str []), .int .i64 0, .bool false]

theorem rsVal_no {s : ByteArray} {a n x : Int} {b : Bool} (h : rvOut s.data.toList a = (n, x, b)) (hc : ¬ (b = true ∧ n ≤ 20000 ∧ n ≤ s.size - x)) :
    rsVal s a = .tuple #[.string (str []), .int .i64 0, .bool false] := by
  rw [rsVal, h, if_neg hc]

theorem rsVal_yes {s : ByteArray} {a n x : Int} (h : rvOut s.data.toList a = (n, x, true)) (h1 : n ≤ 20000) (h2 : n ≤ s.size - x) :
    rsVal s a = .tuple #[.string (s.extract x.toNat (x + n).toNat), .int .i64 (x + n), .bool true] := by
  rw [rsVal, h, if_pos ⟨rfl, h1, h2⟩]

set_option maxRecDepth 100000 in
theorem implReadShort_any (s : ByteArray) (a : Int) (w : World) (hs : s.size ≤ 1048576) :
    Calls Try.prog 16 #[.string s, .int .i64 a] w fun e w' => e = .returned (rsVal s a) ∧ Below w.heap.size w w' := by
  obtain ⟨n, x, b, hr⟩ : ∃ n x b, rvOut s.data.toList a = (n, x, b) := ⟨_, _, _, rfl⟩
  have HC : Hid (∀ W, _) := fun W => implRead_any s a W hs
  rw [rvVal_of hr] at HC
  cases b with
  | false =>
    have HE : Hid (_ = _) := rsVal_no hr (by simp)
    clear hr
    go_enter Try.func16, Try.ntmps16
    go_wp2_with (go_at_call 12; refine (HC.out _).mono ?_; rintro e w1 ⟨rfl, rfl⟩)
    go_ret3
    exact ⟨congrArg _ HE.out.symm, Below.refl _ _⟩
  | true =>
    obtain ⟨b1, b2, b3, b4⟩ := rvOut_bounds hr
    have b5 : x ≤ s.size := by simpa using b4
    clear b4
    by_cases h1 : n ≤ 20000
    · by_cases h2 : n ≤ s.size - x
      · have HE : Hid (_ = _) := rsVal_yes hr h1 h2
        clear hr
        have hsl := fun W => run_slice_string (P := Try.prog) W 9 s .i64 .i64 x (x + n) Try.underlying9 b3 (by omega) (by omega)
        have hz : (s.extract x.toNat (x + n).toNat).size ≤ 1048576 := by
          rw [ByteArray.size_extract]; omega
        go_enter Try.func16, Try.ntmps16
        go_wp2_with (first
          | (go_at_call 12; refine (HC.out _).mono ?_; rintro e w1 ⟨rfl, rfl⟩)
          | (go_at_call 23; refine (strClone _ _ hz).mono ?_; rintro e w2 ⟨rfl, hb2⟩))
        go_ret3
        exact ⟨congrArg _ HE.out.symm, hb2⟩
      · have HE : Hid (_ = _) := rsVal_no hr (by omega)
        clear hr
        go_enter Try.func16, Try.ntmps16
        go_wp2_with (go_at_call 12; refine (HC.out _).mono ?_; rintro e w1 ⟨rfl, rfl⟩)
        go_ret3
        exact ⟨congrArg _ HE.out.symm, Below.refl _ _⟩
    · have HE : Hid (_ = _) := rsVal_no hr (by omega)
      clear hr
      go_enter Try.func16, Try.ntmps16
      go_wp2_with (go_at_call 12; refine (HC.out _).mono ?_; rintro e w1 ⟨rfl, rfl⟩)
      go_ret3
      exact ⟨congrArg _ HE.out.symm, Below.refl _ _⟩

set_option maxRecDepth 100000 in
theorem specReadShort_any (s : ByteArray) (a : Int) (w : World) (hs : s.size ≤ 1048576) :
    Calls Try.prog 15 #[.string s, .int .i64 a] w fun e w' => e = .returned (rsVal s a) ∧ Below w.heap.size w w' := by
  obtain ⟨n, x, b, hr⟩ : ∃ n x b, rvOut s.data.toList a = (n, x, b) := ⟨_, _, _, rfl⟩
  have HC : Hid (∀ W, _) := fun W => specRead_any s a W hs
  rw [rvVal_of hr] at HC
  cases b with
  | false =>
    have HE : Hid (_ = _) := rsVal_no hr (by simp)
    clear hr
    go_enter Try.func15, Try.ntmps15
    go_wp2_with (go_at_call 11; refine (HC.out _).mono ?_; rintro e w1 ⟨rfl, hb1⟩)
    go_ret3
    exact ⟨congrArg _ HE.out.symm, hb1⟩
  | true =>
    obtain ⟨b1, b2, b3, b4⟩ := rvOut_bounds hr
    have b5 : x ≤ s.size := by simpa using b4
    clear b4
    by_cases h1 : n ≤ 20000
    · by_cases h2 : n ≤ s.size - x
      · have HE : Hid (_ = _) := rsVal_yes hr h1 h2
        clear hr
        have hsl := fun W => run_slice_string (P := Try.prog) W 9 s .i64 .i64 x (x + n) Try.underlying9 b3 (by omega) (by omega)
        go_enter Try.func15, Try.ntmps15
        go_wp2_with (go_at_call 11; refine (HC.out _).mono ?_; rintro e w1 ⟨rfl, hb1⟩)
        go_ret3
        exact ⟨congrArg _ HE.out.symm, hb1⟩
      · have HE : Hid (_ = _) := rsVal_no hr (by omega)
        clear hr
        go_enter Try.func15, Try.ntmps15
        go_wp2_with (go_at_call 11; refine (HC.out _).mono ?_; rintro e w1 ⟨rfl, hb1⟩)
        go_ret3
        exact ⟨congrArg _ HE.out.symm, hb1⟩
    · have HE : Hid (_ = _) := rsVal_no hr (by omega)
      clear hr
      go_enter Try.func15, Try.ntmps15
      go_wp2_with (go_at_call 11; refine (HC.out _).mono ?_; rintro e w1 ⟨rfl, hb1⟩)
      go_ret3
      exact ⟨congrArg _ HE.out.symm, hb1⟩

theorem rsVal_form (s : ByteArray) (a : Int) : ∃ t n b, rsVal s a = .tuple #[.string t, .int .i64 n, .bool b] := by
  rw [rsVal]
  split
  · exact ⟨_, _, _, rfl⟩
  · exact ⟨_, _, _, rfl⟩

set_option maxRecDepth 100000 in
theorem fnExactReadShort_walk (s : ByteArray) (_hs : s.size ≤ maxLen) (x : Int) (_wf : (Lit.int .i64 x).wf = true) (w : World) :
    Calls Try.prog 6 #[.string s, .int .i64 x] w fun e w' => e = .returned (.bool true) ∧ Below w.heap.size w w' := by
  by_cases h : s.size ≤ 1048576
  · obtain ⟨t, n, b, hv⟩ := rsVal_form s x
    have HS : Hid (∀ W, _) := fun W => specReadShort_any s x W h
    have HI : Hid (∀ W, _) := fun W => implReadShort_any s x W h
    rw [hv] at HS HI
    clear hv
    go_enter Try.func6, Try.ntmps6
    go_wp2_with (first
      | (go_at_call 15; refine (HS.out _).mono ?_; rintro e w1 ⟨rfl, hb1⟩)
      | (go_at_call 16; refine (HI.out _).mono ?_; rintro e w2 ⟨rfl, hb2⟩))
    go_ret
    exact ⟨rfl, hb1.trans (hb2.mono hb1.size)⟩
  · have h1 : (1048576 : Int) < s.size := by omega
    go_enter Try.func6, Try.ntmps6
    go_wp2
    go_ret
    exact ⟨rfl, Below.refl _ _⟩

end Go.Proofs.Ytocccahgccoimam
