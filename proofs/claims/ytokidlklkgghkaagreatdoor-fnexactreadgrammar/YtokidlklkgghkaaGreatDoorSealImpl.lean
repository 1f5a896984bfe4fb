/- The sums of chapter 2 by halves of a byte: four steps at once, off a table of sixteen. -/
/- A table of the library's that is a package-level variable reads on as it read, behind whatever makes new memory alone. -/
/- Sums: what the program's functions answer. -/
/- Sealed and Unsealed: what the program answers. -/
import Derived.Test.YtokidlklkgghkaaGreatDoorINam
import Derived.Test.YtokidlklkgghkaaGreatDoorTurnPure
import Derived.Test.YtokidlklkgghkaaGreatDoorXFreeI
import Derived.Lib.LaidTab
import Derived.WalkKit
import Derived.Below
namespace Go.Proofs.YtokidlklkgghkaaGreatDoor
open Go.RowKit

theorem xor_half (x y : Nat) : (x ^^^ y) / 2 = (x / 2) ^^^ (y / 2) := by
  apply Nat.eq_of_testBit_eq
  intro i
  simp [Nat.testBit_div_two, Nat.testBit_xor]
theorem xor_mod2 (x y : Nat) : (x ^^^ y) % 2 = (x % 2) ^^^ (y % 2) := by
  have := Nat.xor_mod_two_pow (a := x) (b := y) (n := 1)
  simpa using this

theorem half_xor (x y : Nat) : half (x ^^^ y) = half x ^^^ half y := by
  have hm := xor_mod2 x y
  rcases Nat.mod_two_eq_zero_or_one x with h1 | h1 <;> rcases Nat.mod_two_eq_zero_or_one y with h2 | h2 <;> rw [h1, h2] at hm <;> simp only [half, h1, h2, hm, xor_half]
  · simp
  · simp [Nat.xor_assoc]
  · simp only [Nat.reduceXor, reduceIte, Nat.reduceEqDiff, Nat.xor_assoc]
    rw [Nat.xor_comm (y / 2)]
  · have e : 3558460437 ^^^ (y / 2 ^^^ 3558460437) = y / 2 := by rw [Nat.xor_comm (y / 2), ← Nat.xor_assoc, Nat.xor_self, Nat.zero_xor]
    simp [Nat.xor_assoc, e]

theorem halves_xor : ∀ (n x y : Nat), halves n (x ^^^ y) = halves n x ^^^ halves n y
  | 0, _, _ => rfl
  | n + 1, x, y => by rw [halves, half_xor, halves_xor n]; rfl
theorem halves_add : ∀ (m n x : Nat), halves (m + n) x = halves n (halves m x)
  | 0, n, x => by simp [halves]
  | m + 1, n, x => by rw [show m + 1 + n = (m + n) + 1 by omega, halves, halves_add m n]; rfl

theorem half_dbl (q : Nat) : half (2 * q) = q := by
  rw [half, if_neg (by omega)]; omega
theorem halves_16 (q : Nat) : halves 4 (16 * q) = q := by
  show half (half (half (half (16 * q)))) = q
  rw [show 16 * q = 2 * (2 * (2 * (2 * q))) by omega, half_dbl, half_dbl, half_dbl, half_dbl]

/-- The table. -/
def turnTab : List Int := [0, 1166650509, 2333301018, 3466261911, 3189058079, 4221339282, 889615109, 1888477064, 3558460437, 2442158232, 1594529039, 444807554, 1779230218, 797264519, 3776954128, 2761298845]
theorem turnTab_at (r : Nat) (h : r < 16) : turnTab.getD r 0 = (halves 4 r : Nat) := by
  have all : ∀ r : Fin 16, turnTab.getD r.1 0 = (halves 4 r.1 : Nat) := by decide
  exact all ⟨r, h⟩

theorem split16 (x : Nat) : x = (16 * (x / 16)) ^^^ (x % 16) := by
  apply Nat.eq_of_testBit_eq
  intro i
  rw [Nat.testBit_xor, show (16 : Nat) = 2 ^ 4 by rfl, Nat.testBit_two_pow_mul, Nat.testBit_mod_two_pow, Nat.testBit_div_two_pow]
  by_cases h : i < 4
  · have h2 : ¬ 4 ≤ i := by omega
    simp [h, h2]
  · have h2 : 4 ≤ i := by omega
    simp [h, h2]

/-- Four steps at once. -/
theorem halves_four (x : Nat) : halves 4 x = (x / 16) ^^^ halves 4 (x % 16) := by
  conv => lhs; rw [split16 x, halves_xor, halves_16]

theorem halves_eight (x : Nat) : halves 8 x = halves 4 (halves 4 x) := halves_add 4 4 x

end Go.Proofs.YtokidlklkgghkaaGreatDoor

namespace Go.Proofs.YtokidlklkgghkaaGreatDoor
open Go.RowKit

theorem tab_below {P : Program} {W W' : World} {name : String} {k : IntKind} {zs : List Int} (hT : Lib.TabIs P W name k zs) (hb : Below W.heap.size W W') : Lib.TabIs P W' name k zs := by
  unfold Lib.TabIs at hT ⊢
  unfold World.var? at hT ⊢
  match hg : P.globalNamed name, hT with
  | some g, hT =>
    simp only [Option.bind_some] at hT ⊢
    have hlt : g < W.heap.size := by
      rcases Nat.lt_or_ge g W.heap.size with h | h
      · exact h
      · rw [Array.getElem?_eq_none h] at hT
        simp at hT
    rw [hb.block g hlt]
    exact hT

end Go.Proofs.YtokidlklkgghkaaGreatDoor

namespace Go.Proofs.YtokidlklkgghkaaGreatDoor
open Go.RowKit

/-- The program's table holds what its initialiser lays. -/
abbrev Turns (W : World) : Prop := Lib.TabIs Tryz.prog W "loop.example/g00243/impl.halfTurns" .u32 turnTab

set_option maxHeartbeats 800000 in
theorem half4_any (x : Nat) (w : World) (hx : x < 4294967296) (T : Turns w) :
    Calls Tryz.prog 99 #[.int .u32 x] w fun e w' => e = .returned (.int .u32 (halves 4 x)) ∧ w' = w := by
  have hc := T.cell (show Tryz.prog.globalNamed "loop.example/g00243/impl.halfTurns" = some 0 by kernel_rfl) (x % 16) (by simp [turnTab]; omega)
  rw [turnTab_at _ (by omega)] at hc
  have HF : Hid (_ = _) := halves_four x
  have hl := halves_lt 4 (x % 16) (by omega)
  generalize halves 4 (x % 16) = z at *
  have e2 := u32_xor_nat (x / 16) z (by omega) (by omega)
  clear T
  go_enter Tryz.func99, Tryz.ntmps99
  go_wp2
  go_ret
  rw [HF.out, ← e2]
  exact ⟨rfl, rfl⟩

set_option maxHeartbeats 800000 in
theorem with_any (x : Nat) (b : UInt8) (w : World) (hx : x < 4294967296) (T : Turns w) :
    Calls Tryz.prog 81 #[.int .u32 x, .int .u8 b.toNat] w fun e w' => e = .returned (.int .u32 (sumStep x b)) ∧ w' = w := by
  have hb := b.toNat_lt
  have ex := u32_xor_nat x b.toNat hx (by omega)
  have hz := Nat.xor_lt_two_pow (n := 32) hx (show b.toNat < 2 ^ 32 by omega)
  have HF : Hid (sumStep x b = halves 4 (halves 4 (x ^^^ b.toNat))) := halves_eight _
  generalize x ^^^ b.toNat = z at *
  have hu := halves_lt 4 z hz
  have H1 : Hid (∀ W, _) := fun W => half4_any z W hz
  have H2 : Hid (∀ W, _) := fun W => half4_any (halves 4 z) W hu
  have HT : Hid (Turns w) := T
  clear T
  generalize halves 4 z = u at *
  go_enter Tryz.func81, Tryz.ntmps81
  go_wp2_with (fail)
  refine (H1.out _ HT.out).mono ?_
  rintro e w1 ⟨rfl, hw⟩
  rw [hw]
  clear hw
  go_wp2_with (fail)
  refine (H2.out _ HT.out).mono ?_
  rintro e w1 ⟨rfl, hw⟩
  rw [hw]
  clear hw
  go_wp2
  go_ret
  rw [HF.out]
  exact ⟨rfl, rfl⟩

set_option maxHeartbeats 1600000 in
set_option maxRecDepth 100000 in
theorem sumMore_any (x : Nat) (s : ByteArray) (w : World) (hx : x < 4294967296) (hs : s.size ≤ 1048577) (T : Turns w) :
    Calls Tryz.prog 59 #[.int .u32 x, .string s] w fun e w' => e = .returned (.int .u32 (sumB x s.data.toList)) ∧ w' = w := by
  have HT : Hid (Turns w) := T
  clear T
  go_enter Tryz.func59, Tryz.ntmps59
  go_wp2
  go_loop [5, 10] (fun sv iv => ∃ k : Nat, k ≤ s.size ∧ iv = .int .i64 k ∧ sv = .int .u32 (sumB x (s.data.toList.take k))) (fun _ iv => s.size - (intOf iv).toNat)
  case atStart => exact ⟨0, Nat.zero_le _, rfl, rfl⟩
  case round =>
    obtain ⟨k, hk, rfl, rfl⟩ := hrel
    have hy := sumB_lt (s.data.toList.take k) x hx
    generalize hq : sumB x (s.data.toList.take k) = y at *
    have HQ : Hid (sumB x (s.data.toList.take k) = y) := hq
    clear hq
    by_cases hlt : k < s.size
    · have HN : Hid (sumB x (s.data.toList.take (k + 1)) = sumStep y s[k]) := by
        have := HQ.out
        exact (by rw [take_snoc4 s k hlt, sumB_snoc, this] : sumB x (s.data.toList.take (k + 1)) = sumStep y s[k])
      have H1 : Hid (∀ W, _) := fun W => with_any y s[k] W hy
      generalize sumStep y s[k] = z at *
      go_wp2_with (fail)
      refine (H1.out _ HT.out).mono ?_
      rintro e w1 ⟨rfl, hw1⟩
      rw [hw1]
      clear hw1
      go_wp2
      go_round
      case rel => exact ⟨k + 1, by omega, by go_num, by rw [HN.out]⟩
      case measure => simp [intOf]; omega
    · obtain rfl : k = s.size := by omega
      have HE : Hid (sumB x s.data.toList = y) := by
        have := HQ.out
        rwa [List.take_of_length_le (by simp)] at this
      go_wp2
      go_ret
      rw [HE.out]
      exact ⟨rfl, rfl⟩

theorem sumOf_any (s : ByteArray) (w : World) (hs : s.size ≤ 1048577) (T : Turns w) :
    Calls Tryz.prog 34 #[.string s] w fun e w' => e = .returned (.int .u32 (sumB 4294967295 s.data.toList)) ∧ w' = w := by
  go_enter Tryz.func34, Tryz.ntmps34
  go_wp2_with (go_at_call 59; refine (sumMore_any 4294967295 s _ (by omega) hs T).mono ?_; rintro e w1 ⟨rfl, rfl⟩)
  go_ret
  exact ⟨rfl, rfl⟩

set_option maxHeartbeats 800000 in
theorem bytes_any (x : Nat) (w : World) (hx : x < 4294967296) :
    Calls Tryz.prog 35 #[.int .u32 x] w fun e w' => e = .returned (.string (str (four x))) ∧ Below w.heap.size w w' := by
  have hcv := fun W => run_lit_string (P := Tryz.prog) W 72 9 5 (four x) (by simp [four]) Tryz.underlying72 Tryz.underlying5 Tryz.underlying9
  rw [bv_four x hx] at hcv
  have hfl : (four x).length = 4 := rfl
  rw [hfl] at hcv
  clear hfl
  go_enter Tryz.func35, Tryz.ntmps35
  go_wp2
  go_ret
  exact ⟨rfl, (Below.refl _ _).alloc (Nat.le_refl _) _⟩

end Go.Proofs.YtokidlklkgghkaaGreatDoor

namespace Go.Proofs.YtokidlklkgghkaaGreatDoor
open Go.RowKit

theorem strClone3 (s : ByteArray) (w : World) (h : s.size ≤ 1048576) :
    Calls Tryz.prog 36 #[.string s] w fun e w' => e = .returned (.string s) ∧ Below w.heap.size w w' := by
  go_enter Tryz.func36, Tryz.ntmps36
  go_wp2_with (go_at_call 60; refine (Tryz.stringslite_Clone _ _ (by omega)).mono ?_; rintro e w1 ⟨rfl, hb1⟩)
  go_ret
  exact ⟨rfl, hb1⟩

theorem turns_drew {w : World} (T : Turns w) : Turns w.drew := T

theorem sealed_yes (s : ByteArray) (w : World) (hs : s.size ≤ 20000) (T : Turns w) :
    Calls Tryz.prog 46 #[.string s] w fun e w' => e = .returned (.tuple #[.string (str (sealB s.data.toList)), .bool true]) ∧ Below w.heap.size w w' := by
  have HE : Hid (s ++ str (four (sumB 4294967295 s.data.toList)) = str (sealB s.data.toList)) := by
    have := str_add2 s.data.toList (four (sumB 4294967295 s.data.toList))
    rw [str_self] at this
    exact this
  have hlt := sumB_lt s.data.toList 4294967295 (by omega)
  have hz : (str (four (sumB 4294967295 s.data.toList))).size = 4 := by rw [str_size, four_len]
  have hadd := fun W => run_string_add_sum (P := Tryz.prog) (w := W) s (str (four (sumB 4294967295 s.data.toList))) (by omega)
  clear hz
  have HT : Hid (Turns w) := T
  clear T
  go_enter Tryz.func46, Tryz.ntmps46
  go_wp2_with (first
    | (go_at_call 34; refine (sumOf_any s _ (by omega) HT.out).mono ?_; rintro e w1 ⟨rfl, rfl⟩)
    | (go_at_call 35; refine (bytes_any _ _ hlt).mono ?_; rintro e w2 ⟨rfl, hb2⟩))
  go_ret2
  rw [← HE.out]
  exact ⟨rfl, hb2⟩

theorem sealed_no (s : ByteArray) (w : World) (hs : 20000 < s.size) :
    Calls Tryz.prog 46 #[.string s] w fun e w' => e = .returned (.tuple #[.string (str []), .bool false]) ∧ w' = w := by
  have hs1 : (20000 : Int) < s.size := by omega
  go_enter Tryz.func46, Tryz.ntmps46
  go_wp2
  go_ret2
  exact ⟨rfl, rfl⟩

/-- The test that the program makes. -/
theorem un_test2 (s : ByteArray) (m : Nat) (hm : m + 4 = s.size) (hs : s.size ≤ 20004) :
    ((str (four (sumB 4294967295 (s.extract 0 m).data.toList))).toList == (s.extract m s.size).toList) = unOk s.data.toList := by
  have hl : s.data.toList.length = s.size := by simp
  have e1 : (s.extract m s.size).toList = s.data.toList.drop (s.data.toList.length - 4) := by
    rw [ByteArray.toList_eq, ByteArray.data_extract, Array.toList_extract, List.extract_eq_take_drop, hl, show s.size - 4 = m by omega]
    exact List.take_of_length_le (by simp)
  have e2 : (s.extract 0 m).data.toList = s.data.toList.take (s.data.toList.length - 4) := by
    rw [ByteArray.data_extract, Array.toList_extract, List.extract_eq_take_drop, hl, show s.size - 4 = m by omega]
    simp
  rw [e1, e2, ByteArray.toList_eq, str_list, Bool.eq_iff_iff, unOk_iff, hl]
  simp only [beq_iff_eq]
  constructor
  · intro h; exact ⟨by omega, by omega, h.symm⟩
  · intro h; exact h.2.2.symm

set_option maxHeartbeats 1600000 in
set_option maxRecDepth 100000 in
theorem unsealed_in (s : ByteArray) (m : Nat) (w : World) (hm : m + 4 = s.size) (hs : s.size ≤ 20004) (T : Turns w) :
    Calls Tryz.prog 14 #[.string s] w fun e w' => e = .returned (usVal s.data.toList) ∧ Below w.heap.size w w' := by
  have HT : Hid (_ = _) := un_test2 s m hm hs
  have HX : Hid (str (s.data.toList.take (s.data.toList.length - 4)) = s.extract 0 m) := by
    have hl : s.data.toList.length = s.size := by simp
    apply ByteArray.ext
    apply Array.toList_inj.1
    rw [str_list, ByteArray.data_extract, Array.toList_extract, List.extract_eq_take_drop, hl, show s.size - 4 = m by omega]
    simp
  have g1 : (s.size : Int) ≤ (m : Int) + 4 := by omega
  have g2 : (m : Int) + 4 ≤ (s.size : Int) := by omega
  have e1 : (s.size : Int) - 4 = (m : Int) := by omega
  have hlt := sumB_lt (s.extract 0 m).data.toList 4294967295 (by omega)
  have hsz : (s.extract 0 m).size ≤ 1048576 := by rw [ByteArray.size_extract]; omega
  have HTu : Hid (Turns w) := T
  clear T
  have HS : Hid (∀ W, _) := fun W => sumOf_any (s.extract 0 m) W (by omega)
  have HF : Hid (∀ W, _) := fun W => bytes_any (sumB 4294967295 (s.extract 0 m).data.toList) W hlt
  have HC : Hid (∀ W, _) := fun W => strClone3 (s.extract 0 m) W hsz
  clear hlt hsz
  generalize sumB 4294967295 (s.extract 0 m).data.toList = v at *
  generalize str (four v) = F at *
  have g3 : (0 : Int) ≤ (m : Int) := by omega
  have g4 : (m : Int) ≤ (s.size : Int) := by omega
  have d1 : decide ((m : Int) < 0) = false := by simp
  have d2 : decide ((20000 : Int) < (m : Int)) = false := by simp; omega
  go_enter Tryz.func14, Tryz.ntmps14
  go_wp2
  go_region_held3 (fun _ => True) (trivial)
    ((first
      | (go_at_call 34; refine (HS.out _ (turns_drew HTu.out)).mono ?_; rintro e w1 ⟨rfl, rfl⟩)
      | (go_at_call 35; refine (HF.out _).mono ?_; rintro e w2 ⟨rfl, hb2⟩)))
  all_goals go_wp2_with (go_at_call 36; refine (HC.out _).mono ?_; rintro e w3 ⟨rfl, hb3⟩)
  all_goals go_ret2
  · have ht : (!F.toList == (s.extract m s.size).toList) = true := by assumption
    rw [HT.out] at ht
    exact ⟨congrArg _ (usVal_no (by simpa using ht)).symm, bel_of_drew hb2⟩
  · have ht : (!F.toList == (s.extract m s.size).toList) = false := by assumption
    rw [HT.out] at ht
    refine ⟨?_, (bel_of_drew hb2).trans (hb3.mono hb2.size)⟩
    rw [usVal_yes (by simpa using ht), HX.out]
    rfl

theorem unOk_out2 (s : ByteArray) (h : s.size < 4 ∨ 20004 < s.size) : unOk s.data.toList = false := by
  have hl : s.data.toList.length = s.size := by simp
  cases hh : unOk s.data.toList with
  | false => rfl
  | true => have := (unOk_iff _).1 hh; omega

set_option maxRecDepth 100000 in
theorem unsealed_any (s : ByteArray) (w : World) (hs : s.size ≤ 1048576) (T : Turns w) :
    Calls Tryz.prog 14 #[.string s] w fun e w' => e = .returned (usVal s.data.toList) ∧ Below w.heap.size w w' := by
  by_cases h4 : 4 ≤ s.size
  · by_cases h5 : s.size ≤ 20004
    · exact unsealed_in s (s.size - 4) w (by omega) h5 T
    · have HN : Hid (_ = _) := usVal_no (unOk_out2 s (.inr (by omega)))
      have d1 : decide ((s.size : Int) - 4 < 0) = false := by simp; omega
      have d2 : decide ((20000 : Int) < (s.size : Int) - 4) = true := by simp; omega
      have d3 : (0 : Int) ≤ (s.size : Int) - 4 := by omega
      have d4 : (20000 : Int) < (s.size : Int) - 4 := by omega
      clear T
      go_enter Tryz.func14, Tryz.ntmps14
      go_wp2
      go_ret2
      exact ⟨congrArg _ HN.out.symm, Below.refl _ _⟩
  · have HN : Hid (_ = _) := usVal_no (unOk_out2 s (.inl (by omega)))
    have d1 : decide ((s.size : Int) - 4 < 0) = true := by simp; omega
    have d3 : (s.size : Int) - 4 < 0 := by omega
    clear T
    go_enter Tryz.func14, Tryz.ntmps14
    go_wp2
    go_ret2
    exact ⟨congrArg _ HN.out.symm, Below.refl _ _⟩

end Go.Proofs.YtokidlklkgghkaaGreatDoor
