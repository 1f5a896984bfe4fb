/- Elements of a grammar's lists, opened. No program is named. -/
/- Sums: what the specification's functions answer. -/
import Derived.Test.YtcnkegkffmcdmaaGreatDoorGData
import Derived.Test.YtcnkegkffmcdmaaGreatDoorRows
import Derived.Test.YtcnkegkffmcdmaaGreatDoorE16G
import Derived.Deep.RegionHeld3
namespace Go.Proofs.YtcnkegkffmcdmaaGreatDoor
open Go.RowKit

theorem gsym_at {w : World} {a : Option Addr} {n cap i : Nat} {xs : List SymD} (h : RowC 4 SymE w (.slice a n cap) xs) (hi : i < xs.length) :
    ∃ b off aa ca, a = some ⟨b, off, none⟩ ∧ w.cell? ⟨b, off + i * 4, none⟩ = some (.int .i64 xs[i].kind) ∧ w.cell? ⟨b, off + i * 4 + 1, none⟩ = some (.string xs[i].text) ∧ w.cell? ⟨b, off + i * 4 + 2, none⟩ = some (.slice aa xs[i].args.length ca) ∧ w.cell? ⟨b, off + i * 4 + 3, none⟩ = some (.string xs[i].bind) ∧ RowC 1 ExprE w (.slice aa xs[i].args.length ca) xs[i].args := by
  obtain ⟨b, off, vs, rfl, _, hc, r0, rfl, h0⟩ := RowC.at h hi
  obtain ⟨aa, ca, rfl⟩ := h0.slice
  exact ⟨b, off, aa, ca, rfl, hc 0 (by simp), hc 1 (by simp), hc 2 (by simp), hc 3 (by simp), h0⟩
theorem galt_at {w : World} {a : Option Addr} {n cap i : Nat} {xs : List (List SymD)} (h : RowC 1 AltE w (.slice a n cap) xs) (hi : i < xs.length) :
    ∃ b off aa ca, a = some ⟨b, off, none⟩ ∧ w.cell? ⟨b, off + i, none⟩ = some (.slice aa xs[i].length ca) ∧ RowC 4 SymE w (.slice aa xs[i].length ca) xs[i] := by
  obtain ⟨b, off, vs, rfl, _, hc, r0, rfl, h0⟩ := RowC.at h hi
  obtain ⟨aa, ca, rfl⟩ := h0.slice
  refine ⟨b, off, aa, ca, rfl, ?_, h0⟩
  have h := hc 0 (by simp)
  rw [Nat.mul_one] at h
  exact h
theorem grule_at {w : World} {a : Option Addr} {n cap i : Nat} {xs : List RuleD} (h : RowC 3 RuleE w (.slice a n cap) xs) (hi : i < xs.length) :
    ∃ b off pa pc ea ec, a = some ⟨b, off, none⟩ ∧ w.cell? ⟨b, off + i * 3, none⟩ = some (.string xs[i].name) ∧ w.cell? ⟨b, off + i * 3 + 1, none⟩ = some (.slice pa xs[i].params.length pc) ∧ w.cell? ⟨b, off + i * 3 + 2, none⟩ = some (.slice ea xs[i].alts.length ec) ∧ SRow w (.slice pa xs[i].params.length pc) xs[i].params ∧ RowC 1 AltE w (.slice ea xs[i].alts.length ec) xs[i].alts := by
  obtain ⟨b, off, vs, rfl, _, hc, r0, r1, rfl, h0, h1⟩ := RowC.at h hi
  obtain ⟨pa, pc, rfl⟩ := h0.slice
  obtain ⟨ea, ec, rfl⟩ := h1.slice
  exact ⟨b, off, pa, pc, ea, ec, rfl, hc 0 (by simp), hc 1 (by simp), hc 2 (by simp), h0, h1⟩

theorem gexpr_at {w : World} {a : Option Addr} {n cap k : Nat} {xs : List (List NodeD)} (h : RowC 1 ExprE w (.slice a n cap) xs) (hk : k < xs.length) :
    ∃ g off aa ca, a = some ⟨g, off, none⟩ ∧ w.cell? ⟨g, off + k, none⟩ = some (.slice aa xs[k].length ca) ∧ NRow w (.slice aa xs[k].length ca) xs[k] := by
  obtain ⟨g, off, vs, rfl, _, hc, r0, rfl, hh⟩ := h.at hk
  obtain ⟨aa, ca, rfl⟩ := hh.slice
  refine ⟨g, off, aa, ca, rfl, ?_, hh⟩
  have h := hc 0 (by simp)
  rw [Nat.mul_one] at h
  exact h

end Go.Proofs.YtcnkegkffmcdmaaGreatDoor

namespace Go.Proofs.YtcnkegkffmcdmaaGreatDoor
open Go.RowKit

theorem take_snoc4 (s : ByteArray) (k : Nat) (h : k < s.size) : s.data.toList.take (k + 1) = s.data.toList.take k ++ [s[k]] := by
  rw [List.take_succ_eq_append_getElem (by simpa using h)]; rfl

theorem half_odd (x : Nat) (h : x % 2 = 1) : half x = (x / 2) ^^^ 3558460437 := by rw [half, if_pos h]
theorem half_even (x : Nat) (h : ¬ x % 2 = 1) : half x = x / 2 := by rw [half, if_neg h]

set_option maxHeartbeats 1600000 in
set_option maxRecDepth 100000 in
theorem specSumMore_any (x : Nat) (s : ByteArray) (w : World) (hx : x < 4294967296) (hs : s.size ≤ 1048576) :
    Calls Tryz.prog 47 #[.int .u32 x, .string s] w fun e w' => e = .returned (.int .u32 (sumB x s.data.toList)) ∧ w' = w := by
  go_enter Tryz.func47, Tryz.ntmps47
  go_wp2
  go_loop [0, 5] (fun sv iv => ∃ k : Nat, k ≤ s.size ∧ iv = .int .i64 k ∧ sv = .int .u32 (sumB x (s.data.toList.take k))) (fun _ iv => s.size - (intOf iv).toNat)
  case atStart => exact ⟨0, Nat.zero_le _, rfl, rfl⟩
  case round =>
    obtain ⟨k, hk, rfl, rfl⟩ := hrel
    have hy := sumB_lt (s.data.toList.take k) x hx
    generalize hq : sumB x (s.data.toList.take k) = y at *
    have HQ : Hid (sumB x (s.data.toList.take k) = y) := hq
    clear hq
    by_cases hlt : k < s.size
    · have hb := s[k].toNat_lt
      have ex := u32_xor_nat y s[k].toNat hy (by omega)
      have HN : Hid (sumB x (s.data.toList.take (k + 1)) = halves 8 (y ^^^ s[k].toNat)) := by
        rw [take_snoc4 s k hlt, sumB_snoc, HQ.out]; rfl
      have hz := Nat.xor_lt_two_pow (n := 32) hy (show s[k].toNat < 2 ^ 32 by omega)
      generalize y ^^^ s[k].toNat = z at *
      go_wp2
      go_loop [0, 6] (fun sv jv => ∃ j : Nat, j ≤ 8 ∧ jv = .int .i64 j ∧ sv = .int .u32 (halves j z)) (fun _ jv => 8 - (intOf jv).toNat)
      case atStart => exact ⟨0, by omega, rfl, rfl⟩
      case round =>
        obtain ⟨j, hj, rfl, rfl⟩ := hrel
        have hu := halves_lt j z hz
        generalize hr : halves j z = u at *
        have HR : Hid (halves j z = u) := hr
        clear hr
        by_cases hj8 : j < 8
        · have HS : Hid (halves (j + 1) z = half u) := by rw [halves_snoc, HR.out]; exact rfl
          by_cases hodd : u % 2 = 1
          · have e1 : (((u : Int) % 2) == 1) = true := by simp; omega
            have e2 := u32_xor_nat (u / 2) 3558460437 (by omega) (by omega)
            go_wp2
            go_round
            case rel => exact ⟨j + 1, by omega, by go_num, by rw [HS.out, half_odd u hodd]; exact congrArg _ (by rw [← e2]; simp)⟩
            case measure => simp [intOf]; omega
          · have e1 : (((u : Int) % 2) == 1) = false := by simp; omega
            go_wp2
            go_round
            case rel => exact ⟨j + 1, by omega, by go_num, by rw [HS.out, half_even u hodd]; go_num⟩
            case measure => simp [intOf]; omega
        · obtain rfl : j = 8 := by omega
          go_wp2
          go_round
          case rel => exact ⟨k + 1, by omega, by go_num, by rw [HN.out, HR.out]⟩
          case measure => simp [intOf]; omega
    · obtain rfl : k = s.size := by omega
      have HE : Hid (sumB x s.data.toList = y) := by
        have := HQ.out
        rwa [List.take_of_length_le (by simp)] at this
      go_wp2
      go_ret
      rw [HE.out]
      exact ⟨rfl, rfl⟩

/-- Bytes laid in a new block, made a string. -/
theorem run_lit_string {P : Program} (w : World) (src dst e : TypeId) (l : List UInt8) (hl : l.length ≤ 1000) (hs : P.underlying src = some (.slice e)) (he : P.underlying e = some (.int .u8)) (hd : P.underlying dst = some .string) :
    (convert src dst (.slice (some ⟨w.heap.size, 0, none⟩) l.length l.length)).run P (w.alloc (.cells (bv l).toArray e)) = .ok (.string (str l)) (w.alloc (.cells (bv l).toArray e)) :=
  own_string (base := w.heap.size) l hs he hd (World.ownsRow_lit w (bv l).toArray l.length (Nat.le_refl _) (by unfold maxLen; omega) (by simp [bv_len]))

theorem bv_four (x : Nat) (hx : x < 4294967296) : bv (four x) = [.int .u8 ((x : Int) / 16777216), .int .u8 ((x : Int) / 65536 % 256), .int .u8 ((x : Int) / 256 % 256), .int .u8 ((x : Int) % 256)] := by
  simp only [bv, four, List.map_cons, List.map_nil]
  rw [toNat_ofNat _ (by omega), toNat_ofNat _ (by omega), toNat_ofNat _ (by omega), toNat_ofNat _ (by omega)]
  rw [show x / 16777216 % 256 = x / 16777216 by omega]
  simp

set_option maxHeartbeats 800000 in
theorem four_any (x : Nat) (w : World) (hx : x < 4294967296) :
    Calls Tryz.prog 26 #[.int .u32 x] w fun e w' => e = .returned (.string (str (four x))) ∧ Below w.heap.size w w' := by
  have hcv := fun W => run_lit_string (P := Tryz.prog) W 48 9 5 (four x) (by simp [four]) Tryz.underlying48 Tryz.underlying5 Tryz.underlying9
  rw [bv_four x hx] at hcv
  have hfl : (four x).length = 4 := rfl
  rw [hfl] at hcv
  clear hfl
  go_enter Tryz.func26, Tryz.ntmps26
  go_wp2
  go_ret
  exact ⟨rfl, (Below.refl _ _).alloc (Nat.le_refl _) _⟩

theorem specSumOf_any (s : ByteArray) (w : World) (hs : s.size ≤ 1048576) :
    Calls Tryz.prog 27 #[.string s] w fun e w' => e = .returned (.int .u32 (sumB 4294967295 s.data.toList)) ∧ w' = w := by
  go_enter Tryz.func27, Tryz.ntmps27
  go_wp2_with (go_at_call 47; refine (specSumMore_any 4294967295 s _ (by omega) hs).mono ?_; rintro e w1 ⟨rfl, rfl⟩)
  go_ret
  exact ⟨rfl, rfl⟩

/-- What Sealed and Unsealed answer. -/
def sealB (l : List UInt8) : List UInt8 := l ++ four (sumB 4294967295 l)
def unOk (l : List UInt8) : Bool := decide (4 ≤ l.length) && decide (l.length ≤ 20004) && decide (l.drop (l.length - 4) = four (sumB 4294967295 (l.take (l.length - 4))))
def usVal (l : List UInt8) : Value := if unOk l = true then .tuple #[.string (str (l.take (l.length - 4))), .bool true] else .tuple #[.string (str []), .bool false]
theorem usVal_no {l : List UInt8} (h : unOk l = false) : usVal l = .tuple #[.string (str []), .bool false] := by rw [usVal, if_neg (by simp [h])]
theorem usVal_yes {l : List UInt8} (h : unOk l = true) : usVal l = .tuple #[.string (str (l.take (l.length - 4))), .bool true] := by rw [usVal, if_pos h]

theorem four_len (x : Nat) : (four x).length = 4 := rfl
theorem str_add2 (a b : List UInt8) : str a ++ str b = str (a ++ b) := by
  apply ByteArray.ext
  simp [str]
theorem str_self (s : ByteArray) : str s.data.toList = s := by
  apply ByteArray.ext
  simp [str]

theorem specSealed_yes (s : ByteArray) (w : World) (hs : s.size ≤ 20000) :
    Calls Tryz.prog 14 #[.string s] w fun e w' => e = .returned (.tuple #[.string (str (sealB s.data.toList)), .bool true]) ∧ Below w.heap.size w w' := by
  have HE : Hid (s ++ str (four (sumB 4294967295 s.data.toList)) = str (sealB s.data.toList)) := by
    have := str_add2 s.data.toList (four (sumB 4294967295 s.data.toList))
    rw [str_self] at this
    exact this
  have hlt := sumB_lt s.data.toList 4294967295 (by omega)
  have hz : (str (four (sumB 4294967295 s.data.toList))).size = 4 := by rw [str_size, four_len]
  have hadd := fun W => run_string_add_sum (P := Tryz.prog) (w := W) s (str (four (sumB 4294967295 s.data.toList))) (by omega)
  clear hz
  go_enter Tryz.func14, Tryz.ntmps14
  go_wp2_with (first
    | (go_at_call 27; refine (specSumOf_any s _ (by omega)).mono ?_; rintro e w1 ⟨rfl, rfl⟩)
    | (go_at_call 26; refine (four_any _ _ hlt).mono ?_; rintro e w2 ⟨rfl, hb2⟩))
  go_ret2
  rw [← HE.out]
  exact ⟨rfl, hb2⟩

theorem specSealed_no (s : ByteArray) (w : World) (hs : 20000 < s.size) :
    Calls Tryz.prog 14 #[.string s] w fun e w' => e = .returned (.tuple #[.string (str []), .bool false]) ∧ w' = w := by
  have hs1 : (20000 : Int) < s.size := by omega
  go_enter Tryz.func14, Tryz.ntmps14
  go_wp2
  go_ret2
  exact ⟨rfl, rfl⟩

theorem unOk_iff (l : List UInt8) : unOk l = true ↔ 4 ≤ l.length ∧ l.length ≤ 20004 ∧ l.drop (l.length - 4) = four (sumB 4294967295 (l.take (l.length - 4))) := by
  simp [unOk, and_assoc]

end Go.Proofs.YtcnkegkffmcdmaaGreatDoor
