/- The program's readSet, SetOk and InSet. -/
import Derived.Test.YtkmkfpgaehgonaaGreatDoorSetBits
namespace Go.Proofs.YtkmkfpgaehgonaaGreatDoor
open Go.RowKit

/-- What is read up to a place. -/
def ReadTo (l : List UInt8) (rs : List (Nat × Nat)) (k : Nat) : Prop := rowsL l = (rowsL (l.drop k)).map (rs ++ ·) ∧ ∀ p ∈ rs, GoodR p
theorem readTo_start (l : List UInt8) : ReadTo l [] 0 := ⟨by simp, fun _ h => by cases h⟩
theorem readTo_none {l : List UInt8} {rs : List (Nat × Nat)} {k : Nat} (h : ReadTo l rs k) (hn : rowsL (l.drop k) = none) : rowsL l = none := by rw [h.1, hn]; rfl
theorem readTo_step {l : List UInt8} {rs : List (Nat × Nat)} {k j : Nat} {p : Nat × Nat} (h : ReadTo l rs k) (hs : rowsL (l.drop k) = (rowsL (l.drop j)).map (p :: ·)) (hg : GoodR p) : ReadTo l (rs ++ [p]) j := by
  refine ⟨?_, fun q hq => ?_⟩
  · rw [h.1, hs, Option.map_map]
    congr 1
    funext x
    simp
  · rcases List.mem_append.1 hq with hq | hq
    · exact h.2 q hq
    · rw [List.mem_singleton.1 hq]; exact hg
theorem readTo_end {l : List UInt8} {rs : List (Nat × Nat)} {k : Nat} (h : ReadTo l rs k) (hk : l.length ≤ k) : rowsL l = some rs := by
  rw [h.1, List.drop_of_length_le hk]
  simp [rowsL]
theorem maskL_of {l : List UInt8} {rs : List (Nat × Nat)} (h : rowsL l = some rs) (hl : l.length ≤ 12) : maskL l = maskR rs := by rw [maskL, if_neg (by omega), h]
theorem maskL_no {l : List UInt8} (h : rowsL l = none) : maskL l = 0 := by
  rw [maskL, h]
  split <;> rfl
theorem maskR_lt {rs : List (Nat × Nat)} (h : ∀ p ∈ rs, GoodR p) : maskR rs < 18446744073709551616 := by
  have := testBit_lt (m := maskR rs) fun i hi => by
    rw [maskR_bit rs h i, Bool.and_eq_true, valid_iff] at hi
    omega
  omega

theorem rowP_yes {a c : Nat} (ha : okb a = true) (h : rowOk a c = true) : rowP a c = rowM (a, c) := by rw [rowP, ha, h]; rfl
theorem rowP_no {a c : Nat} (h : (okb a && rowOk a c) = false) : rowP a c = 0 := by rw [rowP, h]; rfl
theorem rowOk_self {a : Nat} (h : okb a = true) : rowOk a a = true := by simp [rowOk, h]

theorem rows_bad' (l : List UInt8) (i : Nat) (h : i + 2 < l.length) (hb : l[i + 1].toNat = 45) (hr : (okb l[i].toNat && rowOk l[i].toNat l[i + 2].toNat) = false) : rowsL (l.drop i) = none := by
  cases ha : okb l[i].toNat with
  | false => exact rows_bad l i (by omega) ha
  | true => exact rows_norow l i h hb (by rw [ha, Bool.true_and] at hr; exact hr)

set_option maxHeartbeats 1600000 in
set_option maxRecDepth 100000 in
theorem readSet_any (s : ByteArray) (w : World) :
    Calls Tryz.prog 122 #[.string s] w fun e w' => e = .returned (.int .u64 (maskL s.data.toList : Nat)) ∧ Below w.heap.size w w' := by
  have HL : Hid (s.data.toList.length = s.size) := by simp [Hid]
  by_cases hlen : 12 < s.size
  · have hlen1 : (12 : Int) < s.size := by omega
    have HV : Hid (maskL s.data.toList = 0) := by rw [Hid, maskL, if_pos (by rw [HL.out]; exact hlen)]
    go_enter Tryz.func122, Tryz.ntmps122
    go_wp2
    go_ret
    rw [HV.out]
    exact ⟨rfl, Below.refl _ _⟩
  · have hlen1 : s.size ≤ 12 := by omega
    clear hlen
    go_enter Tryz.func122, Tryz.ntmps122
    go_wp2
    go_loopw [3, 4] (fun mv iv wr => ∃ (k : Nat) (rs : List (Nat × Nat)), mv = .int .u64 (maskR rs : Nat) ∧ iv = .int .i64 k ∧ k ≤ s.size ∧ ReadTo s.data.toList rs k ∧ Below w.heap.size w wr) (fun _ iv _ => s.size - (intOf iv).toNat)
    case atStart => exact ⟨0, [], rfl, rfl, Nat.zero_le _, readTo_start _, Below.refl _ _⟩
    case round =>
      obtain ⟨k, rs, rfl, rfl, hk, hread, hbel⟩ := hrel
      have HR : Hid (ReadTo s.data.toList rs k) := hread
      have HB : Hid (Below w.heap.size w wr) := hbel
      have hm := maskR_lt hread.2
      clear hread hbel
      by_cases hlt : k < s.size
      · have hu := s[k].toNat_lt
        have g1 : (0 : Int) ≤ (k : Int) := by omega
        have g2 : (k : Int) < (s.size : Int) := by omega
        by_cases hd : ∃ h2 : k + 2 < s.size, s[k + 1].toNat = 45
        · obtain ⟨h2, h45⟩ := hd
          have d1 : ((s[k + 1].toNat : Int) == 45) = true := by rw [h45]; rfl
          have hu2 := s[k + 2].toNat_lt
          have hrl := rowP_lt s[k].toNat s[k + 2].toNat
          have HD : Hid (s[k + 1].toNat = 45) := h45
          clear h45
          cases hrow : (okb s[k].toNat && rowOk s[k].toNat s[k + 2].toNat) with
          | false =>
            have HV : Hid (maskL s.data.toList = 0) := maskL_no (readTo_none HR.out (rows_bad' _ k (by rw [HL.out]; exact h2) HD.out hrow))
            have hp : rowP s[k].toNat s[k + 2].toNat = 0 := rowP_no hrow
            clear hrow
            go_wp2
            go_quiet (fail)
            go_wp2_with (go_at_call 139; refine (rowOf_any _ _ (by omega) (by omega) _).mono ?_; rw [hp]; rintro e wq ⟨rfl, hw⟩; rw [hw]; clear hw)
            go_ret
            rw [HV.out]
            exact ⟨rfl, bel_drewN HB.out _⟩
          | true =>
            rw [Bool.and_eq_true] at hrow
            have hp : rowP s[k].toNat s[k + 2].toNat = rowM (s[k].toNat, s[k + 2].toNat) := rowP_yes hrow.1 hrow.2
            have hne : ((rowM (s[k].toNat, s[k + 2].toNat) : Nat) : Int) ≠ 0 := by
              have := rowM_pos (rowOk_good hrow.1 hrow.2)
              omega
            have hne2 : (((rowM (s[k].toNat, s[k + 2].toNat) : Nat) : Int) == 0) = false := by simpa using hne
            rw [hp] at hrl
            have HS : Hid (ReadTo s.data.toList (rs ++ [(s[k].toNat, s[k + 2].toNat)]) (k + 3)) := readTo_step HR.out (rows_row _ k (by rw [HL.out]; exact h2) hrow.1 HD.out hrow.2) (rowOk_good hrow.1 hrow.2)
            have HM : Hid (maskR (rs ++ [(s[k].toNat, s[k + 2].toNat)]) = maskR rs ||| rowM (s[k].toNat, s[k + 2].toNat)) := maskR_app _ _
            clear hrow hne
            generalize rowM (s[k].toNat, s[k + 2].toNat) = x at *
            go_wp2
            go_quiet (fail)
            go_wp2_with (first
              | (go_at_call 139; refine (rowOf_any _ _ (by omega) (by omega) _).mono ?_; rw [hp]; rintro e wq ⟨rfl, hw⟩; rw [hw]; clear hw)
              | (go_at_call 140; refine (joined_any _ _ hm hrl _).mono ?_; rintro e wq ⟨rfl, hw⟩; rw [hw]; clear hw))
            go_roundw
            case rel => exact ⟨k + 3, _, by rw [HM.out], by go_num, by omega, HS.out, bel_drewN HB.out _⟩
            case measure => simp [intOf]; omega
        · have hone : ∀ h2 : k + 2 < s.data.toList.length, s.data.toList[k + 1].toNat ≠ 45 := fun h2 h45 => hd ⟨by rw [HL.out] at h2; exact h2, h45⟩
          have hrl := rowP_lt s[k].toNat s[k].toNat
          cases ha : okb s[k].toNat with
          | false =>
            have HV : Hid (maskL s.data.toList = 0) := maskL_no (readTo_none HR.out (rows_bad _ k (by rw [HL.out]; exact hlt) ha))
            have hp : rowP s[k].toNat s[k].toNat = 0 := rowP_no (by rw [ha]; rfl)
            clear ha hone
            by_cases h2 : k + 2 < s.size
            · have d1 : ((s[k + 1].toNat : Int) == 45) = false := by
                have : s[k + 1].toNat ≠ 45 := fun h45 => hd ⟨h2, h45⟩
                simpa using (by omega : (s[k + 1].toNat : Int) ≠ 45)
              clear hd
              go_wp2
              go_quiet (fail)
              go_wp2_with (go_at_call 139; refine (rowOf_any _ _ (by omega) (by omega) _).mono ?_; rw [hp]; rintro e wq ⟨rfl, hw⟩; rw [hw]; clear hw)
              go_ret
              rw [HV.out]
              exact ⟨rfl, bel_drewN HB.out _⟩
            · clear hd
              go_wp2
              go_quiet (fail)
              go_wp2_with (go_at_call 139; refine (rowOf_any _ _ (by omega) (by omega) _).mono ?_; rw [hp]; rintro e wq ⟨rfl, hw⟩; rw [hw]; clear hw)
              go_ret
              rw [HV.out]
              exact ⟨rfl, bel_drewN HB.out _⟩
          | true =>
            have hp : rowP s[k].toNat s[k].toNat = rowM (s[k].toNat, s[k].toNat) := rowP_yes ha (rowOk_self ha)
            have hg : GoodR (s[k].toNat, s[k].toNat) := rowOk_good ha (rowOk_self ha)
            have hne2 : (((rowM (s[k].toNat, s[k].toNat) : Nat) : Int) == 0) = false := by
              have := rowM_pos hg
              simpa using (by omega : ((rowM (s[k].toNat, s[k].toNat) : Nat) : Int) ≠ 0)
            rw [hp] at hrl
            have HS : Hid (ReadTo s.data.toList (rs ++ [(s[k].toNat, s[k].toNat)]) (k + 1)) := readTo_step HR.out (rows_one _ k (by rw [HL.out]; exact hlt) ha hone) hg
            have HM : Hid (maskR (rs ++ [(s[k].toNat, s[k].toNat)]) = maskR rs ||| rowM (s[k].toNat, s[k].toNat)) := maskR_app _ _
            clear ha hg hone
            generalize rowM (s[k].toNat, s[k].toNat) = x at *
            by_cases h2 : k + 2 < s.size
            · have d1 : ((s[k + 1].toNat : Int) == 45) = false := by
                have : s[k + 1].toNat ≠ 45 := fun h45 => hd ⟨h2, h45⟩
                simpa using (by omega : (s[k + 1].toNat : Int) ≠ 45)
              clear hd
              go_wp2
              go_quiet (fail)
              go_wp2_with (first
                | (go_at_call 139; refine (rowOf_any _ _ (by omega) (by omega) _).mono ?_; rw [hp]; rintro e wq ⟨rfl, hw⟩; rw [hw]; clear hw)
                | (go_at_call 140; refine (joined_any _ _ hm hrl _).mono ?_; rintro e wq ⟨rfl, hw⟩; rw [hw]; clear hw))
              go_roundw
              case rel => exact ⟨k + 1, _, by rw [HM.out], by go_num, by omega, HS.out, bel_drewN HB.out _⟩
              case measure => simp [intOf]; omega
            · clear hd
              go_wp2
              go_quiet (fail)
              go_wp2_with (first
                | (go_at_call 139; refine (rowOf_any _ _ (by omega) (by omega) _).mono ?_; rw [hp]; rintro e wq ⟨rfl, hw⟩; rw [hw]; clear hw)
                | (go_at_call 140; refine (joined_any _ _ hm hrl _).mono ?_; rintro e wq ⟨rfl, hw⟩; rw [hw]; clear hw))
              go_roundw
              case rel => exact ⟨k + 1, _, by rw [HM.out], by go_num, by omega, HS.out, bel_drewN HB.out _⟩
              case measure => simp [intOf]; omega
      · obtain rfl : k = s.size := by omega
        have HV : Hid (maskL s.data.toList = maskR rs) := maskL_of (readTo_end HR.out (by rw [HL.out]; exact Nat.le_refl _)) (by rw [HL.out]; exact hlen1)
        go_wp2
        go_ret
        rw [HV.out]
        exact ⟨rfl, HB.out⟩

theorem implSetOk_any (s : ByteArray) (w : World) :
    Calls Tryz.prog 99 #[.string s] w fun e w' => e = .returned (.bool (okL s.data.toList)) ∧ Below w.heap.size w w' := by
  have HV : Hid ((((maskL s.data.toList : Nat) : Int) != 0) = okL s.data.toList) := by rw [Hid, maskL_ok, Bool.eq_iff_iff]; simp
  have HR : Hid (∀ W, _) := fun W => readSet_any s W
  generalize maskL s.data.toList = m at *
  go_enter Tryz.func99, Tryz.ntmps99
  go_wp2_with (go_at_call 122; refine (HR.out _).mono ?_; rintro e w1 ⟨rfl, hb1⟩)
  go_ret
  exact ⟨congrArg (fun z => Ending.returned (Value.bool z)) HV.out, hb1⟩

end Go.Proofs.YtkmkfpgaehgonaaGreatDoor
