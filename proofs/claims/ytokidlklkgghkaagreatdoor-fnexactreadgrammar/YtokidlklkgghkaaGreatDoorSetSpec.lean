/- The specification's l05Byte, l05Rows, SetOk, InSet and SetBytes. -/
import Derived.Test.YtokidlklkgghkaaGreatDoorSetRead
import Derived.Test.YtokidlklkgghkaaGreatDoorMark
namespace Go.Proofs.YtokidlklkgghkaaGreatDoor
open Go.RowKit

theorem in5_any (n lo hi : Int) (w : World) :
    Calls Tryz.prog 54 #[.int .i64 n, .int .i64 lo, .int .i64 hi] w fun e w' => e = .returned (.bool (decide (lo ≤ n) && decide (n ≤ hi))) ∧ w' = w := by
  by_cases h1 : lo ≤ n
  · by_cases h2 : n ≤ hi
    · have hd : (decide (lo ≤ n) && decide (n ≤ hi)) = true := by simp [h1, h2]
      go_enter Tryz.func54, Tryz.ntmps54
      go_wp2
      go_ret
      rw [hd]
      exact ⟨rfl, rfl⟩
    · have hd : (decide (lo ≤ n) && decide (n ≤ hi)) = false := by simp [h2]
      have h3 : hi < n := by omega
      go_enter Tryz.func54, Tryz.ntmps54
      go_wp2
      go_ret
      exact ⟨congrArg (fun x => Ending.returned (Value.bool x)) (by first | exact hd.symm | simp [h2]), rfl⟩
  · have hd : (decide (lo ≤ n) && decide (n ≤ hi)) = false := by simp [h1]
    have h3 : n < lo := by omega
    go_enter Tryz.func54, Tryz.ntmps54
    go_wp2
    go_ret
    exact ⟨congrArg (fun x => Ending.returned (Value.bool x)) (by first | exact hd.symm | simp), rfl⟩

theorem byte5_any (b : Nat) (hb : b < 256) (w : World) :
    Calls Tryz.prog 113 #[.int .u8 b] w fun e w' => e = .returned (.bool (okb b)) ∧ w' = w := by
  by_cases h1 : 48 ≤ b ∧ b ≤ 57
  · have HV : Hid (okb b = true) := (okb_iff b).2 (.inr h1)
    obtain ⟨h1, h2⟩ := h1
    go_enter Tryz.func113, Tryz.ntmps113
    go_wp2
    go_ret
    exact ⟨congrArg (fun x => Ending.returned (Value.bool x)) (by first | exact HV.out.symm | (rw [HV.out]; simp; omega)), rfl⟩
  · by_cases h2 : 97 ≤ b ∧ b ≤ 122
    · have HV : Hid (okb b = true) := (okb_iff b).2 (.inl h2)
      obtain ⟨h2, h3⟩ := h2
      clear h1
      go_enter Tryz.func113, Tryz.ntmps113
      go_wp2
      go_ret
      exact ⟨congrArg (fun x => Ending.returned (Value.bool x)) (by first | exact HV.out.symm | (rw [HV.out]; simp; omega)), rfl⟩
    · have HV : Hid (okb b = false) := (okb_not b).2 (by omega)
      by_cases h3 : b < 48
      · go_enter Tryz.func113, Tryz.ntmps113
        go_wp2
        go_ret
        exact ⟨congrArg (fun x => Ending.returned (Value.bool x)) (by first | exact HV.out.symm | (rw [HV.out]; simp; omega)), rfl⟩
      · by_cases h4 : b < 97
        · have h5 : 57 < b := by omega
          go_enter Tryz.func113, Tryz.ntmps113
          go_wp2
          go_ret
          exact ⟨congrArg (fun x => Ending.returned (Value.bool x)) (by first | exact HV.out.symm | (rw [HV.out]; simp; omega)), rfl⟩
        · have h5 : 122 < b := by omega
          go_enter Tryz.func113, Tryz.ntmps113
          go_wp2
          go_ret
          exact ⟨congrArg (fun x => Ending.returned (Value.bool x)) (by first | exact HV.out.symm | (rw [HV.out]; simp; omega)), rfl⟩

/-- Bytes laid in a new block, made a string. -/
theorem run_some_string {P : Program} (w : World) (src dst e : TypeId) (l : List UInt8) (cap : Nat) (hs : P.underlying src = some (.slice e)) (he : P.underlying e = some (.int .u8)) (hd : P.underlying dst = some .string) :
    (convert src dst (.slice (some ⟨w.heap.size, 0, none⟩) l.length cap)).run P (w.alloc (.cells (bv l).toArray e)) = .ok (.string (str l)) (w.alloc (.cells (bv l).toArray e)) := by
  refine run_convert_bytes_back (P := P) (w.alloc (.cells (bv l).toArray e)) src dst e ⟨w.heap.size, 0, none⟩ cap l hs he hd (fun j hj => ?_)
  have hb : (w.alloc (.cells (bv l).toArray e)).heap[w.heap.size]? = some (.cells (bv l).toArray e) := heap_alloc_new w _
  rw [Addr.add_lit, Nat.zero_add, cell_of_row _ _ j _ _ _ hb]
  simp [bv, hj]

theorem run_two_string {P : Program} (w : World) (src dst e : TypeId) (a b : UInt8) (hs : P.underlying src = some (.slice e)) (he : P.underlying e = some (.int .u8)) (hd : P.underlying dst = some .string) :
    (convert src dst (.slice (some ⟨w.heap.size, 0, none⟩) 2 2)).run P (w.alloc (.cells #[.int .u8 (a.toNat : Int), .int .u8 (b.toNat : Int)] e)) = .ok (.string (str [a, b])) (w.alloc (.cells #[.int .u8 (a.toNat : Int), .int .u8 (b.toNat : Int)] e)) :=
  run_some_string w src dst e [a, b] 2 hs he hd

/-- Rows as bytes. -/
def rb (rs : List (Nat × Nat)) : List UInt8 := rs.flatMap fun p => [UInt8.ofNat p.1, UInt8.ofNat p.2]
theorem rb_app (rs : List (Nat × Nat)) (a c : UInt8) : rb (rs ++ [(a.toNat, c.toNat)]) = rb rs ++ [a, c] := by simp [rb]
theorem rb_len (rs : List (Nat × Nat)) : (rb rs).length = 2 * rs.length := by
  induction rs with
  | nil => rfl
  | cons p rs ih => simp only [rb, List.flatMap_cons, List.length_append, List.length_cons, List.length_nil] at *; omega

/-- What l05Rows answers. -/
def lenOk (s : ByteArray) : Bool := decide ((1 : Int) ≤ (s.size : Int)) && decide ((s.size : Int) ≤ 12)
def rowsS (s : ByteArray) : List UInt8 := match rowsL s.data.toList with
  | none => []
  | some rs => rb rs
theorem okL_of (s : ByteArray) : okL s.data.toList = ((rowsL s.data.toList).isSome && lenOk s) := by
  rw [okL, lenOk]
  congr 1
  rw [Bool.eq_iff_iff]
  simp only [Bool.and_eq_true, decide_eq_true_eq]
  have : s.data.toList.length = s.size := by simp
  omega
theorem rowsV_none {s : ByteArray} (h : rowsL s.data.toList = none) : rowsS s = [] ∧ okL s.data.toList = false := ⟨by rw [rowsS, h], by rw [okL, h]; rfl⟩
theorem rowsV_some {s : ByteArray} {rs : List (Nat × Nat)} (h : rowsL s.data.toList = some rs) : rowsS s = rb rs ∧ okL s.data.toList = lenOk s := ⟨by rw [rowsS, h], by rw [okL_of, h]; rfl⟩

set_option maxHeartbeats 1600000 in
set_option maxRecDepth 100000 in
theorem rows_any (s : ByteArray) (w : World) (hs : s.size ≤ 1048576) :
    Calls Tryz.prog 114 #[.string s] w fun e w' => e = .returned (.tuple #[.string (str (rowsS s)), .bool (okL s.data.toList)]) ∧ Below w.heap.size w w' := by
  have HL : Hid (s.data.toList.length = s.size) := by simp [Hid]
  go_enter Tryz.func114, Tryz.ntmps114
  go_wp2
  go_loopw [4, 5] (fun tv iv wr => ∃ (k : Nat) (rs : List (Nat × Nat)), tv = .string (str (rb rs)) ∧ iv = .int .i64 k ∧ k ≤ s.size ∧ rs.length ≤ k ∧ ReadTo s.data.toList rs k ∧ Below w.heap.size w wr) (fun _ iv _ => s.size - (intOf iv).toNat)
  case atStart => exact ⟨0, [], rfl, rfl, Nat.zero_le _, Nat.le_refl _, readTo_start _, Below.refl _ _⟩
  case round =>
    obtain ⟨k, rs, rfl, rfl, hk, hrk, hread, hbel⟩ := hrel
    have HR : Hid (ReadTo s.data.toList rs k) := hread
    have HB : Hid (Below w.heap.size w wr) := hbel
    have hsz := hbel.size
    clear hread hbel
    by_cases hlt : k < s.size
    · have hu := s[k].toNat_lt
      cases ha : okb s[k].toNat with
      | false =>
        have HV : Hid (_ ∧ _) := rowsV_none (readTo_none HR.out (rows_bad _ k (by rw [HL.out]; exact hlt) ha))
        go_wp2_with (go_at_call 113; refine (byte5_any _ (by omega) _).mono ?_; rw [ha]; rintro e wq ⟨rfl, hw⟩; rw [hw]; clear hw)
        go_ret2
        rw [HV.out.1, HV.out.2]
        exact ⟨rfl, HB.out⟩
      | true =>
        have HA : Hid (okb s[k].toNat = true) := ha
        by_cases hd : ∃ h2 : k + 2 < s.size, s[k + 1].toNat = 45
        · obtain ⟨h2, h45⟩ := hd
          have d1 : ((s[k + 1].toNat : Int) == 45) = true := by rw [h45]; rfl
          have hu2 := s[k + 2].toNat_lt
          have HD : Hid (s[k + 1].toNat = 45) := h45
          clear h45
          cases hrow : rowOk s[k].toNat s[k + 2].toNat with
          | false =>
            have HV : Hid (_ ∧ _) := rowsV_none (readTo_none HR.out (rows_norow _ k (by rw [HL.out]; exact h2) HD.out hrow))
            cases hc : okb s[k + 2].toNat with
            | false =>
              go_wp2_with (go_at_call 113; refine (byte5_any _ (by omega) _).mono ?_; (first | rw [ha] | rw [hc]); rintro e wq ⟨rfl, hw⟩; rw [hw]; clear hw)
              go_ret2
              rw [HV.out.1, HV.out.2]
              exact ⟨rfl, HB.out⟩
            | true =>
              by_cases hl : s[k + 2].toNat < s[k].toNat
              · go_wp2_with (go_at_call 113; refine (byte5_any _ (by omega) _).mono ?_; (first | rw [ha] | rw [hc]); rintro e wq ⟨rfl, hw⟩; rw [hw]; clear hw)
                go_ret2
                rw [HV.out.1, HV.out.2]
                exact ⟨rfl, HB.out⟩
              · have hl2 : s[k].toNat ≤ s[k + 2].toNat := by omega
                obtain ⟨hx, hy⟩ : 57 < s[k + 2].toNat ∧ s[k].toNat ≤ 57 := by
                  apply Classical.byContradiction
                  intro hn
                  rw [rowOk, hc, decide_eq_true hl2] at hrow
                  simp at hrow
                  omega
                have hne : (!(decide ((57 : Int) < (s[k + 2].toNat : Int)) == decide ((57 : Int) < (s[k].toNat : Int)))) = true := by
                  rw [decide_eq_true (by omega), decide_eq_false (by omega)]
                  rfl
                clear hrow hl
                go_wp2_with (go_at_call 113; refine (byte5_any _ (by omega) _).mono ?_; (first | rw [ha] | rw [hc]); rintro e wq ⟨rfl, hw⟩; rw [hw]; clear hw)
                go_ret2
                rw [HV.out.1, HV.out.2]
                exact ⟨rfl, HB.out⟩
          | true =>
            have HS : Hid (ReadTo s.data.toList (rs ++ [(s[k].toNat, s[k + 2].toNat)]) (k + 3)) := readTo_step HR.out (rows_row _ k (by rw [HL.out]; exact h2) ha HD.out hrow) (rowOk_good ha hrow)
            have HM : Hid (rb (rs ++ [(s[k].toNat, s[k + 2].toNat)]) = rb rs ++ [s[k], s[k + 2]]) := rb_app _ _ _
            obtain ⟨_, hc, hl, h57⟩ := rowOk_good ha hrow
            simp only at hc hl h57
            have hcv := fun W => run_two_string (P := Tryz.prog) W 72 9 5 s[k] s[k + 2] Tryz.underlying72 Tryz.underlying5 Tryz.underlying9
            have hadd := fun W => run_add_str (P := Tryz.prog) W (rb rs) [s[k], s[k + 2]] (by rw [rb_len]; simp; omega)
            have HB2 : Hid (∀ o, Below w.heap.size w (wr.alloc o)) := fun o => HB.out.alloc hsz o
            clear hrow
            by_cases hx : s[k].toNat ≤ 57
            · have hy : s[k + 2].toNat ≤ 57 := by omega
              have hne : (!(decide ((57 : Int) < (s[k + 2].toNat : Int)) == decide ((57 : Int) < (s[k].toNat : Int)))) = false := by
                rw [decide_eq_false (by omega), decide_eq_false (by omega)]
                rfl
              clear h57
              go_wp2_with (go_at_call 113; refine (byte5_any _ (by omega) _).mono ?_; (first | rw [ha] | rw [hc]); rintro e wq ⟨rfl, hw⟩; rw [hw]; clear hw)
              go_roundw
              case rel => exact ⟨k + 3, _, by rw [HM.out], by go_num, by omega, by simp; omega, HS.out, HB2.out _⟩
              case measure => simp [intOf]; omega
            · have hy : 57 < s[k + 2].toNat := by omega
              have hx2 : 57 < s[k].toNat := by omega
              have hne : (!(decide ((57 : Int) < (s[k + 2].toNat : Int)) == decide ((57 : Int) < (s[k].toNat : Int)))) = false := by
                rw [decide_eq_true (by omega), decide_eq_true (by omega)]
                rfl
              clear h57
              go_wp2_with (go_at_call 113; refine (byte5_any _ (by omega) _).mono ?_; (first | rw [ha] | rw [hc]); rintro e wq ⟨rfl, hw⟩; rw [hw]; clear hw)
              go_roundw
              case rel => exact ⟨k + 3, _, by rw [HM.out], by go_num, by omega, by simp; omega, HS.out, HB2.out _⟩
              case measure => simp [intOf]; omega
        · have hone : ∀ h2 : k + 2 < s.data.toList.length, s.data.toList[k + 1].toNat ≠ 45 := fun h2 h45 => hd ⟨by rw [HL.out] at h2; exact h2, h45⟩
          have HS : Hid (ReadTo s.data.toList (rs ++ [(s[k].toNat, s[k].toNat)]) (k + 1)) := readTo_step HR.out (rows_one _ k (by rw [HL.out]; exact hlt) ha hone) (rowOk_good ha (rowOk_self ha))
          have HM : Hid (rb (rs ++ [(s[k].toNat, s[k].toNat)]) = rb rs ++ [s[k], s[k]]) := rb_app _ _ _
          have hcv := fun W => run_two_string (P := Tryz.prog) W 72 9 5 s[k] s[k] Tryz.underlying72 Tryz.underlying5 Tryz.underlying9
          have hadd := fun W => run_add_str (P := Tryz.prog) W (rb rs) [s[k], s[k]] (by rw [rb_len]; simp; omega)
          have HB2 : Hid (∀ o, Below w.heap.size w (wr.alloc o)) := fun o => HB.out.alloc hsz o
          clear hone
          by_cases h2 : k + 2 < s.size
          · have d1 : ((s[k + 1].toNat : Int) == 45) = false := by
              have : s[k + 1].toNat ≠ 45 := fun h45 => hd ⟨h2, h45⟩
              simpa using (by omega : (s[k + 1].toNat : Int) ≠ 45)
            clear hd
            go_wp2_with (go_at_call 113; refine (byte5_any _ (by omega) _).mono ?_; rw [ha]; rintro e wq ⟨rfl, hw⟩; rw [hw]; clear hw)
            go_roundw
            case rel => exact ⟨k + 1, _, by rw [HM.out], by go_num, by omega, by simp; omega, HS.out, HB2.out _⟩
            case measure => simp [intOf]; omega
          · clear hd
            go_wp2_with (go_at_call 113; refine (byte5_any _ (by omega) _).mono ?_; rw [ha]; rintro e wq ⟨rfl, hw⟩; rw [hw]; clear hw)
            go_roundw
            case rel => exact ⟨k + 1, _, by rw [HM.out], by go_num, by omega, by simp; omega, HS.out, HB2.out _⟩
            case measure => simp [intOf]; omega
    · obtain rfl : k = s.size := by omega
      have HV : Hid (_ ∧ _) := rowsV_some (readTo_end HR.out (by rw [HL.out]; exact Nat.le_refl _))
      go_wp2_with (go_at_call 54; refine (in5_any _ _ _ _).mono ?_; rintro e wq ⟨rfl, hw⟩; rw [hw]; clear hw)
      go_ret2
      rw [HV.out.1, HV.out.2]
      exact ⟨rfl, HB.out⟩

theorem specSetOk_any (s : ByteArray) (w : World) (hs : s.size ≤ 1048576) :
    Calls Tryz.prog 95 #[.string s] w fun e w' => e = .returned (.bool (okL s.data.toList)) ∧ Below w.heap.size w w' := by
  have HR : Hid (∀ W, _) := fun W => rows_any s W hs
  generalize okL s.data.toList = b at *
  generalize rowsS s = l at *
  go_enter Tryz.func95, Tryz.ntmps95
  go_wp2_with (go_at_call 114; refine (HR.out _).mono ?_; rintro e w1 ⟨rfl, hb1⟩)
  go_ret
  exact ⟨rfl, hb1⟩

end Go.Proofs.YtokidlklkgghkaaGreatDoor
