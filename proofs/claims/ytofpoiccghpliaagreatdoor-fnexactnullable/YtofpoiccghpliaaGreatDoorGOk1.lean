/- The specification's l05Byte, l05Rows, SetOk, InSet and SetBytes. -/
/- The specification's l06Text, l06Known, l06Args and l06Params. -/
import Derived.Test.YtofpoiccghpliaaGreatDoorSetRead
import Derived.Test.YtofpoiccghpliaaGreatDoorDecPure
import Derived.Test.YtofpoiccghpliaaGreatDoorGRule
import Derived.Test.YtofpoiccghpliaaGreatDoorXFree
import Derived.Test.YtofpoiccghpliaaGreatDoorSetPure
import Derived.Deep.QuietTactic
import Derived.BigQuiet
namespace Go.Proofs.YtofpoiccghpliaaGreatDoor
open Go.RowKit

theorem in5_any (n lo hi : Int) (w : World) :
    Calls Tryz.prog 23 #[.int .i64 n, .int .i64 lo, .int .i64 hi] w fun e w' => e = .returned (.bool (decide (lo ≤ n) && decide (n ≤ hi))) ∧ w' = w := by
  by_cases h1 : lo ≤ n
  · by_cases h2 : n ≤ hi
    · have hd : (decide (lo ≤ n) && decide (n ≤ hi)) = true := by simp [h1, h2]
      go_enter Tryz.func23, Tryz.ntmps23
      go_wp2
      go_ret
      rw [hd]
      exact ⟨rfl, rfl⟩
    · have hd : (decide (lo ≤ n) && decide (n ≤ hi)) = false := by simp [h2]
      have h3 : hi < n := by omega
      go_enter Tryz.func23, Tryz.ntmps23
      go_wp2
      go_ret
      exact ⟨congrArg (fun x => Ending.returned (Value.bool x)) (by first | exact hd.symm | simp [h2]), rfl⟩
  · have hd : (decide (lo ≤ n) && decide (n ≤ hi)) = false := by simp [h1]
    have h3 : n < lo := by omega
    go_enter Tryz.func23, Tryz.ntmps23
    go_wp2
    go_ret
    exact ⟨congrArg (fun x => Ending.returned (Value.bool x)) (by first | exact hd.symm | simp), rfl⟩

theorem byte5_any (b : Nat) (hb : b < 256) (w : World) :
    Calls Tryz.prog 66 #[.int .u8 b] w fun e w' => e = .returned (.bool (okb b)) ∧ w' = w := by
  by_cases h1 : 48 ≤ b ∧ b ≤ 57
  · have HV : Hid (okb b = true) := (okb_iff b).2 (.inr h1)
    obtain ⟨h1, h2⟩ := h1
    go_enter Tryz.func66, Tryz.ntmps66
    go_wp2
    go_ret
    exact ⟨congrArg (fun x => Ending.returned (Value.bool x)) (by first | exact HV.out.symm | (rw [HV.out]; simp; omega)), rfl⟩
  · by_cases h2 : 97 ≤ b ∧ b ≤ 122
    · have HV : Hid (okb b = true) := (okb_iff b).2 (.inl h2)
      obtain ⟨h2, h3⟩ := h2
      clear h1
      go_enter Tryz.func66, Tryz.ntmps66
      go_wp2
      go_ret
      exact ⟨congrArg (fun x => Ending.returned (Value.bool x)) (by first | exact HV.out.symm | (rw [HV.out]; simp; omega)), rfl⟩
    · have HV : Hid (okb b = false) := (okb_not b).2 (by omega)
      by_cases h3 : b < 48
      · go_enter Tryz.func66, Tryz.ntmps66
        go_wp2
        go_ret
        exact ⟨congrArg (fun x => Ending.returned (Value.bool x)) (by first | exact HV.out.symm | (rw [HV.out]; simp; omega)), rfl⟩
      · by_cases h4 : b < 97
        · have h5 : 57 < b := by omega
          go_enter Tryz.func66, Tryz.ntmps66
          go_wp2
          go_ret
          exact ⟨congrArg (fun x => Ending.returned (Value.bool x)) (by first | exact HV.out.symm | (rw [HV.out]; simp; omega)), rfl⟩
        · have h5 : 122 < b := by omega
          go_enter Tryz.func66, Tryz.ntmps66
          go_wp2
          go_ret
          exact ⟨congrArg (fun x => Ending.returned (Value.bool x)) (by first | exact HV.out.symm | (rw [HV.out]; simp; omega)), rfl⟩

/-- Bytes laid in a new block, made a string. -/
theorem run_some_string {P : Program} (w : World) (src dst e : TypeId) (l : List UInt8) (cap : Nat) (hs : P.underlying src = some (.slice e)) (he : P.underlying e = some (.int .u8)) (hd : P.underlying dst = some .string) :
    (convert src dst (.slice (some ⟨w.heap.size, 0, none⟩) l.length cap)).run P (w.alloc (.cells (bv l).toArray e)) = .ok (.string (str l)) (w.alloc (.cells (bv l).toArray e)) := by
  refine run_convert_bytes_back (P := P) (w.alloc (.cells (bv l).toArray e)) src dst e ⟨w.heap.size, 0, none⟩ cap l hs he hd (fun j hj => ?_)
  have hb : (w.alloc (.cells (bv l).toArray e)).heap[w.heap.size]? = some (.cells (bv l).toArray e) := heap_alloc_new w _
  rw [Addr.add_lit, Nat.zero_add, cell_of_row _ _ j _ _ _ hb]
  simp [bv, hj]

theorem run_two_string {P : Program} (w : World) (src dst e : TypeId) (a b : UInt8) (hs : P.underlying src = some (.slice e)) (he : P.underlying e = some (.int .u8)) (hd : P.underlying dst = some .string) :
    (convert src dst (.slice (some ⟨w.heap.size, 0, none⟩) 2 2)).run P (w.alloc (.cells #[.int .u8 (a.toNat : Int), .int .u8 (b.toNat : Int)] e)) = .ok (.string (str [a, b])) (w.alloc (.cells #[.int .u8 (a.toNat : Int), .int .u8 (b.toNat : Int)] e)) :=
  run_some_string w src dst e [a, b] 2 hs he hd

/-- Rows as bytes. -/
def rb (rs : List (Nat × Nat)) : List UInt8 := rs.flatMap fun p => [UInt8.ofNat p.1, UInt8.ofNat p.2]
theorem rb_app (rs : List (Nat × Nat)) (a c : UInt8) : rb (rs ++ [(a.toNat, c.toNat)]) = rb rs ++ [a, c] := by simp [rb]
theorem rb_len (rs : List (Nat × Nat)) : (rb rs).length = 2 * rs.length := by
  induction rs with
  | nil => rfl
  | cons p rs ih => simp only [rb, List.flatMap_cons, List.length_append, List.length_cons, List.length_nil] at *; omega
theorem rb_at (rs : List (Nat × Nat)) (hg : ∀ p ∈ rs, GoodR p) (j : Nat) (h : j < rs.length) : (∃ h0 : 2 * j < (rb rs).length, (rb rs)[2 * j].toNat = rs[j].1) ∧ ∃ h1 : 2 * j + 1 < (rb rs).length, (rb rs)[2 * j + 1].toNat = rs[j].2 := by
  have hl := rb_len rs
  refine ⟨⟨by omega, ?_⟩, ⟨by omega, ?_⟩⟩
  · induction rs generalizing j with
    | nil => cases h
    | cons p rs ih =>
      have gp := hg p (List.mem_cons_self ..)
      have o1 := (okb_iff _).1 gp.1
      match j, h with
      | 0, _ => exact toNat_ofNat p.1 (by omega)
      | j + 1, h =>
        have := ih (fun q hq => hg q (List.mem_cons_of_mem _ hq)) j (by simpa using h) (rb_len rs)
        simpa [rb, Nat.mul_add] using this
  · induction rs generalizing j with
    | nil => cases h
    | cons p rs ih =>
      have gp := hg p (List.mem_cons_self ..)
      have o1 := (okb_iff _).1 gp.2.1
      match j, h with
      | 0, _ => exact toNat_ofNat p.2 (by omega)
      | j + 1, h =>
        have := ih (fun q hq => hg q (List.mem_cons_of_mem _ hq)) j (by simpa using h) (rb_len rs)
        simpa [rb, Nat.mul_add] using this

/-- What l05Rows answers. -/
def lenOk (s : ByteArray) : Bool := decide ((1 : Int) ≤ (s.size : Int)) && decide ((s.size : Int) ≤ 12)
def rowsS (s : ByteArray) : List UInt8 := match rowsL s.data.toList with
  | none => []
  | some rs => rb rs
theorem okL_of (s : ByteArray) : okL s.data.toList = ((rowsL s.data.toList).isSome && lenOk s) := by
  rw [okL, lenOk]
  congr 1
  rw [Bool.eq_iff_iff]
  simp only [Bool.and_eq_true, decide_eq_true_eq]
  have : s.data.toList.length = s.size := by simp
  omega
theorem rowsV_none {s : ByteArray} (h : rowsL s.data.toList = none) : rowsS s = [] ∧ okL s.data.toList = false := ⟨by rw [rowsS, h], by rw [okL, h]; rfl⟩
theorem rowsV_some {s : ByteArray} {rs : List (Nat × Nat)} (h : rowsL s.data.toList = some rs) : rowsS s = rb rs ∧ okL s.data.toList = lenOk s := ⟨by rw [rowsS, h], by rw [okL_of, h]; rfl⟩

set_option maxHeartbeats 1600000 in
set_option maxRecDepth 100000 in
theorem rows_any (s : ByteArray) (w : World) (hs : s.size ≤ 1048576) :
    Calls Tryz.prog 67 #[.string s] w fun e w' => e = .returned (.tuple #[.string (str (rowsS s)), .bool (okL s.data.toList)]) ∧ Below w.heap.size w w' := by
  have HL : Hid (s.data.toList.length = s.size) := by simp [Hid]
  go_enter Tryz.func67, Tryz.ntmps67
  go_wp2
  go_loopw [4, 5] (fun tv iv wr => ∃ (k : Nat) (rs : List (Nat × Nat)), tv = .string (str (rb rs)) ∧ iv = .int .i64 k ∧ k ≤ s.size ∧ rs.length ≤ k ∧ ReadTo s.data.toList rs k ∧ Below w.heap.size w wr) (fun _ iv _ => s.size - (intOf iv).toNat)
  case atStart => exact ⟨0, [], rfl, rfl, Nat.zero_le _, Nat.le_refl _, readTo_start _, Below.refl _ _⟩
  case round =>
    obtain ⟨k, rs, rfl, rfl, hk, hrk, hread, hbel⟩ := hrel
    have HR : Hid (ReadTo s.data.toList rs k) := hread
    have HB : Hid (Below w.heap.size w wr) := hbel
    have hsz := hbel.size
    clear hread hbel
    by_cases hlt : k < s.size
    · have hu := s[k].toNat_lt
      cases ha : okb s[k].toNat with
      | false =>
        have HV : Hid (_ ∧ _) := rowsV_none (readTo_none HR.out (rows_bad _ k (by rw [HL.out]; exact hlt) ha))
        go_wp2_with (go_at_call 66; refine (byte5_any _ (by omega) _).mono ?_; rw [ha]; rintro e wq ⟨rfl, hw⟩; rw [hw]; clear hw)
        go_ret2
        rw [HV.out.1, HV.out.2]
        exact ⟨rfl, HB.out⟩
      | true =>
        have HA : Hid (okb s[k].toNat = true) := ha
        by_cases hd : ∃ h2 : k + 2 < s.size, s[k + 1].toNat = 45
        · obtain ⟨h2, h45⟩ := hd
          have d1 : ((s[k + 1].toNat : Int) == 45) = true := by rw [h45]; rfl
          have hu2 := s[k + 2].toNat_lt
          have HD : Hid (s[k + 1].toNat = 45) := h45
          clear h45
          cases hrow : rowOk s[k].toNat s[k + 2].toNat with
          | false =>
            have HV : Hid (_ ∧ _) := rowsV_none (readTo_none HR.out (rows_norow _ k (by rw [HL.out]; exact h2) HD.out hrow))
            cases hc : okb s[k + 2].toNat with
            | false =>
              go_wp2_with (go_at_call 66; refine (byte5_any _ (by omega) _).mono ?_; (first | rw [ha] | rw [hc]); rintro e wq ⟨rfl, hw⟩; rw [hw]; clear hw)
              go_ret2
              rw [HV.out.1, HV.out.2]
              exact ⟨rfl, HB.out⟩
            | true =>
              by_cases hl : s[k + 2].toNat < s[k].toNat
              · go_wp2_with (go_at_call 66; refine (byte5_any _ (by omega) _).mono ?_; (first | rw [ha] | rw [hc]); rintro e wq ⟨rfl, hw⟩; rw [hw]; clear hw)
                go_ret2
                rw [HV.out.1, HV.out.2]
                exact ⟨rfl, HB.out⟩
              · have hl2 : s[k].toNat ≤ s[k + 2].toNat := by omega
                obtain ⟨hx, hy⟩ : 57 < s[k + 2].toNat ∧ s[k].toNat ≤ 57 := by
                  apply Classical.byContradiction
                  intro hn
                  rw [rowOk, hc, decide_eq_true hl2] at hrow
                  simp at hrow
                  omega
                have hne : (!(decide ((57 : Int) < (s[k + 2].toNat : Int)) == decide ((57 : Int) < (s[k].toNat : Int)))) = true := by
                  rw [decide_eq_true (by omega), decide_eq_false (by omega)]
                  rfl
                clear hrow hl
                go_wp2_with (go_at_call 66; refine (byte5_any _ (by omega) _).mono ?_; (first | rw [ha] | rw [hc]); rintro e wq ⟨rfl, hw⟩; rw [hw]; clear hw)
                go_ret2
                rw [HV.out.1, HV.out.2]
                exact ⟨rfl, HB.out⟩
          | true =>
            have HS : Hid (ReadTo s.data.toList (rs ++ [(s[k].toNat, s[k + 2].toNat)]) (k + 3)) := readTo_step HR.out (rows_row _ k (by rw [HL.out]; exact h2) ha HD.out hrow) (rowOk_good ha hrow)
            have HM : Hid (rb (rs ++ [(s[k].toNat, s[k + 2].toNat)]) = rb rs ++ [s[k], s[k + 2]]) := rb_app _ _ _
            obtain ⟨_, hc, hl, h57⟩ := rowOk_good ha hrow
            simp only at hc hl h57
            have hcv := fun W => run_two_string (P := Tryz.prog) W 73 9 5 s[k] s[k + 2] Tryz.underlying73 Tryz.underlying5 Tryz.underlying9
            have hadd := fun W => run_add_str (P := Tryz.prog) W (rb rs) [s[k], s[k + 2]] (by rw [rb_len]; simp; omega)
            have HB2 : Hid (∀ o, Below w.heap.size w (wr.alloc o)) := fun o => HB.out.alloc hsz o
            clear hrow
            by_cases hx : s[k].toNat ≤ 57
            · have hy : s[k + 2].toNat ≤ 57 := by omega
              have hne : (!(decide ((57 : Int) < (s[k + 2].toNat : Int)) == decide ((57 : Int) < (s[k].toNat : Int)))) = false := by
                rw [decide_eq_false (by omega), decide_eq_false (by omega)]
                rfl
              clear h57
              go_wp2_with (go_at_call 66; refine (byte5_any _ (by omega) _).mono ?_; (first | rw [ha] | rw [hc]); rintro e wq ⟨rfl, hw⟩; rw [hw]; clear hw)
              go_roundw
              case rel => exact ⟨k + 3, _, by rw [HM.out], by go_num, by omega, by simp; omega, HS.out, HB2.out _⟩
              case measure => simp [intOf]; omega
            · have hy : 57 < s[k + 2].toNat := by omega
              have hx2 : 57 < s[k].toNat := by omega
              have hne : (!(decide ((57 : Int) < (s[k + 2].toNat : Int)) == decide ((57 : Int) < (s[k].toNat : Int)))) = false := by
                rw [decide_eq_true (by omega), decide_eq_true (by omega)]
                rfl
              clear h57
              go_wp2_with (go_at_call 66; refine (byte5_any _ (by omega) _).mono ?_; (first | rw [ha] | rw [hc]); rintro e wq ⟨rfl, hw⟩; rw [hw]; clear hw)
              go_roundw
              case rel => exact ⟨k + 3, _, by rw [HM.out], by go_num, by omega, by simp; omega, HS.out, HB2.out _⟩
              case measure => simp [intOf]; omega
        · have hone : ∀ h2 : k + 2 < s.data.toList.length, s.data.toList[k + 1].toNat ≠ 45 := fun h2 h45 => hd ⟨by rw [HL.out] at h2; exact h2, h45⟩
          have HS : Hid (ReadTo s.data.toList (rs ++ [(s[k].toNat, s[k].toNat)]) (k + 1)) := readTo_step HR.out (rows_one _ k (by rw [HL.out]; exact hlt) ha hone) (rowOk_good ha (rowOk_self ha))
          have HM : Hid (rb (rs ++ [(s[k].toNat, s[k].toNat)]) = rb rs ++ [s[k], s[k]]) := rb_app _ _ _
          have hcv := fun W => run_two_string (P := Tryz.prog) W 73 9 5 s[k] s[k] Tryz.underlying73 Tryz.underlying5 Tryz.underlying9
          have hadd := fun W => run_add_str (P := Tryz.prog) W (rb rs) [s[k], s[k]] (by rw [rb_len]; simp; omega)
          have HB2 : Hid (∀ o, Below w.heap.size w (wr.alloc o)) := fun o => HB.out.alloc hsz o
          clear hone
          by_cases h2 : k + 2 < s.size
          · have d1 : ((s[k + 1].toNat : Int) == 45) = false := by
              have : s[k + 1].toNat ≠ 45 := fun h45 => hd ⟨h2, h45⟩
              simpa using (by omega : (s[k + 1].toNat : Int) ≠ 45)
            clear hd
            go_wp2_with (go_at_call 66; refine (byte5_any _ (by omega) _).mono ?_; rw [ha]; rintro e wq ⟨rfl, hw⟩; rw [hw]; clear hw)
            go_roundw
            case rel => exact ⟨k + 1, _, by rw [HM.out], by go_num, by omega, by simp; omega, HS.out, HB2.out _⟩
            case measure => simp [intOf]; omega
          · clear hd
            go_wp2_with (go_at_call 66; refine (byte5_any _ (by omega) _).mono ?_; rw [ha]; rintro e wq ⟨rfl, hw⟩; rw [hw]; clear hw)
            go_roundw
            case rel => exact ⟨k + 1, _, by rw [HM.out], by go_num, by omega, by simp; omega, HS.out, HB2.out _⟩
            case measure => simp [intOf]; omega
    · obtain rfl : k = s.size := by omega
      have HV : Hid (_ ∧ _) := rowsV_some (readTo_end HR.out (by rw [HL.out]; exact Nat.le_refl _))
      go_wp2_with (go_at_call 23; refine (in5_any _ _ _ _).mono ?_; rintro e wq ⟨rfl, hw⟩; rw [hw]; clear hw)
      go_ret2
      rw [HV.out.1, HV.out.2]
      exact ⟨rfl, HB.out⟩

theorem specSetOk_any (s : ByteArray) (w : World) (hs : s.size ≤ 1048576) :
    Calls Tryz.prog 51 #[.string s] w fun e w' => e = .returned (.bool (okL s.data.toList)) ∧ Below w.heap.size w w' := by
  have HR : Hid (∀ W, _) := fun W => rows_any s W hs
  generalize okL s.data.toList = b at *
  generalize rowsS s = l at *
  go_enter Tryz.func51, Tryz.ntmps51
  go_wp2_with (go_at_call 67; refine (HR.out _).mono ?_; rintro e w1 ⟨rfl, hb1⟩)
  go_ret
  exact ⟨rfl, hb1⟩

end Go.Proofs.YtofpoiccghpliaaGreatDoor

namespace Go.Proofs.YtofpoiccghpliaaGreatDoor
open Go.RowKit

/-- The signs that a text may have beside letters and figures. -/
def moreL : List Nat := [43, 45, 42, 94, 40, 41, 91, 93, 58, 44, 59, 46, 61, 60, 62]
def okM (k c : Nat) : Bool := okb c || (moreL.take k).any (· == c)
theorem okM_next (k c : Nat) (h : k < 15) : okM (k + 1) c = (okM k c || (moreL[k]'h == c)) := by
  rw [okM, okM, List.take_succ_eq_append_getElem (show k < moreL.length from h), List.any_append, Bool.or_assoc]
  simp
  rfl
def sign6 (c : Nat) : Bool := okM 15 c
def text6To (s : ByteArray) (k : Nat) : Bool := (s.data.toList.take k).all fun u => sign6 u.toNat
def text6 (s : ByteArray) : Bool := text6To s s.size && decide ((1 : Int) ≤ s.size ∧ (s.size : Int) ≤ 8)
theorem text6To_next (s : ByteArray) (k : Nat) (h : k < s.size) : text6To s (k + 1) = (text6To s k && sign6 s[k].toNat) := by
  rw [text6To, List.take_succ_eq_append_getElem (by simpa using h), List.all_append, ← text6To]
  simp
  rfl
theorem text6_no (s : ByteArray) (k : Nat) (h : k < s.size) (hc : sign6 s[k].toNat = false) : text6 s = false := by
  have : text6To s s.size = false := by
    rw [text6To, List.all_eq_false]
    refine ⟨s.data.toList[k]'(by simpa using h), ?_, ?_⟩
    · rw [List.take_of_length_le (by simp)]; exact List.getElem_mem _
    · show ¬ sign6 s[k].toNat = true
      rw [hc]; decide
  rw [text6, this]; rfl

set_option maxHeartbeats 3200000 in
set_option maxRecDepth 100000 in
theorem l06Text_any (s : ByteArray) (w : World) (hs : s.size ≤ 1048576) :
    Calls Tryz.prog 50 #[.string s] w fun e w' => e = .returned (.bool (text6 s)) ∧ ∃ q, w' = w.drewN q := by
  have HMo : Hid (∀ k (h : k < 15), ((⟨#[43, 45, 42, 94, 40, 41, 91, 93, 58, 44, 59, 46, 61, 60, 62]⟩ : ByteArray)[k]'h).toNat = moreL[k]'h) := fun k h => by
    have all : ∀ k : Fin 15, ((⟨#[43, 45, 42, 94, 40, 41, 91, 93, 58, 44, 59, 46, 61, 60, 62]⟩ : ByteArray)[k.1]'k.2).toNat = moreL[k.1]'k.2 := by decide
    exact all ⟨k, h⟩
  go_enter Tryz.func50, Tryz.ntmps50
  go_wp2
  go_loopw [4] (fun iv wr => ∃ i q : Nat, iv = .int .i64 i ∧ i ≤ s.size ∧ text6To s i = true ∧ wr = w.drewN q) (fun iv _ => s.size - (intOf iv).toNat)
  case atStart => exact ⟨0, 0, rfl, Nat.zero_le _, rfl, rfl⟩
  case round =>
    obtain ⟨i, q, rfl, hi, hto, hwr⟩ := hrel
    have HW : Hid (wr = w.drewN q) := hwr
    have HTo : Hid (text6To s i = true) := hto
    clear hwr hto
    by_cases hlt : i < s.size
    · have hu := s[i].toNat_lt
      have HNx : Hid (_ = _) := text6To_next s i hlt
      have HNo : Hid (sign6 s[i].toNat = false → text6 s = false) := fun h => text6_no s i hlt h
      have H0 : Hid (okM 0 s[i].toNat = okb s[i].toNat) := by simp [Hid, okM]
      have i4 : (i : Int) < (s.size : Int) := by omega
      have i5 : (0 : Int) ≤ (i : Int) := by omega
      go_wp2_with (go_at_call 66; refine (byte5_any _ (by omega) _).mono ?_; rintro e wq ⟨rfl, hw⟩; rw [hw]; clear hw)
      go_loopw [5, 6] (fun ov kv ww => ∃ k q' : Nat, ov = .bool (okM k s[i].toNat) ∧ kv = .int .i64 k ∧ k ≤ 15 ∧ ww = w.drewN q') (fun _ kv _ => 15 - (intOf kv).toNat)
      case atStart => exact ⟨0, q, by rw [H0.out], rfl, by omega, HW.out⟩
      case round =>
        obtain ⟨k, q', rfl, rfl, hk, hwr⟩ := hrel
        clear HW
        have HW : Hid (wr = w.drewN q') := hwr
        clear hwr
        by_cases hk15 : k < 15
        · have HM := HMo.out k hk15
          have HNk : Hid (_ = _) := okM_next k s[i].toNat hk15
          have k4 : (k : Int) < 15 := by omega
          have k5 : (0 : Int) ≤ (k : Int) := by omega
          cases hm : okM k s[i].toNat with
          | true =>
            go_wp2
            go_big_quiet (fail)
            go_wp2
            go_roundw
            case rel => exact ⟨k + 1, q' + nq, by rw [HNk.out, hm]; rfl, by go_num, by omega, by rw [HW.out, World.drewN_drewN]⟩
            case measure => simp [intOf]; omega
          | false =>
            have HB : Hid ((((moreL[k]'hk15 : Nat) : Int) == (s[i].toNat : Int)) = okM (k + 1) s[i].toNat) := by
              rw [Hid, HNk.out, hm, Bool.false_or, Bool.eq_iff_iff]
              simp only [beq_iff_eq]
              omega
            go_wp2
            go_big_quiet (fail)
            go_wp2
            go_roundw
            case rel => exact ⟨k + 1, q' + nq, by rw [← HB.out], by go_num, by omega, by rw [HW.out, World.drewN_drewN]⟩
            case measure => simp [intOf]; omega
        · obtain rfl : k = 15 := by omega
          cases hm : okM 15 s[i].toNat with
          | true =>
            go_wp2
            go_roundw
            case rel => exact ⟨i + 1, q', by go_num, by omega, by rw [HNx.out, HTo.out, sign6, hm]; rfl, HW.out⟩
            case measure => simp [intOf]; omega
          | false =>
            have HV : Hid (text6 s = false) := HNo.out hm
            go_wp2
            go_ret
            rw [HV.out]
            exact ⟨rfl, q', HW.out⟩
    · obtain rfl : i = s.size := by omega
      have HV : Hid (text6 s = decide ((1 : Int) ≤ s.size ∧ (s.size : Int) ≤ 8)) := by rw [Hid, text6, HTo.out]; rfl
      go_wp2_with (go_at_call 23; refine (in_any _ 1 8 _).mono ?_; rintro e wq ⟨rfl, hw⟩; rw [hw]; clear hw)
      go_ret
      rw [HV.out]
      exact ⟨congrArg (fun x => Ending.returned (Value.bool x)) (by simp), q, HW.out⟩

def knownB (ns : List NodeD) (known : List ByteArray) : Bool := (freeB ns).all (inB known) && exprB ns
theorem free_len (ns : List NodeD) : (freeB ns).length ≤ 1048576 := by
  unfold freeB
  split
  · rename_i h
    have h1 := freeF_len ns ns.length (Nat.le_refl _)
    rw [List.take_length] at h1
    have h2 : ns.length ≤ 20 := by
      unfold exprB inI at h
      simp at h
      omega
    have h3 : 2 ^ ns.length ≤ 2 ^ 20 := Nat.pow_le_pow_right (by decide) h2
    have h4 : (2 : Nat) ^ 20 = 1048576 := by decide
    omega
  · simp

set_option maxHeartbeats 1600000 in
theorem l06Known_any (v u : Value) (ns : List NodeD) (known : List ByteArray) (w : World) (hk : known.length ≤ 1048576) (hin : NIn ns) (h : NRow w v ns) (h' : SRow w u known) :
    Calls Tryz.prog 68 #[.agg #[v], u] w fun e w' => e = .returned (.bool (knownB ns known)) ∧ Below w.heap.size w w' := by
  have HR : Hid (NRow w v ns) := h
  have HK : Hid (SRow w u known) := h'
  obtain ⟨a, cap, rfl⟩ := h.slice
  obtain ⟨a', cap', rfl⟩ := h'.slice
  clear h h'
  have hfl := free_len ns
  have B0 : Hid (Below w.heap.size w (w.alloc (.cells #[.slice a ns.length cap] 107))) := (Below.refl _ _).alloc (Nat.le_refl _) _
  have E0 : Hid ((w.alloc (.cells #[.slice a ns.length cap] 107)).cell? ⟨w.heap.size, 0, none⟩ = some (.slice a ns.length cap)) := box_at _ _ _ 0 _ rfl
  go_enter Tryz.func68, Tryz.ntmps68
  go_wp2_with fail
  refine (specFreeOf_any _ ns _ hin (HR.out.below B0.out)).mono ?_
  rintro e w1 ⟨o, rfl, ho, hb1⟩
  have B1 : Hid (Below w.heap.size w w1) := B0.out.trans (hb1.mono B0.out.size)
  have hE1 := cell_keep E0.out hb1
  have HF : Hid (SRow w1 o (freeB ns)) := ho.row
  obtain ⟨af, cf, rfl⟩ := ho.row.slice
  clear ho hb1 B0 E0
  go_wp2
  go_loopw [6] (fun iv wr => ∃ k : Nat, iv = .int .i64 k ∧ k ≤ (freeB ns).length ∧ ((freeB ns).take k).all (inB known) = true ∧ wr = w1) (fun iv _ => (freeB ns).length - (intOf iv).toNat)
  case atStart => exact ⟨0, rfl, Nat.zero_le _, rfl, rfl⟩
  case round =>
    obtain ⟨k, rfl, hkl, hall, hwr⟩ := hrel
    rw [hwr]
    clear hwr
    have HAl : Hid (((freeB ns).take k).all (inB known) = true) := hall
    clear hall
    by_cases hlt : k < (freeB ns).length
    · obtain ⟨b, off, rfl, hc1⟩ := HF.out.at hlt
      have HIn : Hid (∀ W, Below w.heap.size w W → _) := fun W hb => specIn_any (.slice a' known.length cap') known (freeB ns)[k] W hk (HK.out.below hb)
      have HNx : Hid (((freeB ns).take (k + 1)).all (inB known) = inB known (freeB ns)[k]) := by
        rw [Hid, List.take_succ_eq_append_getElem hlt, List.all_append, HAl.out]
        simp
      cases hm : inB known (freeB ns)[k] with
      | true =>
        go_wp2_with (go_at_call 54; refine (HIn.out _ B1.out).mono ?_; rw [hm]; rintro e wq ⟨rfl, hw⟩; rw [hw]; clear hw)
        go_roundw
        case rel => exact ⟨k + 1, by go_num, by omega, by rw [HNx.out]; exact hm, (by first | rfl | trivial)⟩
        case measure => simp [intOf]; omega
      | false =>
        have HV : Hid (knownB ns known = false) := by
          have : (freeB ns).all (inB known) = false := by
            rw [List.all_eq_false]
            exact ⟨_, List.getElem_mem hlt, by rw [hm]; decide⟩
          rw [Hid, knownB, this]
          rfl
        go_wp2_with (go_at_call 54; refine (HIn.out _ B1.out).mono ?_; rw [hm]; rintro e wq ⟨rfl, hw⟩; rw [hw]; clear hw)
        go_ret
        rw [HV.out]
        exact ⟨rfl, B1.out⟩
    · obtain rfl : k = (freeB ns).length := by omega
      have HV : Hid (knownB ns known = exprB ns) := by
        have := HAl.out
        rw [List.take_length] at this
        rw [Hid, knownB, this]
        rfl
      go_wp2_with fail
      refine (specExprOk_any _ ns _ hin (HR.out.below B1.out)).mono ?_
      rintro e w2 ⟨rfl, hb2⟩
      have B2 : Hid (Below w.heap.size w w2) := B1.out.trans (hb2.mono B1.out.size)
      clear hb2
      go_wp2
      go_ret
      rw [HV.out]
      exact ⟨rfl, B2.out⟩

def argsB (ags : List (List NodeD)) (known : List ByteArray) : Bool := ags.all fun ns => knownB ns known
set_option maxHeartbeats 1600000 in
theorem l06Args_any (v u : Value) (ags : List (List NodeD)) (known : List ByteArray) (w : World) (hk : known.length ≤ 1048576) (hn : ags.length ≤ 1048576) (hin : ∀ ns ∈ ags, NIn ns) (h : RowC 1 ExprE w v ags) (h' : SRow w u known) :
    Calls Tryz.prog 52 #[v, u] w fun e w' => e = .returned (.bool (argsB ags known)) ∧ Below w.heap.size w w' := by
  have HR : Hid (RowC 1 ExprE w v ags) := h
  have HK : Hid (SRow w u known) := h'
  have HIn : Hid (∀ ns ∈ ags, NIn ns) := hin
  obtain ⟨a, cap, rfl⟩ := h.slice
  obtain ⟨a', cap', rfl⟩ := h'.slice
  clear h h' hin
  go_enter Tryz.func52, Tryz.ntmps52
  go_wp2
  go_loopw [5] (fun iv wr => ∃ k : Nat, iv = .int .i64 k ∧ k ≤ ags.length ∧ (ags.take k).all (fun ns => knownB ns known) = true ∧ Below w.heap.size w wr) (fun iv _ => ags.length - (intOf iv).toNat)
  case atStart => exact ⟨0, rfl, Nat.zero_le _, rfl, Below.refl _ _⟩
  case round =>
    obtain ⟨k, rfl, hkl, hall, hb⟩ := hrel
    have HAl : Hid ((ags.take k).all (fun ns => knownB ns known) = true) := hall
    have HB : Hid (Below w.heap.size w wr) := hb
    have HRr : Hid (RowC 1 ExprE wr (.slice a ags.length cap) ags) := RowC.below ExprE_stable HR.out hb
    clear hall hb
    by_cases hlt : k < ags.length
    · obtain ⟨b, off, vs, rfl, _, hc, hE⟩ := HRr.out.at hlt
      obtain ⟨r0, rfl, hh⟩ := hE
      have n0 : wr.cell? ⟨b, off + k, none⟩ = some r0 := by have h := hc 0 (by simp); rw [Nat.mul_one] at h; exact h
      have HC : Hid (∀ W, Below wr.heap.size wr W → _) := fun W hb => l06Known_any r0 (.slice a' known.length cap') ags[k] known W hk (HIn.out _ (List.getElem_mem hlt)) (hh.below hb) (HK.out.below (HB.out.trans (hb.mono HB.out.size)))
      have HNx : Hid ((ags.take (k + 1)).all (fun ns => knownB ns known) = knownB ags[k] known) := by
        rw [Hid, List.take_succ_eq_append_getElem hlt, List.all_append, HAl.out]
        simp
      obtain ⟨aa0, ca0, rfl⟩ := hh.slice
      clear hc hh
      go_wp2_with fail
      refine (HC.out _ (Below.refl _ _)).mono ?_
      rintro e w1 ⟨rfl, hb1⟩
      have B1 : Hid (Below w.heap.size w w1) := HB.out.trans (hb1.mono HB.out.size)
      clear hb1
      cases hm : knownB ags[k] known with
      | true =>
        go_wp2
        go_roundw
        case rel => exact ⟨k + 1, by go_num, by omega, by rw [HNx.out]; exact hm, B1.out⟩
        case measure => simp [intOf]; omega
      | false =>
        have HV : Hid (argsB ags known = false) := by
          rw [Hid, argsB, List.all_eq_false]
          exact ⟨_, List.getElem_mem hlt, by rw [hm]; decide⟩
        go_wp2
        go_ret
        rw [HV.out]
        exact ⟨rfl, B1.out⟩
    · obtain rfl : k = ags.length := by omega
      have HV : Hid (argsB ags known = true) := by
        have := HAl.out
        rw [List.take_length] at this
        exact this
      go_wp2
      go_ret
      rw [HV.out]
      exact ⟨rfl, HB.out⟩

end Go.Proofs.YtofpoiccghpliaaGreatDoor
