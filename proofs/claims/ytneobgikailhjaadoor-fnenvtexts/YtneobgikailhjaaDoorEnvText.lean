/- EnvText of the specification. -/
import Derived.Test.YtneobgikailhjaaDoorVKit
import Derived.Test.YtneobgikailhjaaDoorDec
import Derived.Lib.ItoaLen
namespace Go.Proofs.YtneobgikailhjaaDoor
open Go.RowKit

/-- A number as EnvText tells it; of the least one the sign comes twice. -/
def numB (n : Int) : ByteArray := if n < 0 then ⟨#[45]⟩ ++ str (Lib.itoa (if n = -9223372036854775808 then n else -n)) else str (Lib.itoa n)
/-- The text as the loop makes it, from the front. -/
def sepB (k : Nat) (t : ByteArray) : ByteArray := if 0 < k then t ++ ⟨#[44]⟩ else t
def textF (xs : List VarD) : Nat → ByteArray
  | 0 => ⟨#[]⟩
  | k + 1 => match xs[k]? with
    | none => textF xs k
    | some x => sepB k (textF xs k) ++ x.1 ++ ⟨#[61]⟩ ++ numB x.2
def textB (xs : List VarD) : ByteArray := textF xs xs.length
theorem textF_next (xs : List VarD) (k : Nat) (h : k < xs.length) : textF xs (k + 1) = sepB k (textF xs k) ++ xs[k].1 ++ ⟨#[61]⟩ ++ numB xs[k].2 := by
  rw [textF, List.getElem?_eq_getElem h]

theorem numB_size (n : Int) (h0 : -9223372036854775808 ≤ n) (h1 : n ≤ 9223372036854775807) : (numB n).size ≤ 22 := by
  unfold numB
  split
  · have h2 : (Lib.itoa (if n = -9223372036854775808 then n else -n)).length ≤ 21 := by
      split
      · exact Lib.itoa_length_le _ h0 h1
      · exact Lib.itoa_length_le _ (by omega) (by omega)
    rw [ByteArray.size_append, str_size]
    show 1 + _ ≤ 22
    omega
  · rw [str_size]
    have := Lib.itoa_length_le n h0 h1
    omega

theorem specNum_any (n : Int) (w : World) (h0 : -9223372036854775808 ≤ n) (h1 : n ≤ 9223372036854775807) :
    Calls Tryd.prog 17 #[.int .i64 n] w fun e w' => e = .returned (.string (numB n)) ∧ Below w.heap.size w w' := by
  by_cases hn : n < 0
  · obtain ⟨m, hm, hm0, hm1, HE⟩ : ∃ m : Int, IntKind.i64.wrap (-n) = m ∧ -9223372036854775808 ≤ m ∧ m ≤ 9223372036854775807 ∧ Hid (numB n = ⟨#[45]⟩ ++ str (Lib.itoa m)) := by
      by_cases hm : n = -9223372036854775808
      · subst hm
        exact ⟨-9223372036854775808, by decide, by omega, by omega, by rw [Hid, numB, if_pos hn, if_pos rfl]⟩
      · exact ⟨-n, by rw [IntKind.wrap_i64]; omega, by omega, by omega, by rw [Hid, numB, if_pos hn, if_neg hm]⟩
    have HD : Hid (∀ W, _) := fun W => specDec_any m W hm0 hm1
    have hz : (str (Lib.itoa m)).size ≤ 1000 := by rw [str_size]; have := Lib.itoa_length_le m hm0 hm1; omega
    have hadd := fun W => run_string_add_sum (P := Tryd.prog) (w := W) ⟨#[45]⟩ (str (Lib.itoa m)) (by show 1 + _ ≤ _; omega)
    clear hz hm0 hm1
    generalize str (Lib.itoa m) = T at *
    go_enter Tryd.func17, Tryd.ntmps17
    go_wp2_with fail
    refine (HD.out _).mono ?_
    rintro e w1 ⟨rfl, hb⟩
    go_wp2
    go_ret
    rw [HE.out]
    exact ⟨rfl, hb⟩
  · have HE : Hid (numB n = str (Lib.itoa n)) := by rw [Hid, numB, if_neg hn]
    have HD : Hid (∀ W, _) := fun W => specDec_any n W h0 h1
    generalize str (Lib.itoa n) = T at *
    go_enter Tryd.func17, Tryd.ntmps17
    go_wp2_with fail
    refine (HD.out _).mono ?_
    rintro e w1 ⟨rfl, hb⟩
    go_wp2
    go_ret
    rw [HE.out]
    exact ⟨rfl, hb⟩

theorem totS_take (xs : List VarD) : ∀ k, totS (xs.take k) ≤ totS xs := by
  intro k
  conv => rhs; rw [← List.take_append_drop k xs]
  simp only [totS, List.map_append, List.sum_append]
  omega

theorem textF_size (xs : List VarD) (hb : ∀ x ∈ xs, -9223372036854775808 ≤ x.2 ∧ x.2 ≤ 9223372036854775807) : ∀ k, k ≤ xs.length → (textF xs k).size ≤ totS (xs.take k) + 24 * k
  | 0, _ => Nat.zero_le _
  | k + 1, h => by
    have ih := textF_size xs hb k (by omega)
    have hx := hb xs[k] (List.getElem_mem _)
    have hn := numB_size xs[k].2 hx.1 hx.2
    rw [textF_next xs k (by omega), totS_next xs k (by omega)]
    have hs : (sepB k (textF xs k)).size ≤ (textF xs k).size + 1 := by
      unfold sepB
      split
      · rw [ByteArray.size_append]; exact Nat.le_refl _
      · omega
    simp only [ByteArray.size_append]
    have h1 : (⟨#[61]⟩ : ByteArray).size = 1 := rfl
    omega

set_option maxHeartbeats 1600000 in
theorem specEnvText_any (v : Value) (xs : List VarD) (w : World) (hn : xs.length ≤ 1048576) (ht : totS xs ≤ 1048576) (hb : ∀ x ∈ xs, -9223372036854775808 ≤ x.2 ∧ x.2 ≤ 9223372036854775807) (h : VRow w v xs) :
    Calls Tryd.prog 9 #[v] w fun e w' => e = .returned (.string (textB xs)) ∧ Below w.heap.size w w' := by
  have HR : Hid (VRow w v xs) := h
  have HN : Hid (∀ x ∈ xs, -9223372036854775808 ≤ x.2 ∧ x.2 ≤ 9223372036854775807) := hb
  have HT : Hid (∀ k, k ≤ xs.length → (textF xs k).size ≤ 1048576 + 24 * k) := fun k hk => by
    have h1 := textF_size xs hb k hk
    have h2 : totS (xs.take k) ≤ totS xs := totS_take xs k
    omega
  obtain ⟨a, cap, rfl⟩ := h.slice
  clear h hb ht
  go_enter Tryd.func9, Tryd.ntmps9
  go_wp2
  go_loopw [3, 4] (fun tv iv wr => ∃ k : Nat, tv = .string (textF xs k) ∧ iv = .int .i64 k ∧ k ≤ xs.length ∧ Below w.heap.size w wr) (fun _ iv _ => xs.length - (intOf iv).toNat)
  case atStart => exact ⟨0, rfl, rfl, Nat.zero_le _, Below.refl _ _⟩
  case round =>
    obtain ⟨k, rfl, rfl, hk, hbw⟩ := hrel
    have HB : Hid (Below w.heap.size w wr) := hbw
    have HRr : Hid (VRow wr (.slice a xs.length cap) xs) := HR.out.below hbw
    clear hbw
    by_cases hlt : k < xs.length
    · obtain ⟨b, off, rfl, hc1, hc2⟩ := HRr.out.at hlt
      have hsz := HT.out k (by omega)
      have hsz2 := HT.out (k + 1) (by omega)
      have HX : Hid (_ = _) := textF_next xs k hlt
      rw [HX.out] at hsz2
      have hx := HN.out xs[k] (List.getElem_mem _)
      have HM : Hid (∀ W, _) := fun W => specNum_any xs[k].2 W hx.1 hx.2
      have i4 : (k : Int) < (xs.length : Int) := by omega
      simp only [ByteArray.size_append] at hsz2
      have h61 : (⟨#[61]⟩ : ByteArray).size = 1 := rfl
      have a1 := fun W => run_string_add_sum (P := Tryd.prog) (w := W) (sepB k (textF xs k)) xs[k].1 (by omega)
      have a2 := fun W => run_string_add_sum (P := Tryd.prog) (w := W) (sepB k (textF xs k) ++ xs[k].1) ⟨#[61]⟩ (by rw [ByteArray.size_append]; omega)
      have a3 := fun W => run_string_add_sum (P := Tryd.prog) (w := W) (sepB k (textF xs k) ++ xs[k].1 ++ ⟨#[61]⟩) (numB xs[k].2) (by rw [ByteArray.size_append, ByteArray.size_append]; omega)
      clear hsz2 h61 hx
      generalize hA3 : sepB k (textF xs k) ++ xs[k].1 ++ ⟨#[61]⟩ ++ numB xs[k].2 = A3 at *
      generalize sepB k (textF xs k) ++ xs[k].1 ++ ⟨#[61]⟩ = A2 at *
      generalize sepB k (textF xs k) ++ xs[k].1 = A1 at *
      generalize numB xs[k].2 = M at *
      by_cases hk0 : 0 < k
      · have i5 : (0 : Int) < (k : Int) := by omega
        have a0 := fun W => run_string_add_sum (P := Tryd.prog) (w := W) (textF xs k) ⟨#[44]⟩ (by show _ + 1 ≤ _; omega)
        have hs : textF xs k ++ ⟨#[44]⟩ = sepB k (textF xs k) := by rw [sepB, if_pos hk0]
        rw [hs] at a0
        clear hs hA3
        generalize sepB k (textF xs k) = A0 at *
        go_wp2
        go_region_held3 (fun W => W.cell? ⟨b, off + k * 2, none⟩ = some (.string xs[k].1) ∧ W.cell? ⟨b, off + k * 2 + 1, none⟩ = some (.int .i64 xs[k].2)) ((first | go_keep | exact ⟨cell_keep (W := wr.drew) hc1 hb2, cell_keep (W := wr.drew) hc2 hb2⟩))
          ((first | (go_at_call 17; refine (HM.out _).mono ?_; rintro e w2 ⟨rfl, hb2⟩)))
        have HB2 : Hid (Below w.heap.size w w2) := HB.out.trans ((bel_of_drew hb2).mono HB.out.size)
        clear hb2
        go_wp2
        go_roundw
        case rel => exact ⟨k + 1, by rw [HX.out], by go_num, by omega, HB2.out⟩
        case measure => simp [intOf]; omega
      · have i5 : ¬ (0 : Int) < (k : Int) := by omega
        have hs : textF xs k = sepB k (textF xs k) := by rw [sepB, if_neg hk0]
        rw [← hs] at a1
        clear hs hA3
        generalize textF xs k = A0 at *
        go_wp2
        go_region_held3 (fun W => W.cell? ⟨b, off + k * 2, none⟩ = some (.string xs[k].1) ∧ W.cell? ⟨b, off + k * 2 + 1, none⟩ = some (.int .i64 xs[k].2)) ((first | go_keep | exact ⟨cell_keep (W := wr.drew) hc1 hb2, cell_keep (W := wr.drew) hc2 hb2⟩))
          ((first | (go_at_call 17; refine (HM.out _).mono ?_; rintro e w2 ⟨rfl, hb2⟩)))
        have HB2 : Hid (Below w.heap.size w w2) := HB.out.trans ((bel_of_drew hb2).mono HB.out.size)
        clear hb2
        go_wp2
        go_roundw
        case rel => exact ⟨k + 1, by rw [HX.out], by go_num, by omega, HB2.out⟩
        case measure => simp [intOf]; omega
    · obtain rfl : k = xs.length := by omega
      have HE : Hid (textF xs xs.length = textB xs) := rfl
      go_wp2
      go_ret
      rw [← HE.out]
      exact ⟨rfl, HB.out⟩

end Go.Proofs.YtneobgikailhjaaDoor
