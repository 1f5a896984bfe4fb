/- The program's VarName, namesAscend, EnvOk and EnvGet. -/
import Derived.Test.YtneobgikailhjaaEnvAsc
namespace Go.Proofs.Ytneobgikailhjaa
open Go.RowKit

set_option maxHeartbeats 800000 in
theorem implVarName_any (s : ByteArray) (w : World) :
    Calls Try.prog 21 #[.string s] w fun e w' => e = .returned (.bool (nameB s)) ∧ w' = w := by
  by_cases h0 : s.size < 1
  · have HN : Hid (nameB s = false) := by simp only [Hid, nameB, Bool.and_eq_false_iff, decide_eq_false_iff_not]; exact .inr (by omega)
    have i0 : (s.size : Int) < 1 := by omega
    go_enter Try.func21, Try.ntmps21
    go_wp2
    go_ret
    rw [HN.out]
    exact ⟨rfl, rfl⟩
  · by_cases h4 : 4 < s.size
    · have HN : Hid (nameB s = false) := by simp only [Hid, nameB, Bool.and_eq_false_iff, decide_eq_false_iff_not]; exact .inr (by omega)
      have i0 : ¬ (s.size : Int) < 1 := by omega
      have i4 : (4 : Int) < (s.size : Int) := by omega
      go_enter Try.func21, Try.ntmps21
      go_wp2
      go_ret
      rw [HN.out]
      exact ⟨rfl, rfl⟩
    · have i0 : ¬ (s.size : Int) < 1 := by omega
      have i4 : ¬ (4 : Int) < (s.size : Int) := by omega
      go_enter Try.func21, Try.ntmps21
      go_wp2
      go_loop [14] (fun iv => ∃ k : Nat, iv = .int .i64 k ∧ k ≤ s.size ∧ ∀ j (hj : j < s.size), j < k → letB s[j] = true) (fun iv => s.size - (intOf iv).toNat)
      case atStart => exact ⟨0, rfl, Nat.zero_le _, fun _ _ h => by omega⟩
      case round =>
        obtain ⟨k, rfl, hk, hj⟩ := hrel
        have HJ : Hid (∀ j (hj : j < s.size), j < k → letB s[j] = true) := hj
        clear hj
        by_cases hlt : k < s.size
        · have hb := s[k].toNat_lt
          by_cases h1 : s[k].toNat < 97
          · have HN : Hid (nameB s = false) := nameB_no hlt (by simp [letB]; omega)
            go_wp2
            go_ret
            rw [HN.out]
            exact ⟨rfl, rfl⟩
          · by_cases h2 : 122 < s[k].toNat
            · have HN : Hid (nameB s = false) := nameB_no hlt (by simp [letB]; omega)
              go_wp2
              go_ret
              rw [HN.out]
              exact ⟨rfl, rfl⟩
            · go_wp2
              go_round
              case rel =>
                refine ⟨k + 1, by go_num, by omega, fun j hj hjk => ?_⟩
                by_cases e : j = k
                · subst e; simp [letB]; omega
                · exact HJ.out j hj (by omega)
              case measure => simp [intOf]; omega
        · have HN : Hid (nameB s = true) := by
            rw [Hid, nameB_all (s := s) (fun j hj => HJ.out j hj (by omega)), decide_eq_true_eq]
            omega
          go_wp2
          go_ret
          rw [HN.out]
          exact ⟨rfl, rfl⟩
theorem implVarName_is (s : ByteArray) (b : Bool) (h : nameB s = b) (w : World) :
    Calls Try.prog 21 #[.string s] w fun e w' => e = .returned (.bool b) ∧ w' = w := by
  rw [← h]; exact implVarName_any s w

set_option maxHeartbeats 1600000 in
theorem implAscend_any (v : Value) (xs : List VarD) (w : World) (hn : xs.length ≤ 2097153) (h : VRow w v xs) :
    Calls Try.prog 34 #[v] w fun e w' => e = .returned (.bool (ascB xs)) ∧ ∃ q, w' = w.drewN q := by
  have HR : Hid (VRow w v xs) := h
  obtain ⟨a, cap, rfl⟩ := h.slice
  clear h
  go_enter Try.func34, Try.ntmps34
  go_wp2
  go_loopw [3] (fun iv wr => ∃ k q : Nat, iv = .int .i64 k ∧ 0 < k ∧ (k ≤ xs.length ∨ k = 1) ∧ ascB (xs.take k) = true ∧ wr = w.drewN q) (fun iv _ => xs.length - (intOf iv).toNat)
  case atStart => exact ⟨1, 0, rfl, by omega, .inr rfl, ascB_one (by rw [List.length_take]; omega), rfl⟩
  case round =>
    obtain ⟨k, q, rfl, hk0, hk, hch, hwr⟩ := hrel
    have HW : Hid (wr = w.drewN q) := hwr
    have HC : Hid (ascB (xs.take k) = true) := hch
    have HRr : Hid (VRow wr (.slice a xs.length cap) xs) := by rw [HW.out]; exact HR.out.below (bel_drewN (Below.refl _ _) q)
    clear hwr hch
    by_cases hlt : k < xs.length
    · obtain ⟨b, off, rfl, hc1, hc2⟩ := HRr.out.at hlt
      obtain ⟨b', off', e, hc3, hc4⟩ := HRr.out.at (k := k - 1) (by omega)
      cases e
      have i4 : (k : Int) < (xs.length : Int) := by omega
      have i1 : IntKind.i64.wrap ((k : Int) - 1) = ((k - 1 : Nat) : Int) := by rw [IntKind.wrap_i64]; omega
      have i2 : (0 : Int) ≤ ((k - 1 : Nat) : Int) := by omega
      have i3 : ((k - 1 : Nat) : Int) < (xs.length : Int) := by omega
      cases hls : Op.bytesLess xs[k - 1].1.toList xs[k].1.toList with
      | true =>
        go_wp2
        go_big_quiet (fail)
        go_wp2
        go_roundw
        case rel => exact ⟨k + 1, q + nq, by go_num, by omega, .inl (by omega), by rw [ascB_next xs k hk0 hlt, HC.out, hls]; rfl, by rw [HW.out, World.drewN_drewN]⟩
        case measure => simp [intOf]; omega
      | false =>
        go_wp2
        go_big_quiet (fail)
        go_wp2
        go_ret
        rw [ascB_no hk0 hlt hls]
        exact ⟨rfl, q + nq, by rw [HW.out, World.drewN_drewN]⟩
    · have HN : Hid (ascB xs = true) := by have := HC.out; rwa [List.take_of_length_le (by omega)] at this
      have i4 : ¬ (k : Int) < (xs.length : Int) := by omega
      go_wp2
      go_ret
      rw [HN.out]
      exact ⟨rfl, q, HW.out⟩
theorem implAscend_is (v : Value) (xs : List VarD) (b : Bool) (hb : ascB xs = b) (w : World) (hn : xs.length ≤ 2097153) (h : VRow w v xs) :
    Calls Try.prog 34 #[v] w fun e w' => e = .returned (.bool b) ∧ ∃ q, w' = w.drewN q := by
  rw [← hb]; exact implAscend_any v xs w hn h

theorem envB_long {xs : List VarD} (h : 6 < xs.length) : envB xs = false := by
  rw [envB_parts, decide_eq_false (by omega)]; rfl
theorem envB_asc {xs : List VarD} (h : ascB xs = false) : envB xs = false := by
  rw [envB_parts, h]; simp
theorem envB_one {xs : List VarD} {k : Nat} (hk : k < xs.length) (h : oneOk xs[k] = false) : envB xs = false := by
  have : xs.all oneOk = false := by
    cases hh : xs.all oneOk with
    | false => rfl
    | true => rw [List.all_eq_true.1 hh _ (List.getElem_mem hk)] at h; cases h
  rw [envB_parts, this]; simp

set_option maxHeartbeats 1600000 in
theorem implEnvOk_any (v : Value) (xs : List VarD) (w : World) (hn : xs.length ≤ 2097153) (h : VRow w v xs) :
    Calls Try.prog 13 #[v] w fun e w' => e = .returned (.bool (envB xs)) ∧ Below w.heap.size w w' := by
  have HR : Hid (VRow w v xs) := h
  obtain ⟨a, cap, rfl⟩ := h.slice
  clear h
  by_cases h6 : 6 < xs.length
  · have HN : Hid (envB xs = false) := envB_long h6
    have i6 : (6 : Int) < (xs.length : Int) := by omega
    go_enter Try.func13, Try.ntmps13
    go_wp2
    go_ret
    rw [HN.out]
    exact ⟨rfl, Below.refl _ _⟩
  · have i6 : ¬ (6 : Int) < (xs.length : Int) := by omega
    cases has : ascB xs with
    | false =>
      have HN : Hid (envB xs = false) := envB_asc has
      have HA : Hid (∀ W, VRow W (.slice a xs.length cap) xs → _) := fun W => implAscend_is (.slice a xs.length cap) xs false has W hn
      clear has
      go_enter Try.func13, Try.ntmps13
      go_wp2_with fail
      refine (HA.out _ HR.out).mono ?_
      rintro e w1 ⟨rfl, q, hq⟩
      have HB : Hid (Below w.heap.size w w1) := by rw [hq]; exact bel_drewN (Below.refl _ _) q
      clear hq
      go_wp2
      go_ret
      rw [HN.out]
      exact ⟨rfl, HB.out⟩
    | true =>
      have HE : Hid (envB xs = xs.all oneOk) := by rw [Hid, envB_parts, has, decide_eq_true (by omega)]; rfl
      have HA : Hid (∀ W, VRow W (.slice a xs.length cap) xs → _) := fun W => implAscend_is (.slice a xs.length cap) xs true has W hn
      clear has
      go_enter Try.func13, Try.ntmps13
      go_wp2_with fail
      refine (HA.out _ HR.out).mono ?_
      rintro e w1 ⟨rfl, q, hq⟩
      have HB1 : Hid (Below w.heap.size w w1) := by rw [hq]; exact bel_drewN (Below.refl _ _) q
      clear hq HA
      go_wp2
      go_loopw [15] (fun iv wr => ∃ k : Nat, iv = .int .i64 k ∧ k ≤ xs.length ∧ (xs.take k).all oneOk = true ∧ Below w.heap.size w wr) (fun iv _ => xs.length - (intOf iv).toNat)
      case atStart => exact ⟨0, rfl, Nat.zero_le _, rfl, HB1.out⟩
      case round =>
        obtain ⟨k, rfl, hk, hall, hb⟩ := hrel
        have HB : Hid (Below w.heap.size w wr) := hb
        have HL : Hid ((xs.take k).all oneOk = true) := hall
        have HRr : Hid (VRow wr (.slice a xs.length cap) xs) := HR.out.below hb
        clear hb hall
        by_cases hlt : k < xs.length
        · obtain ⟨b, off, rfl, hc1, hc2⟩ := HRr.out.at hlt
          have i4 : (k : Int) < (xs.length : Int) := by omega
          by_cases hnm : nameB xs[k].1 = true
          · have H1 : Hid (∀ W, _) := implVarName_is xs[k].1 true hnm
            by_cases hr1 : xs[k].2 < -9999
            · have HN : Hid (envB xs = false) := envB_one hlt (by rw [oneOk, decide_eq_false (by omega), Bool.and_false])
              clear hnm
              go_wp2_with fail
              refine (H1.out _).mono ?_
              rintro e wq ⟨rfl, hw⟩
              rw [hw]
              clear hw wq
              go_wp2
              go_ret
              rw [HN.out]
              exact ⟨rfl, HB.out.alloc HB.out.size _⟩
            · by_cases hr2 : 9999 < xs[k].2
              · have HN : Hid (envB xs = false) := envB_one hlt (by rw [oneOk, decide_eq_false (by omega), Bool.and_false])
                clear hnm
                go_wp2_with fail
                refine (H1.out _).mono ?_
                rintro e wq ⟨rfl, hw⟩
                rw [hw]
                clear hw wq
                go_wp2
                go_ret
                rw [HN.out]
                exact ⟨rfl, HB.out.alloc HB.out.size _⟩
              · have HN : Hid ((xs.take (k + 1)).all oneOk = true) := by
                  rw [Hid, List.take_succ_eq_append_getElem hlt, List.all_append, HL.out, List.all_cons, oneOk, hnm, decide_eq_true (by omega)]
                  rfl
                clear hnm
                go_wp2_with fail
                refine (H1.out _).mono ?_
                rintro e wq ⟨rfl, hw⟩
                rw [hw]
                clear hw wq
                go_wp2
                go_roundw
                case rel => exact ⟨k + 1, by go_num, by omega, HN.out, HB.out.alloc HB.out.size _⟩
                case measure => simp [intOf]; omega
          · have hnm' : nameB xs[k].1 = false := by simpa using hnm
            have H1 : Hid (∀ W, _) := implVarName_is xs[k].1 false hnm'
            have HN : Hid (envB xs = false) := envB_one hlt (by rw [oneOk, hnm', Bool.false_and])
            clear hnm hnm'
            go_wp2_with fail
            refine (H1.out _).mono ?_
            rintro e wq ⟨rfl, hw⟩
            rw [hw]
            clear hw wq
            go_wp2
            go_ret
            rw [HN.out]
            exact ⟨rfl, HB.out.alloc HB.out.size _⟩
        · obtain rfl : k = xs.length := by omega
          have HN : Hid (envB xs = true) := by have := HL.out; rw [List.take_of_length_le (Nat.le_refl _)] at this; rw [Hid, HE.out, this]
          go_wp2
          go_ret
          rw [HN.out]
          exact ⟨rfl, HB.out⟩
theorem implEnvOk_is (v : Value) (xs : List VarD) (b : Bool) (hb : envB xs = b) (w : World) (hn : xs.length ≤ 2097153) (h : VRow w v xs) :
    Calls Try.prog 13 #[v] w fun e w' => e = .returned (.bool b) ∧ Below w.heap.size w w' := by
  rw [← hb]; exact implEnvOk_any v xs w hn h

set_option maxHeartbeats 800000 in
theorem implEnvGet_any (v : Value) (xs : List VarD) (name : ByteArray) (w : World) (hn : xs.length ≤ 2097153) (h : VRow w v xs) :
    Calls Try.prog 12 #[v, .string name] w fun e w' => e = .returned (getVal xs name) ∧ Below w.heap.size w w' := by
  have HR : Hid (VRow w v xs) := h
  obtain ⟨a, cap, rfl⟩ := h.slice
  clear h
  go_enter Try.func12, Try.ntmps12
  go_wp2
  go_loopw [10] (fun iv wr => ∃ k : Nat, iv = .int .i64 k ∧ k ≤ xs.length ∧ (∀ j (hj : j < xs.length), j < k → xs[j].1 ≠ name) ∧ Below w.heap.size w wr) (fun iv _ => xs.length - (intOf iv).toNat)
  case atStart => exact ⟨0, rfl, Nat.zero_le _, fun _ _ h => by omega, Below.refl _ _⟩
  case round =>
    obtain ⟨k, rfl, hk, hj, hb⟩ := hrel
    have HJ : Hid (∀ j (hj : j < xs.length), j < k → xs[j].1 ≠ name) := hj
    have HB : Hid (Below w.heap.size w wr) := hb
    have HRr : Hid (VRow wr (.slice a xs.length cap) xs) := HR.out.below hb
    clear hj hb
    by_cases hlt : k < xs.length
    · obtain ⟨b, off, rfl, hc1, hc2⟩ := HRr.out.at hlt
      by_cases hnm : xs[k].1 = name
      · have ht : (xs[k].1.toList == name.toList) = true := by rw [bytes_beq]; simpa using hnm
        have HV : Hid (getVal xs name = .tuple #[.int .i64 xs[k].2, .bool true]) := by simp only [Hid, getVal, getB_at hlt HJ.out hnm]
        clear hnm
        go_wp2
        go_ret2
        exact ⟨congrArg _ HV.out.symm, HB.out.alloc HB.out.size _⟩
      · have ht : (xs[k].1.toList == name.toList) = false := by rw [bytes_beq]; simpa using hnm
        have HNm : Hid (¬ xs[k].1 = name) := hnm
        clear hnm
        go_wp2
        go_roundw
        case rel =>
          refine ⟨k + 1, by go_num, by omega, fun j hj hjk => ?_, HB.out.alloc HB.out.size _⟩
          by_cases e : j = k
          · subst e; exact HNm.out
          · exact HJ.out j hj (by omega)
        case measure => simp [intOf]; omega
    · have HV : Hid (getVal xs name = .tuple #[.int .i64 0, .bool false]) := by
        have : getB xs name = none := getB_none.2 (fun x hx => by
          obtain ⟨j, hj, rfl⟩ := List.getElem_of_mem hx
          exact HJ.out j hj (by omega))
        simp only [Hid, getVal, this]
      go_wp2
      go_ret2
      exact ⟨congrArg _ HV.out.symm, HB.out⟩

end Go.Proofs.Ytneobgikailhjaa
