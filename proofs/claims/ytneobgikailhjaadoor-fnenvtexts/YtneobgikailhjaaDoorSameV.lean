/- The laws' own helpers on lists of names: are two the same, is a name among these? -/
import Derived.Test.YtneobgikailhjaaDoorEnvOnly
namespace Go.Proofs.YtneobgikailhjaaDoor
open Go.RowKit



set_option maxHeartbeats 1600000 in
set_option maxRecDepth 100000 in
theorem sameVars_any (u v : Value) (xs ys : List VarD) (w : World) (hx : xs.length ≤ 2097153) (h : VRow w u xs) (h' : VRow w v ys) :
    Calls Tryd.prog 10 #[u, v] w fun e w' => e = .returned (.bool (decide (xs = ys))) ∧ ∃ q, w' = w.drewN q := by
  have HX : Hid (VRow w u xs) := h
  have HY : Hid (VRow w v ys) := h'
  obtain ⟨a, cap, rfl⟩ := h.slice
  obtain ⟨a', cap', rfl⟩ := h'.slice
  clear h h'
  by_cases hl : xs.length = ys.length
  · have HL : Hid (xs.length = ys.length) := hl
    rw [← hl] at HY ⊢
    clear hl
    go_enter Tryd.func10, Tryd.ntmps10
    go_wp2
    go_loopw [5] (fun iv wr => ∃ k q : Nat, iv = .int .i64 k ∧ k ≤ xs.length ∧ xs.take k = ys.take k ∧ wr = w.drewN q) (fun iv _ => xs.length - (intOf iv).toNat)
    case atStart => exact ⟨0, 0, rfl, Nat.zero_le _, rfl, rfl⟩
    case round =>
      obtain ⟨k, q, rfl, hk, htk, hwr⟩ := hrel
      have HW : Hid (wr = w.drewN q) := hwr
      have HTk : Hid (xs.take k = ys.take k) := htk
      have HXr : Hid (VRow wr (.slice a xs.length cap) xs) := by rw [HW.out]; exact HX.out.below (bel_drewN (Below.refl _ _) q)
      have HYr : Hid (VRow wr (.slice a' xs.length cap') ys) := by rw [HW.out]; exact HY.out.below (bel_drewN (Below.refl _ _) q)
      clear hwr htk
      by_cases hlt : k < xs.length
      · have hlt' : k < ys.length := by have := HL.out; omega
        obtain ⟨b, off, rfl, hc1, hc2⟩ := VRow.at HXr.out hlt
        obtain ⟨b', off', rfl, hc3, hc4⟩ := VRow.at HYr.out hlt'
        have i4 : (k : Int) < (xs.length : Int) := by omega
        by_cases hek : xs[k] = ys[k]
        · have HN : Hid (xs.take (k + 1) = ys.take (k + 1)) := by
            have := HTk.out
            rw [Hid, List.take_succ_eq_append_getElem hlt, List.take_succ_eq_append_getElem hlt', this, hek]
          rw [← hek] at hc3 hc4
          have hb := beq_yes (rfl : xs[k].1 = xs[k].1)
          clear hek
          go_wp2
          go_big_quiet (fail)
          go_wp2
          go_roundw
          case rel => exact ⟨k + 1, q + nq, by go_num, by omega, HN.out, by rw [HW.out, World.drewN_drewN]⟩
          case measure => simp [intOf]; omega
        · have HN : Hid (decide (xs = ys) = false) := by
            simp only [Hid, decide_eq_false_iff_not]
            intro h
            exact hek (by simp only [h])
          by_cases h1 : xs[k].1 = ys[k].1
          · have h2 : ¬ xs[k].2 = ys[k].2 := fun h2 => hek (Prod.ext h1 h2)
            have hb := beq_yes h1
            clear hek h1
            go_wp2
            go_big_quiet (fail)
            go_wp2
            go_ret
            rw [HN.out]
            exact ⟨rfl, q + nq, by rw [HW.out, World.drewN_drewN]⟩
          · have hb := beq_no h1
            clear hek h1
            go_wp2
            go_big_quiet (fail)
            go_wp2
            go_ret
            rw [HN.out]
            exact ⟨rfl, q + nq, by rw [HW.out, World.drewN_drewN]⟩
      · obtain rfl : k = xs.length := by omega
        have HN : Hid (decide (xs = ys) = true) := by
          have h1 := HTk.out
          rw [List.take_of_length_le (Nat.le_refl _), List.take_of_length_le (Nat.le_of_eq HL.out.symm)] at h1
          simp [Hid, h1]
        have i4 : ¬ (xs.length : Int) < (xs.length : Int) := by omega
        go_wp2
        go_ret
        rw [HN.out]
        exact ⟨rfl, q, HW.out⟩
  · have HN : Hid (decide (xs = ys) = false) := by
      simp only [Hid, decide_eq_false_iff_not]
      intro h
      exact hl (by rw [h])
    have hl2 : ¬ (xs.length : Int) = (ys.length : Int) := by omega
    clear hl
    go_enter Tryd.func10, Tryd.ntmps10
    go_wp2
    go_ret
    rw [HN.out]
    exact ⟨rfl, 0, rfl⟩
theorem sameVars_same (u v : Value) (xs : List VarD) (w : World) (hx : xs.length ≤ 2097153) (h : VRow w u xs) (h' : VRow w v xs) :
    Calls Tryd.prog 10 #[u, v] w fun e w' => e = .returned (.bool true) ∧ Below w.heap.size w w' := by
  refine (sameVars_any u v xs xs w hx h h').mono ?_
  rintro e w' ⟨rfl, q, hq⟩
  exact ⟨by rw [decide_eq_true (rfl : xs = xs)], by rw [hq]; exact bel_drewN (Below.refl _ _) q⟩

end Go.Proofs.YtneobgikailhjaaDoor
