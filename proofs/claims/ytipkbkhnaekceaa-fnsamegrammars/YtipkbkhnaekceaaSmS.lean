/- SameGrammar: the program's. -/
/- The specification's l07SameInts, l11SameTexts (printed by mk/same.py). -/
import Derived.Test.YtipkbkhnaekceaaGmB
import Derived.Test.YtipkbkhnaekceaaSmP
import Derived.Deep.QuietTactic
import Derived.BigQuiet
namespace Go.Proofs.Ytipkbkhnaekceaa
open Go.RowKit
set_option linter.unusedVariables false

set_option maxHeartbeats 1600000 in
theorem implSameG_any (rv rv' : Value) (x y : List RuleD) (w : World) (hx : grammarTot x ≤ 1048576) (hy : grammarTot y ≤ 1048576) (h0 : RowC 3 RuleE w rv x) (h1 : RowC 3 RuleE w rv' y) :
    Calls Try.prog 6 #[.agg #[rv], .agg #[rv']] w fun e w' => e = .returned (.bool (same x y)) ∧ Below w.heap.size w w' := by
  have R0 : Hid (RowC 3 RuleE w rv x) := h0
  have R1 : Hid (RowC 3 RuleE w rv' y) := h1
  obtain ⟨a0, c0, rfl⟩ := h0.slice
  obtain ⟨a1, c1, rfl⟩ := h1.slice
  clear h0 h1
  have BW : Hid (Below w.heap.size w ((w.alloc (.cells #[.slice a0 x.length c0] 26)).alloc (.cells #[.slice a1 y.length c1] 26))) := ((Below.refl _ _).alloc (Nat.le_refl _) _).alloc (by simp) _
  have e0 : ((w.alloc (.cells #[.slice a0 x.length c0] 26)).alloc (.cells #[.slice a1 y.length c1] 26)).cell? ⟨w.heap.size, 0, none⟩ = some (.slice a0 x.length c0) := box_two _ _ _ _ _ 0 _ rfl
  have e1 : ((w.alloc (.cells #[.slice a0 x.length c0] 26)).alloc (.cells #[.slice a1 y.length c1] 26)).cell? ⟨w.heap.size + 1, 0, none⟩ = some (.slice a1 y.length c1) := box_two' _ _ _ _ _ 0 _ rfl
  have HN : Hid (∀ W, Below w.heap.size w W → _) := fun W hW => eqfRule_any (.slice a0 x.length c0) (.slice a1 y.length c1) x y W hx hy (RowC.below RuleE_stable R0.out hW) (RowC.below RuleE_stable R1.out hW)
  clear hx hy
  go_enter Try.func6, Try.ntmps6
  go_wp2_with (go_at_call 13; refine (HN.out _ BW.out).mono ?_; rintro e w1 ⟨rfl, hb1⟩)
  go_ret
  exact ⟨rfl, BW.out.trans (hb1.mono BW.out.size)⟩

end Go.Proofs.Ytipkbkhnaekceaa

namespace Go.Proofs.Ytipkbkhnaekceaa
open Go.RowKit
set_option linter.unusedVariables false

set_option maxHeartbeats 1600000 in
theorem smI_any (u v : Value) (a b : List Int) (w : World) (hn : a.length ≤ 1048576) (hn' : b.length ≤ 1048576) (h : IRow w u a) (h' : IRow w v b) :
    Calls Try.prog 35 #[u, v] w fun e w' => e = .returned (.bool (same a b)) ∧ ∃ q, w' = w.drewN q := by
  have HA : Hid (IRow w u a) := h
  have HB : Hid (IRow w v b) := h'
  obtain ⟨p, cap, rfl⟩ := h.slice
  obtain ⟨p', cap', rfl⟩ := h'.slice
  clear h h'
  by_cases hl : a.length = b.length
  · have hl1 : ((a.length : Int) != (b.length : Int)) = false := by rw [hl]; simp
    have HL : Hid (a.length = b.length) := hl
    go_enter Try.func35, Try.ntmps35
    clear hl
    go_wp2
    go_loopw [5] (fun iv wr => ∃ k q : Nat, iv = .int .i64 k ∧ k ≤ a.length ∧ (∀ i (h : i < a.length) (h' : i < b.length), i < k → a[i] = b[i]) ∧ wr = w.drewN q) (fun iv _ => a.length - (intOf iv).toNat)
    case atStart => exact ⟨0, 0, rfl, Nat.zero_le _, fun i _ _ h => by omega, rfl⟩
    case round =>
      obtain ⟨k, q, rfl, hk, hto, hwr⟩ := hrel
      have HTo : Hid (∀ i (h : i < a.length) (h' : i < b.length), i < k → a[i] = b[i]) := hto
      have HW : Hid (wr = w.drewN q) := hwr
      clear hto hwr
      by_cases hlt : k < a.length
      · have hlt' : k < b.length := by rw [← HL.out]; exact hlt
        obtain ⟨g, off, rfl, hc⟩ := HA.out.at hlt
        obtain ⟨g', off', rfl, hc'⟩ := HB.out.at hlt'
        have hd : wr.cell? ⟨g, off + k, none⟩ = some (.int .i64 a[k]) := by rw [HW.out]; exact hc
        have hd' : wr.cell? ⟨g', off' + k, none⟩ = some (.int .i64 b[k]) := by rw [HW.out]; exact hc'
        have i4 : (k : Int) < (a.length : Int) := by omega
        have i5 : (k : Int) < (b.length : Int) := by omega
        clear hc hc'
        by_cases he : a[k] = b[k]
        · have HN : Hid (∀ i (h : i < a.length) (h' : i < b.length), i < k + 1 → a[i] = b[i]) := fun i h1 h2 h3 => by
            by_cases e : i = k
            · subst e; exact he
            · exact HTo.out i h1 h2 (by omega)
          have q1 : (a[k] != b[k]) = false := by rw [he]; simp
          clear he HTo
          generalize a[k] = x at *
          generalize b[k] = y at *
          go_wp2
          go_quiet (fail)
          go_wp2
          go_roundw
          case rel => exact ⟨k + 1, q + nq, by go_num, by omega, HN.out, by rw [HW.out, World.drewN_drewN]⟩
          case measure => simp [intOf]; omega
        · have HV : Hid (same a b = false) := same_no (sm_no hlt hlt' he)
          have q1 : (a[k] != b[k]) = true := by simpa using he
          clear he HTo
          generalize a[k] = x at *
          generalize b[k] = y at *
          go_wp2
          go_quiet (fail)
          go_wp2
          go_ret
          rw [HV.out]
          exact ⟨rfl, q + nq, by rw [HW.out, World.drewN_drewN]⟩
      · obtain rfl : k = a.length := by omega
        have HV : Hid (same a b = true) := same_yes (sm_all HL.out fun i h1 h2 => HTo.out i h1 h2 h1)
        clear HTo
        go_wp2
        go_ret
        rw [HV.out]
        exact ⟨rfl, q, HW.out⟩
  · have hl1 : ((a.length : Int) != (b.length : Int)) = true := by simpa using (by omega : ¬ (a.length : Int) = (b.length : Int))
    have HV : Hid (same a b = false) := same_no fun e => hl (by rw [e])
    clear hl
    go_enter Try.func35, Try.ntmps35
    go_wp2
    go_ret
    rw [HV.out]
    exact ⟨rfl, 0, rfl⟩

set_option maxHeartbeats 1600000 in
theorem smT_any (u v : Value) (a b : List ByteArray) (w : World) (hn : a.length ≤ 1048576) (hn' : b.length ≤ 1048576) (h : SRow w u a) (h' : SRow w v b) :
    Calls Try.prog 20 #[u, v] w fun e w' => e = .returned (.bool (same a b)) ∧ ∃ q, w' = w.drewN q := by
  have HA : Hid (SRow w u a) := h
  have HB : Hid (SRow w v b) := h'
  obtain ⟨p, cap, rfl⟩ := h.slice
  obtain ⟨p', cap', rfl⟩ := h'.slice
  clear h h'
  by_cases hl : a.length = b.length
  · have hl1 : ((a.length : Int) != (b.length : Int)) = false := by rw [hl]; simp
    have HL : Hid (a.length = b.length) := hl
    go_enter Try.func20, Try.ntmps20
    clear hl
    go_wp2
    go_loopw [5] (fun iv wr => ∃ k q : Nat, iv = .int .i64 k ∧ k ≤ a.length ∧ (∀ i (h : i < a.length) (h' : i < b.length), i < k → a[i] = b[i]) ∧ wr = w.drewN q) (fun iv _ => a.length - (intOf iv).toNat)
    case atStart => exact ⟨0, 0, rfl, Nat.zero_le _, fun i _ _ h => by omega, rfl⟩
    case round =>
      obtain ⟨k, q, rfl, hk, hto, hwr⟩ := hrel
      have HTo : Hid (∀ i (h : i < a.length) (h' : i < b.length), i < k → a[i] = b[i]) := hto
      have HW : Hid (wr = w.drewN q) := hwr
      clear hto hwr
      by_cases hlt : k < a.length
      · have hlt' : k < b.length := by rw [← HL.out]; exact hlt
        obtain ⟨g, off, rfl, hc⟩ := HA.out.at hlt
        obtain ⟨g', off', rfl, hc'⟩ := HB.out.at hlt'
        have hd : wr.cell? ⟨g, off + k, none⟩ = some (.string a[k]) := by rw [HW.out]; exact hc
        have hd' : wr.cell? ⟨g', off' + k, none⟩ = some (.string b[k]) := by rw [HW.out]; exact hc'
        have i4 : (k : Int) < (a.length : Int) := by omega
        have i5 : (k : Int) < (b.length : Int) := by omega
        clear hc hc'
        by_cases he : a[k] = b[k]
        · have HN : Hid (∀ i (h : i < a.length) (h' : i < b.length), i < k + 1 → a[i] = b[i]) := fun i h1 h2 h3 => by
            by_cases e : i = k
            · subst e; exact he
            · exact HTo.out i h1 h2 (by omega)
          have q1 : (a[k].toList == b[k].toList) = true := beq_yes he
          have q2 : (a[k].toList != b[k].toList) = false := by rw [bne, beq_yes he]; rfl
          clear he HTo
          generalize a[k] = x at *
          generalize b[k] = y at *
          go_wp2
          go_quiet (fail)
          go_wp2
          go_roundw
          case rel => exact ⟨k + 1, q + nq, by go_num, by omega, HN.out, by rw [HW.out, World.drewN_drewN]⟩
          case measure => simp [intOf]; omega
        · have HV : Hid (same a b = false) := same_no (sm_no hlt hlt' he)
          have q1 : (a[k].toList == b[k].toList) = false := beq_no he
          have q2 : (a[k].toList != b[k].toList) = true := by rw [bne, beq_no he]; rfl
          clear he HTo
          generalize a[k] = x at *
          generalize b[k] = y at *
          go_wp2
          go_quiet (fail)
          go_wp2
          go_ret
          rw [HV.out]
          exact ⟨rfl, q + nq, by rw [HW.out, World.drewN_drewN]⟩
      · obtain rfl : k = a.length := by omega
        have HV : Hid (same a b = true) := same_yes (sm_all HL.out fun i h1 h2 => HTo.out i h1 h2 h1)
        clear HTo
        go_wp2
        go_ret
        rw [HV.out]
        exact ⟨rfl, q, HW.out⟩
  · have hl1 : ((a.length : Int) != (b.length : Int)) = true := by simpa using (by omega : ¬ (a.length : Int) = (b.length : Int))
    have HV : Hid (same a b = false) := same_no fun e => hl (by rw [e])
    clear hl
    go_enter Try.func20, Try.ntmps20
    go_wp2
    go_ret
    rw [HV.out]
    exact ⟨rfl, 0, rfl⟩

end Go.Proofs.Ytipkbkhnaekceaa
