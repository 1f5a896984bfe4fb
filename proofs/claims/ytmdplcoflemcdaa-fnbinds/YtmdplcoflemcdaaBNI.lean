/- The program's BindNum. -/
import Derived.Test.YtmdplcoflemcdaaBNS
import Derived.Test.YtmdplcoflemcdaaKindI
namespace Go.Proofs.Ytmdplcoflemcdaa
open Go.RowKit
set_option linter.unusedVariables false

theorem kind_fig (b : Nat) : decide (kindP b = 1) = (decide (48 ≤ b) && decide (b ≤ 57)) := by
  unfold kindP
  by_cases h1 : 48 ≤ b ∧ b ≤ 57
  · rw [if_pos h1, Bool.eq_iff_iff]; simp; omega
  · rw [if_neg h1]
    by_cases h2 : 97 ≤ b ∧ b ≤ 122
    · rw [if_pos h2, Bool.eq_iff_iff]; simp; omega
    · rw [if_neg h2, Bool.eq_iff_iff]; simp; omega
theorem figs_all {l : List UInt8} {k : Nat} (h : k < l.length) (hn : (decide (48 ≤ l[k].toNat) && decide (l[k].toNat ≤ 57)) = false) : figsB l = false := by
  unfold figsB
  rw [List.all_eq_false]
  exact ⟨l[k], List.getElem_mem h, by rw [hn]; decide⟩

set_option maxHeartbeats 3200000 in
set_option maxRecDepth 100000 in
theorem implBindNum_any (s : ByteArray) (w : World) (hs : s.size ≤ 1048576) :
    Calls Try.prog 15 #[.string s] w fun e w' => e = .returned (.int .i64 (bindNum s)) ∧ w' = w := by
  have HB : Hid (∀ _ : Unit, bindNum s = if (decide ((1 : Int) ≤ s.size ∧ (s.size : Int) ≤ 2) && figsB s.data.toList) = true then numI 0 s.data.toList else if 99 < s.size then 99 else s.size) := fun _ => rfl
  by_cases h12 : 1 ≤ s.size ∧ s.size ≤ 2
  · have h99 : (s.size : Int) < 99 := by omega
    have hll : s.data.toList.length = s.size := by simp
    have HN0 : Hid (∀ k, k ≤ 2 → -5000 ≤ numI 0 (s.data.toList.take k) ∧ numI 0 (s.data.toList.take k) ≤ 5000) := fun k hk => by
      have := numI_bound (s.data.toList.take k) 0 0 (by omega) (by omega) (by rw [List.length_take]; omega)
      omega
    have d1 : decide ((s.size : Int) < 1) = false := by rw [decide_eq_false]; omega
    have d2 : decide ((2 : Int) < (s.size : Int)) = false := by rw [decide_eq_false]; omega
    go_enter Try.func15, Try.ntmps15
    go_wp2
    go_loopw [4, 18] (fun nv iv wr => ∃ k : Nat, iv = .int .i64 k ∧ k ≤ s.size ∧ nv = .int .i64 (numI 0 (s.data.toList.take k)) ∧ figsB (s.data.toList.take k) = true ∧ wr = w) (fun _ iv _ => s.size - (intOf iv).toNat)
    case atStart => exact ⟨0, rfl, Nat.zero_le _, rfl, rfl, rfl⟩
    case round =>
      obtain ⟨k, rfl, hk, rfl, hfg, hwr⟩ := hrel
      rw [hwr]
      clear hwr
      have HF : Hid (figsB (s.data.toList.take k) = true) := hfg
      clear hfg
      by_cases hlt : k < s.size
      · have hu := s[k].toNat_lt
        have HNx : Hid (_ = _) := numI_next s.data.toList k (by simpa using hlt)
        have HFx : Hid (_ = _) := figs_next s.data.toList k (by simpa using hlt)
        have HNo : Hid (_ → _) := figs_all (l := s.data.toList) (k := k) (by simpa using hlt)
        have hb := HN0.out k (by omega)
        have e0 : (s.data.toList[k]'(by simpa using hlt)) = s[k] := rfl
        rw [e0] at HNx HFx HNo
        rw [← kind_fig] at HFx HNo
        have i4 : (k : Int) < (s.size : Int) := by omega
        have HK : Hid (∀ W, _) := fun W => kind_any s[k].toNat (by omega) W
        cases hq : decide (kindP s[k].toNat = 1) with
        | true =>
          have hq1 : kindP s[k].toNat = 1 := of_decide_eq_true hq
          have hfig : 48 ≤ s[k].toNat ∧ s[k].toNat ≤ 57 := by
            have := kind_fig s[k].toNat
            rw [hq] at this
            simpa using this.symm
          rw [hq] at HFx
          rw [hq1] at HK
          clear hq hq1 hll e0 HNo
          generalize hn : numI 0 (s.data.toList.take k) = n at *
          have w1 : IntKind.i64.wrap (n * 10) = n * 10 := by rw [IntKind.wrap_i64]; omega
          have w2 : IntKind.u8.wrap ((s[k].toNat : Int) - 48) = (s[k].toNat : Int) - 48 := by rw [IntKind.wrap_u8]; omega
          have w3 : IntKind.i64.wrap (n * 10 + ((s[k].toNat : Int) - 48)) = n * 10 + ((s[k].toNat : Int) - 48) := by rw [IntKind.wrap_i64]; omega
          have w4 : IntKind.i64.wrap ((s[k].toNat : Int) - 48) = (s[k].toNat : Int) - 48 := by rw [IntKind.wrap_i64]; omega
          generalize s.data.toList = l at *
          go_wp2_with (go_at_call 24; refine (HK.out _).mono ?_; rintro e wq ⟨rfl, hw⟩; rw [hw]; clear hw)
          go_roundw
          case rel => exact ⟨k + 1, by go_num, by omega, by rw [HNx.out]; congr 1; omega, by rw [HFx.out, HF.out]; rfl, (by first | rfl | trivial)⟩
          case measure => simp [intOf]; omega
        | false =>
          have HV : Hid (bindNum s = s.size) := by rw [Hid, HB.out (), HNo.out hq, Bool.and_false, if_neg (by decide), if_neg (by omega)]
          have hq1 : ¬ kindP s[k].toNat = 1 := of_decide_eq_false hq
          obtain ⟨q, hq2⟩ : ∃ q : Int, q = kindP s[k].toNat := ⟨_, rfl⟩
          rw [← hq2] at HK hq1
          have d3 : (q == 1) = false := by simpa using hq1
          clear hq hq2 HNo HFx HNx hll e0 HB hb
          generalize numI 0 (s.data.toList.take k) = n at *
          generalize s.data.toList = l at *
          go_wp2_with (go_at_call 24; refine (HK.out _).mono ?_; rintro e wq ⟨rfl, hw⟩; rw [hw]; clear hw)
          go_ret
          rw [HV.out]
          exact ⟨rfl, rfl⟩
      · obtain rfl : k = s.size := by omega
        have e1 : s.data.toList.take s.size = s.data.toList := List.take_of_length_le (by simp)
        have HV : Hid (bindNum s = numI 0 (s.data.toList.take s.size)) := by
          rw [Hid, HB.out ()]
          have := HF.out
          rw [e1] at this ⊢
          rw [this, decide_eq_true (by omega)]
          rfl
        clear HB hll e1 HF HN0
        generalize numI 0 (s.data.toList.take s.size) = n at *
        go_wp2
        go_ret
        rw [HV.out]
        exact ⟨rfl, rfl⟩
  · by_cases h99 : s.size ≤ 99
    · have HV : Hid (bindNum s = s.size) := by
        rw [Hid, HB.out (), decide_eq_false (by omega), Bool.false_and, if_neg (by decide), if_neg (by omega)]
      clear HB
      by_cases h0 : s.size < 1
      · clear h12
        go_enter Try.func15, Try.ntmps15
        go_wp2
        go_ret
        rw [HV.out]
        exact ⟨rfl, rfl⟩
      · have d1 : decide ((s.size : Int) < 1) = false := by rw [decide_eq_false]; omega
        have d2 : decide ((2 : Int) < (s.size : Int)) = true := by rw [decide_eq_true]; omega
        clear h12
        go_enter Try.func15, Try.ntmps15
        go_wp2
        go_ret
        rw [HV.out]
        exact ⟨rfl, rfl⟩
    · have HV : Hid (bindNum s = 99) := by
        rw [Hid, HB.out (), decide_eq_false (by omega), Bool.false_and, if_neg (by decide)]
        split <;> omega
      have h98 : (99 : Int) < (s.size : Int) := by omega
      clear HB h12 h99
      go_enter Try.func15, Try.ntmps15
      go_wp2
      go_ret
      rw [HV.out]
      exact ⟨rfl, rfl⟩

end Go.Proofs.Ytmdplcoflemcdaa
