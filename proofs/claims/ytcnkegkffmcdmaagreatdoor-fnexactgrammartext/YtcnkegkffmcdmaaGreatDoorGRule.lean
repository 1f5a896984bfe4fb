/- The specification's RuleName and RuleAt. -/
import Derived.Test.YtcnkegkffmcdmaaGreatDoorGData
import Derived.Test.YtcnkegkffmcdmaaGreatDoorXPure
namespace Go.Proofs.YtcnkegkffmcdmaaGreatDoor
open Go.RowKit

def rnC (i b : Nat) : Bool := ((decide (97 ≤ b) && decide (b ≤ 122)) || (decide (65 ≤ b) && decide (b ≤ 90))) || (decide (0 < i) && (decide (48 ≤ b) && decide (b ≤ 57)))
theorem rnC_iff (i b : Nat) : rnC i b = true ↔ ((97 ≤ b ∧ b ≤ 122) ∨ (65 ≤ b ∧ b ≤ 90)) ∨ (0 < i ∧ 48 ≤ b ∧ b ≤ 57) := by simp [rnC]
theorem rnC_not {i b : Nat} (h : ¬ (((97 ≤ b ∧ b ≤ 122) ∨ (65 ≤ b ∧ b ≤ 90)) ∨ (0 < i ∧ 48 ≤ b ∧ b ≤ 57))) : rnC i b = false := by
  rw [← rnC_iff] at h
  simpa using h
def rnTo (s : ByteArray) (k : Nat) : Bool := (List.range k).all fun i => rnC i (s.data.toList.getD i 0).toNat
theorem getD_at (s : ByteArray) (k : Nat) (h : k < s.size) : s.data.toList.getD k 0 = s[k] := by
  have hl : k < s.data.toList.length := by simpa using h
  simp only [List.getD, List.getElem?_eq_getElem hl, Option.getD_some]
  rfl
theorem rnTo_next (s : ByteArray) (k : Nat) (h : k < s.size) : rnTo s (k + 1) = (rnTo s k && rnC k s[k].toNat) := by
  rw [rnTo, List.range_succ, List.all_append, ← rnTo]
  simp only [List.all_cons, List.all_nil, Bool.and_true]
  rw [getD_at s k h]
theorem rnTo_no (s : ByteArray) (k : Nat) (h : k < s.size) (hc : rnC k s[k].toNat = false) : rnTo s s.size = false := by
  rw [rnTo, List.all_eq_false]
  refine ⟨k, List.mem_range.2 h, ?_⟩
  rw [getD_at s k h, hc]
  decide
def ruleNameB (s : ByteArray) : Bool := rnTo s s.size && decide ((1 : Int) ≤ s.size ∧ (s.size : Int) ≤ 6)

set_option maxHeartbeats 1600000 in
set_option maxRecDepth 100000 in
theorem specRuleName_any (s : ByteArray) (w : World) (hs : s.size ≤ 1048576) :
    Calls Tryz.prog 42 #[.string s] w fun e w' => e = .returned (.bool (ruleNameB s)) ∧ w' = w := by
  go_enter Tryz.func42, Tryz.ntmps42
  go_wp2
  go_loopw [3] (fun iv wr => ∃ k : Nat, iv = .int .i64 k ∧ k ≤ s.size ∧ rnTo s k = true ∧ wr = w) (fun iv _ => s.size - (intOf iv).toNat)
  case atStart => exact ⟨0, rfl, Nat.zero_le _, rfl, rfl⟩
  case round =>
    obtain ⟨k, rfl, hk, hto, hwr⟩ := hrel
    rw [hwr]
    clear hwr
    have HTo : Hid (rnTo s k = true) := hto
    clear hto
    by_cases hlt : k < s.size
    · have hu := s[k].toNat_lt
      have HNx : Hid (_ = _) := rnTo_next s k hlt
      have HNo : Hid (rnC k s[k].toNat = false → ruleNameB s = false) := fun h => by rw [ruleNameB, rnTo_no s k hlt h]; rfl
      by_cases c1 : s[k].toNat < 48
      · by_cases hk0 : k = 0
        · have k1 : ((k : Int) == 0) = true := by rw [hk0]; rfl
          have HV : Hid (ruleNameB s = false) := HNo.out (rnC_not (by omega))
          (try clear hk0)
          go_wp2
          go_ret
          rw [HV.out]
          exact ⟨rfl, rfl⟩
        · have k1 : ((k : Int) == 0) = false := by simpa using hk0
          have k2 : 0 < k := by omega
          have HV : Hid (ruleNameB s = false) := HNo.out (rnC_not (by omega))
          (try clear hk0)
          go_wp2
          go_ret
          rw [HV.out]
          exact ⟨rfl, rfl⟩
      · by_cases c2 : s[k].toNat ≤ 57
        · have d1 : 48 ≤ s[k].toNat := by omega
          by_cases hk0 : k = 0
          · have k1 : ((k : Int) == 0) = true := by rw [hk0]; rfl
            have HV : Hid (ruleNameB s = false) := HNo.out (rnC_not (by omega))
            (try clear hk0)
            go_wp2
            go_ret
            rw [HV.out]
            exact ⟨rfl, rfl⟩
          · have k1 : ((k : Int) == 0) = false := by simpa using hk0
            have k2 : 0 < k := by omega
            have HY : Hid (rnC k s[k].toNat = true) := (rnC_iff _ _).2 (by omega)
            (try clear hk0)
            go_wp2
            go_roundw
            case rel => exact ⟨k + 1, by go_num, by omega, by rw [HNx.out, HTo.out, HY.out]; rfl, (by first | rfl | trivial)⟩
            case measure => simp [intOf]; omega
        · by_cases c3 : s[k].toNat < 65
          · have d1 : 57 < s[k].toNat := by omega
            by_cases hk0 : k = 0
            · have k1 : ((k : Int) == 0) = true := by rw [hk0]; rfl
              have HV : Hid (ruleNameB s = false) := HNo.out (rnC_not (by omega))
              (try clear hk0)
              go_wp2
              go_ret
              rw [HV.out]
              exact ⟨rfl, rfl⟩
            · have k1 : ((k : Int) == 0) = false := by simpa using hk0
              have k2 : 0 < k := by omega
              have HV : Hid (ruleNameB s = false) := HNo.out (rnC_not (by omega))
              (try clear hk0)
              go_wp2
              go_ret
              rw [HV.out]
              exact ⟨rfl, rfl⟩
          · by_cases c4 : s[k].toNat ≤ 90
            · have d1 : 65 ≤ s[k].toNat := by omega
              have e90 : decide ((s[k].toNat : Int) ≤ 90) = true := by rw [decide_eq_true]; omega
              have HY : Hid (rnC k s[k].toNat = true) := (rnC_iff _ _).2 (by omega)
              (try clear hk0)
              go_wp2
              go_roundw
              case rel => exact ⟨k + 1, by go_num, by omega, by rw [HNx.out, HTo.out, HY.out]; rfl, (by first | rfl | trivial)⟩
              case measure => simp [intOf]; omega
            · by_cases c5 : s[k].toNat < 97
              · have d1 : 90 < s[k].toNat := by omega
                have e90 : decide ((s[k].toNat : Int) ≤ 90) = false := by rw [decide_eq_false]; omega
                by_cases hk0 : k = 0
                · have k1 : ((k : Int) == 0) = true := by rw [hk0]; rfl
                  have HV : Hid (ruleNameB s = false) := HNo.out (rnC_not (by omega))
                  (try clear hk0)
                  go_wp2
                  go_ret
                  rw [HV.out]
                  exact ⟨rfl, rfl⟩
                · have k1 : ((k : Int) == 0) = false := by simpa using hk0
                  have k2 : 0 < k := by omega
                  have HV : Hid (ruleNameB s = false) := HNo.out (rnC_not (by omega))
                  (try clear hk0)
                  go_wp2
                  go_ret
                  rw [HV.out]
                  exact ⟨rfl, rfl⟩
              · by_cases c6 : s[k].toNat ≤ 122
                · have d1 : 97 ≤ s[k].toNat := by omega
                  have e122 : decide ((s[k].toNat : Int) ≤ 122) = true := by rw [decide_eq_true]; omega
                  have HY : Hid (rnC k s[k].toNat = true) := (rnC_iff _ _).2 (by omega)
                  (try clear hk0)
                  go_wp2
                  go_roundw
                  case rel => exact ⟨k + 1, by go_num, by omega, by rw [HNx.out, HTo.out, HY.out]; rfl, (by first | rfl | trivial)⟩
                  case measure => simp [intOf]; omega
                · have d1 : 122 < s[k].toNat := by omega
                  have e122 : decide ((s[k].toNat : Int) ≤ 122) = false := by rw [decide_eq_false]; omega
                  have e90 : decide ((s[k].toNat : Int) ≤ 90) = false := by rw [decide_eq_false]; omega
                  by_cases hk0 : k = 0
                  · have k1 : ((k : Int) == 0) = true := by rw [hk0]; rfl
                    have HV : Hid (ruleNameB s = false) := HNo.out (rnC_not (by omega))
                    (try clear hk0)
                    go_wp2
                    go_ret
                    rw [HV.out]
                    exact ⟨rfl, rfl⟩
                  · have k1 : ((k : Int) == 0) = false := by simpa using hk0
                    have k2 : 0 < k := by omega
                    have HV : Hid (ruleNameB s = false) := HNo.out (rnC_not (by omega))
                    (try clear hk0)
                    go_wp2
                    go_ret
                    rw [HV.out]
                    exact ⟨rfl, rfl⟩
    · obtain rfl : k = s.size := by omega
      have HV : Hid (ruleNameB s = decide ((1 : Int) ≤ s.size ∧ (s.size : Int) ≤ 6)) := by rw [Hid, ruleNameB, HTo.out]; rfl
      go_wp2_with (go_at_call 22; refine (in_any _ 1 6 _).mono ?_; rintro e wq ⟨rfl, hw⟩; rw [hw]; clear hw)
      go_ret
      rw [HV.out]
      exact ⟨congrArg (fun x => Ending.returned (Value.bool x)) (by simp), rfl⟩

/-- The place of the first rule with a name, looked for from the front; -1 without one. -/
def atF (name : ByteArray) : Nat → List RuleD → Int
  | _, [] => -1
  | i, r :: rs => if r.name = name then (i : Int) else atF name (i + 1) rs
def ruleAtI (rs : List RuleD) (name : ByteArray) : Int := atF name 0 rs
theorem atF_drop (rs : List RuleD) (name : ByteArray) (k : Nat) (h : k < rs.length) : atF name k (rs.drop k) = if rs[k].name = name then (k : Int) else atF name (k + 1) (rs.drop (k + 1)) := by
  rw [List.drop_eq_getElem_cons h, atF]
theorem atF_lt (name : ByteArray) : ∀ (i : Nat) (rs : List RuleD), atF name i rs < (i + rs.length : Nat) ∧ -1 ≤ atF name i rs
  | i, [] => by simp only [atF, List.length_nil]; omega
  | i, r :: rs => by
    have := atF_lt name (i + 1) rs
    rw [atF]
    simp only [List.length_cons]
    split <;> omega

set_option maxHeartbeats 1600000 in
theorem specRuleAt_any (v : Value) (rs : List RuleD) (name : ByteArray) (w : World) (hn : rs.length ≤ 1048576) (h : RowC 3 RuleE w v rs) :
    Calls Tryz.prog 23 #[.agg #[v], .string name] w fun e w' => e = .returned (.int .i64 (ruleAtI rs name)) ∧ Below w.heap.size w w' := by
  obtain ⟨a, cap, rfl⟩ := h.slice
  have BW : Hid (Below w.heap.size w (w.alloc (.cells #[.slice a rs.length cap] 30))) := (Below.refl _ _).alloc (Nat.le_refl _) _
  have HR : Hid (RowC 3 RuleE (w.alloc (.cells #[.slice a rs.length cap] 30)) (.slice a rs.length cap) rs) := RowC.below RuleE_stable h BW.out
  have box : (w.alloc (.cells #[.slice a rs.length cap] 30)).cell? ⟨w.heap.size, 0, none⟩ = some (.slice a rs.length cap) := box_at _ _ _ 0 _ rfl
  clear h
  go_enter Tryz.func23, Tryz.ntmps23
  go_wp2
  go_loopw [5] (fun iv wr => ∃ k : Nat, iv = .int .i64 k ∧ k ≤ rs.length ∧ atF name k (rs.drop k) = ruleAtI rs name ∧ wr = w.alloc (.cells #[.slice a rs.length cap] 30)) (fun iv _ => rs.length - (intOf iv).toNat)
  case atStart => exact ⟨0, rfl, Nat.zero_le _, rfl, rfl⟩
  case round =>
    obtain ⟨k, rfl, hk, hat, hwr⟩ := hrel
    rw [hwr]
    clear hwr
    have HA : Hid (atF name k (rs.drop k) = ruleAtI rs name) := hat
    clear hat
    generalize w.alloc (.cells #[.slice a rs.length cap] 30) = W at *
    by_cases hlt : k < rs.length
    · have HD : Hid (_ = _) := atF_drop rs name k hlt
      obtain ⟨b, off, vs, rfl, _, hc, hE⟩ := HR.out.at hlt
      obtain ⟨r0, r1, rfl, _, _⟩ := hE
      have n0 : W.cell? ⟨b, off + k * 3, none⟩ = some (.string rs[k].name) := hc 0 (by simp)
      have i4 : (k : Int) < (rs.length : Int) := by omega
      clear hc
      by_cases he : rs[k].name = name
      · have hq := beq_yes he
        have HV : Hid (ruleAtI rs name = (k : Int)) := by rw [Hid, ← HA.out, HD.out, if_pos he]
        go_wp2
        go_ret
        rw [HV.out]
        exact ⟨rfl, BW.out⟩
      · have hq := beq_no he
        have HN : Hid (atF name (k + 1) (rs.drop (k + 1)) = ruleAtI rs name) := by rw [Hid, ← HA.out, HD.out, if_neg he]
        go_wp2
        go_roundw
        case rel => exact ⟨k + 1, by go_num, by omega, HN.out, (by first | rfl | trivial)⟩
        case measure => simp [intOf]; omega
    · obtain rfl : k = rs.length := by omega
      have HV : Hid (ruleAtI rs name = -1) := by rw [Hid, ← HA.out, List.drop_of_length_le (Nat.le_refl _)]; rfl
      go_wp2
      go_ret
      rw [HV.out]
      exact ⟨rfl, BW.out⟩

end Go.Proofs.YtcnkegkffmcdmaaGreatDoor
