/- The program's RuleName. -/
/- The program's RuleAt: slices.IndexFunc with a closure that knows the name. -/
/- Names in order: the plain mathematics of lists of names with numbers. -/
/- Names that ascend, and the program's EnvSet as plain mathematics; names kept in a map. -/
import Derived.Test.YtpbicppcehhphaaGreatDoorGRule
import Derived.Test.YtpbicppcehhphaaGreatDoorDecPure
import Derived.Test.YtpbicppcehhphaaGreatDoorGOk1
import Derived.Sort.KeysCollected
import Derived.Sort.Walk0
import Derived.Maps.OwnSet
namespace Go.Proofs.YtpbicppcehhphaaGreatDoor
open Go.RowKit
set_option maxHeartbeats 1600000
set_option maxRecDepth 100000
def greatB (b : Nat) : Bool := decide (65 ≤ b) && decide (b ≤ 90)
theorem great_any (b : Nat) (w : World) :
  Calls Tryz.prog 71 #[.int .u8 b] w fun e w' => e = .returned (.bool (greatB b)) ∧ w' = w := by
 by_cases h1 : 65 ≤ b
 ·by_cases h2 : b ≤ 90
  ·have HV : Hid (greatB b = true) := by simp [Hid, greatB, h1, h2]
   have e90 : decide ((b : Int) ≤ 90) = true := by rw [decide_eq_true]; omega
   go_enter Tryz.func71, Tryz.ntmps71
   go_wp2
   go_ret
   rw [HV.out]
   exact ⟨rfl, rfl⟩
  ·have HV : Hid (greatB b = false) := by simp [Hid, greatB, h2]
   have e90 : decide ((b : Int) ≤ 90) = false := by rw [decide_eq_false]; omega
   go_enter Tryz.func71, Tryz.ntmps71
   go_wp2
   go_ret
   rw [HV.out]
   exact ⟨rfl, rfl⟩
 ·have HV : Hid (greatB b = false) := by simp [Hid, greatB, h1]
  have h2 : b < 65 := by omega
  go_enter Tryz.func71, Tryz.ntmps71
  go_wp2
  go_ret
  rw [HV.out]
  exact ⟨rfl, rfl⟩
theorem rnC_of (i b : Nat) : rnC i b = (decide (kindP b = 2) || greatB b || (decide (0 < i) && decide (kindP b = 1))) := by
 unfold rnC kindP greatB
 by_cases h1 : 48 ≤ b ∧ b ≤ 57
 ·rw [if_pos h1, Bool.eq_iff_iff]; simp; omega
 ·rw [if_neg h1]
  by_cases h2 : 97 ≤ b ∧ b ≤ 122
  ·rw [if_pos h2, Bool.eq_iff_iff]; simp; omega
  ·rw [if_neg h2, Bool.eq_iff_iff]; simp; omega
theorem kindP_of (b : Nat) : kindP b = 0 ∨ kindP b = 1 ∨ kindP b = 2 := by
 unfold kindP; split
 ·exact .inr (.inl rfl)
 ·split
  ·exact .inr (.inr rfl)
  ·exact .inl rfl
theorem implRuleName_any (s : ByteArray) (w : World) (hs : s.size ≤ 1048576) :
  Calls Tryz.prog 48 #[.string s] w fun e w' => e = .returned (.bool (ruleNameB s)) ∧ w' = w := by
 have HB : Hid (ruleNameB s = (rnTo s s.size && decide ((1 : Int) ≤ s.size ∧ (s.size : Int) ≤ 6))) := rfl
 by_cases h1 : s.size < 1
 ·have HV : Hid (ruleNameB s = false) := by rw [Hid, HB.out]; simp; omega
  go_enter Tryz.func48, Tryz.ntmps48
  go_wp2
  go_ret
  rw [HV.out]
  exact ⟨rfl, rfl⟩
 by_cases h6 : 6 < s.size
 ·have HV : Hid (ruleNameB s = false) := by rw [Hid, HB.out]; simp; omega
  go_enter Tryz.func48, Tryz.ntmps48
  go_wp2
  go_ret
  rw [HV.out]
  exact ⟨rfl, rfl⟩
 have h0 : 0 < s.size := by omega
 have HL : Hid (ruleNameB s = rnTo s s.size) := by rw [Hid, HB.out]; simp; omega
 have HNo : Hid (∀ k (h : k < s.size), rnC k s[k].toNat = false → ruleNameB s = false) := fun k hk h => by rw [HL.out, rnTo_no s k hk h]
 have hu0 := s[0].toNat_lt
 by_cases hf : kindP s[0].toNat = 1
 ·have HV : Hid (ruleNameB s = false) := HNo.out 0 h0 (by
   rw [rnC_of, hf]
   have : greatB s[0].toNat = false := by
    unfold kindP at hf
    split at hf
    ·unfold greatB; simp; omega
    ·split at hf <;> cases hf
   rw [this]; rfl)
  have HK : Hid (∀ W, Calls Tryz.prog 70 #[.int .u8 s[0].toNat] W fun e w' => e = .returned (.int .i64 1) ∧ w' = W) := fun W => by
   have := kind_any s[0].toNat (by omega) W
   rwa [hf] at this
  clear hf
  go_enter Tryz.func48, Tryz.ntmps48
  go_wp2_with (go_at_call 70; refine (HK.out _).mono ?_; rintro e wq ⟨rfl, hw⟩; rw [hw]; clear hw)
  go_ret
  rw [HV.out]
  exact ⟨rfl, rfl⟩
 obtain ⟨q0, hq0⟩ : ∃ q : Int, q = kindP s[0].toNat := ⟨_, rfl⟩
 have HK : Hid (∀ W, Calls Tryz.prog 70 #[.int .u8 s[0].toNat] W fun e w' => e = .returned (.int .i64 q0) ∧ w' = W) := fun W => by
  have := kind_any s[0].toNat (by omega) W
  rwa [← hq0] at this
 have hq1 : ¬ q0 = 1 := by rw [hq0]; exact hf
 have HQ : Hid (q0 = kindP s[0].toNat) := hq0
 clear hf hq0
 have d1 : decide ((s.size : Int) < 1) = false := by rw [decide_eq_false]; omega
 have d2 : decide ((6 : Int) < (s.size : Int)) = false := by rw [decide_eq_false]; omega
 have d3 : (q0 == 1) = false := by simpa using hq1
 go_enter Tryz.func48, Tryz.ntmps48
 go_wp2_with (go_at_call 70; refine (HK.out _).mono ?_; rintro e wq ⟨rfl, hw⟩; rw [hw]; clear hw)
 go_loopw [20] (fun iv wr => ∃ k : Nat, iv = .int .i64 k ∧ k ≤ s.size ∧ rnTo s k = true ∧ wr = w) (fun iv _ => s.size - (intOf iv).toNat)
 case atStart => exact ⟨0, rfl, Nat.zero_le _, rfl, rfl⟩
 case round =>
  obtain ⟨k, rfl, hk, hto, hwr⟩ := hrel
  rw [hwr]
  clear hwr
  have HTo : Hid (rnTo s k = true) := hto
  clear hto
  by_cases hlt : k < s.size
  ·have hu := s[k].toNat_lt
   have HNx : Hid (_ = _) := rnTo_next s k hlt
   have i4 : (k : Int) < (s.size : Int) := by omega
   have HKk : Hid (∀ W, _) := fun W => kind_any s[k].toNat (by omega) W
   by_cases hz : kindP s[k].toNat = 0
   ·rw [hz] at HKk
    have HG : Hid (∀ W, _) := fun W => great_any s[k].toNat W
    cases hg : greatB s[k].toNat with
    | true =>
     rw [hg] at HG
     have HY : Hid (rnC k s[k].toNat = true) := by rw [Hid, rnC_of, hg]; simp
     clear hz hg
     go_wp2_with (first
      | (go_at_call 70; refine (HKk.out _).mono ?_; rintro e wq ⟨rfl, hw⟩; rw [hw]; clear hw)
      | (go_at_call 71; refine (HG.out _).mono ?_; rintro e wq ⟨rfl, hw⟩; rw [hw]; clear hw))
     go_roundw
     case rel => exact ⟨k + 1, by go_num, by omega, by rw [HNx.out, HTo.out, HY.out]; rfl, (by first | rfl | trivial)⟩
     case measure => simp [intOf]; omega
    | false =>
     rw [hg] at HG
     have HV : Hid (ruleNameB s = false) := HNo.out k hlt (by rw [rnC_of, hg, hz]; simp)
     clear hz hg
     go_wp2_with (first
      | (go_at_call 70; refine (HKk.out _).mono ?_; rintro e wq ⟨rfl, hw⟩; rw [hw]; clear hw)
      | (go_at_call 71; refine (HG.out _).mono ?_; rintro e wq ⟨rfl, hw⟩; rw [hw]; clear hw))
     go_ret
     rw [HV.out]
     exact ⟨rfl, rfl⟩
   ·have HY : Hid (rnC k s[k].toNat = true) := by
     rw [Hid, rnC_of]
     rcases kindP_of s[k].toNat with h | h | h
     ·exact absurd h hz
     ·by_cases hk0 : k = 0
      ·subst hk0
       exact absurd (HQ.out.trans h) hq1
      ·have : 0 < k := by omega
       simp [h, this]
     ·simp [h]
    obtain ⟨q, hq⟩ : ∃ q : Int, q = kindP s[k].toNat := ⟨_, rfl⟩
    rw [← hq] at HKk hz
    clear hq
    go_wp2_with (go_at_call 70; refine (HKk.out _).mono ?_; rintro e wq ⟨rfl, hw⟩; rw [hw]; clear hw)
    go_roundw
    case rel => exact ⟨k + 1, by go_num, by omega, by rw [HNx.out, HTo.out, HY.out]; rfl, (by first | rfl | trivial)⟩
    case measure => simp [intOf]; omega
  ·obtain rfl : k = s.size := by omega
   have HV : Hid (ruleNameB s = true) := by rw [Hid, HL.out, HTo.out]
   go_wp2
   go_ret
   rw [HV.out]
   exact ⟨rfl, rfl⟩
end Go.Proofs.YtpbicppcehhphaaGreatDoor

namespace Go.Proofs.YtpbicppcehhphaaGreatDoor
open Go.RowKit
set_option maxHeartbeats 1600000
theorem ruleAt1_any (b : Bool) (nm name : ByteArray) (p0 p1 : Value) (B : Nat) (w : World) (he : decide (nm = name) = b) (hB : w.cell? ⟨B, 0, none⟩ = some (.string name)) :
  Calls Tryz.prog 73 #[.agg #[.string nm, p0, p1], .pointer (some ⟨B, 0, none⟩)] w fun e w' => e = .returned (.bool b) ∧ Below w.heap.size w w' := by
 have BW : Hid (Below w.heap.size w (w.alloc (.cells #[.string nm, p0, p1] 36))) := (Below.refl _ _).alloc (Nat.le_refl _) _
 have n0 : (w.alloc (.cells #[.string nm, p0, p1] 36)).cell? ⟨w.heap.size, 0, none⟩ = some (.string nm) := box_at _ _ _ 0 _ rfl
 have n1 : (w.alloc (.cells #[.string nm, p0, p1] 36)).cell? ⟨B, 0, none⟩ = some (.string name) := cell_keep hB BW.out
 by_cases hq : nm = name
 ·have hq' := beq_yes hq
  have hb : b = true := by rw [← he, decide_eq_true hq]
  subst hb
  clear he hB hq
  go_enter Tryz.func73, Tryz.ntmps73
  go_wp2
  go_ret
  exact ⟨rfl, BW.out⟩
 ·have hq' := beq_no hq
  have hb : b = false := by rw [← he, decide_eq_false hq]
  subst hb
  clear he hB hq
  go_enter Tryz.func73, Tryz.ntmps73
  go_wp2
  go_ret
  exact ⟨rfl, BW.out⟩
theorem indexFunc_any (v : Value) (rs : List RuleD) (name : ByteArray) (B : Nat) (w : World) (hn : rs.length ≤ 1048576) (h : RowC 3 RuleE w v rs) (hB : w.cell? ⟨B, 0, none⟩ = some (.string name)) :
  Calls Tryz.prog 72 #[v, .func (.func 73) #[] #[.pointer (some ⟨B, 0, none⟩)]] w fun e w' => e = .returned (.int .i64 (ruleAtI rs name)) ∧ Below w.heap.size w w' := by
 obtain ⟨a, cap, rfl⟩ := h.slice
 have HR : Hid (RowC 3 RuleE w (.slice a rs.length cap) rs) := h
 have HC : Hid (w.cell? ⟨B, 0, none⟩ = some (.string name)) := hB
 clear h hB
 go_enter Tryz.func72, Tryz.ntmps72
 go_wp2
 go_loopw [8] (fun iv wr => ∃ k : Nat, iv = .int .i64 k ∧ k ≤ rs.length ∧ atF name k (rs.drop k) = ruleAtI rs name ∧ Below w.heap.size w wr) (fun iv _ => rs.length - (intOf iv).toNat)
 case atStart => exact ⟨0, rfl, Nat.zero_le _, rfl, Below.refl _ _⟩
 case round =>
  obtain ⟨k, rfl, hk, hat, hbw⟩ := hrel
  have HA : Hid (atF name k (rs.drop k) = ruleAtI rs name) := hat
  have BW : Hid (Below w.heap.size w wr) := hbw
  clear hat hbw
  by_cases hlt : k < rs.length
  ·have HD : Hid (_ = _) := atF_drop rs name k hlt
   obtain ⟨b, off, vs, rfl, _, hc, hE⟩ := (RowC.below RuleE_stable HR.out BW.out).at hlt
   obtain ⟨r0, r1, rfl, _, _⟩ := hE
   have n0 : wr.cell? ⟨b, off + k * 3, none⟩ = some (.string rs[k].name) := hc 0 (by simp)
   have n1 : wr.cell? ⟨b, off + k * 3 + 1, none⟩ = some r0 := hc 1 (by simp)
   have n2 : wr.cell? ⟨b, off + k * 3 + 2, none⟩ = some r1 := hc 2 (by simp)
   have i4 : (k : Int) < (rs.length : Int) := by omega
   clear hc
   have HCl : Hid (∀ b, decide (rs[k].name = name) = b → _) := fun b he => ruleAt1_any b rs[k].name name r0 r1 B wr he (cell_keep HC.out BW.out)
   by_cases he : rs[k].name = name
   ·have HC2 : Hid (∀ _ : Unit, _) := fun _ => HCl.out true (decide_eq_true he)
    have HV : Hid (ruleAtI rs name = (k : Int)) := by rw [Hid, ← HA.out, HD.out, if_pos he]
    clear HCl he
    go_wp2_with (go_at_call 73; refine (HC2.out ()).mono ?_; rintro e w1 ⟨rfl, hb1⟩)
    go_ret
    rw [HV.out]
    exact ⟨rfl, BW.out.trans (hb1.mono BW.out.size)⟩
   ·have HC2 : Hid (∀ _ : Unit, _) := fun _ => HCl.out false (decide_eq_false he)
    have HN : Hid (atF name (k + 1) (rs.drop (k + 1)) = ruleAtI rs name) := by rw [Hid, ← HA.out, HD.out, if_neg he]
    clear HCl he
    go_wp2_with (go_at_call 73; refine (HC2.out ()).mono ?_; rintro e w1 ⟨rfl, hb1⟩)
    go_roundw
    case rel => exact ⟨k + 1, by go_num, by omega, HN.out, BW.out.trans (hb1.mono BW.out.size)⟩
    case measure => simp [intOf]; omega
  ·obtain rfl : k = rs.length := by omega
   have HV : Hid (ruleAtI rs name = -1) := by rw [Hid, ← HA.out, List.drop_of_length_le (Nat.le_refl _)]; rfl
   go_wp2
   go_ret
   rw [HV.out]
   exact ⟨rfl, BW.out⟩
theorem implRuleAt_any (v : Value) (rs : List RuleD) (name : ByteArray) (w : World) (hn : rs.length ≤ 1048576) (h : RowC 3 RuleE w v rs) :
  Calls Tryz.prog 49 #[.agg #[v], .string name] w fun e w' => e = .returned (.int .i64 (ruleAtI rs name)) ∧ Below w.heap.size w w' := by
 have hmf : ∀ (fn : Fn) (first cap : Array Value) (w : World), (Instr.makeFunc fn first cap).run Tryz.prog w = .ok (.func fn first cap) w := fun _ _ _ _ => rfl
 obtain ⟨a, cap, rfl⟩ := h.slice
 have BW : Hid (Below w.heap.size w ((w.alloc (.cells #[.slice a rs.length cap] 26)).alloc (.cells #[.string name] 9))) := ((Below.refl _ _).alloc (Nat.le_refl _) _).alloc (by simp) _
 have HI : Hid (∀ _ : Unit, _) := fun _ => indexFunc_any (.slice a rs.length cap) rs name (w.heap.size + 1) _ hn (RowC.below RuleE_stable h BW.out) (box_two' _ _ _ _ _ 0 _ rfl)
 have c0 : ((w.alloc (.cells #[.slice a rs.length cap] 26)).alloc (.cells #[.string name] 9)).cell? ⟨w.heap.size, 0, none⟩ = some (.slice a rs.length cap) := box_two _ _ _ _ _ 0 _ rfl
 clear h
 go_enter Tryz.func49, Tryz.ntmps49
 go_wp2_with (go_at_call 72; refine (HI.out ()).mono ?_; rintro e w1 ⟨rfl, hb1⟩)
 go_ret
 exact ⟨rfl, BW.out.trans (hb1.mono BW.out.size)⟩
end Go.Proofs.YtpbicppcehhphaaGreatDoor

namespace Go.Proofs.YtpbicppcehhphaaGreatDoor
open Go.RowKit
theorem bl_irrefl : ∀ (x : List UInt8), Op.bytesLess x x = false
 | [] => rfl
 | a :: x => by simp [Op.bytesLess, bl_irrefl x, UInt8.lt_irrefl]
theorem bl_trans : ∀ (x y z : List UInt8), Op.bytesLess x y = true → Op.bytesLess y z = true → Op.bytesLess x z = true
 | _, [], _, h, _ => by cases ‹List UInt8› <;> simp [Op.bytesLess] at h
 | _, _ :: _, [], _, h => by simp [Op.bytesLess] at h
 | [], _ :: _, _ :: _, _, _ => rfl
 | a :: x, b :: y, c :: z, h, k => by
  simp only [Op.bytesLess, Bool.or_eq_true, decide_eq_true_eq, Bool.and_eq_true, beq_iff_eq] at h k ⊢
  rcases h with h | ⟨rfl, h⟩
  ·rcases k with k | ⟨rfl, k⟩
   ·exact .inl (UInt8.lt_trans h k)
   ·exact .inl h
  ·rcases k with k | ⟨rfl, k⟩
   ·exact .inl k
   ·exact .inr ⟨rfl, bl_trans x y z h k⟩
theorem bl_tri : ∀ (x y : List UInt8), Op.bytesLess x y = true ∨ x = y ∨ Op.bytesLess y x = true
 | [], [] => .inr (.inl rfl)
 | [], _ :: _ => .inl rfl
 | _ :: _, [] => .inr (.inr rfl)
 | a :: x, b :: y => by
  simp only [Op.bytesLess, Bool.or_eq_true, decide_eq_true_eq, Bool.and_eq_true, beq_iff_eq, List.cons.injEq]
  rcases Nat.lt_trichotomy a.toNat b.toNat with h | h | h
  ·exact .inl (.inl h)
  ·have e : a = b := UInt8.toNat_inj.1 h
   subst e
   rcases bl_tri x y with h | h | h
   ·exact .inl (.inr ⟨rfl, h⟩)
   ·exact .inr (.inl ⟨rfl, h⟩)
   ·exact .inr (.inr (.inr ⟨rfl, h⟩))
  ·exact .inr (.inr (.inl h))
theorem toList_inj {a b : ByteArray} (h : a.toList = b.toList) : a = b := by
 rw [ByteArray.toList_eq, ByteArray.toList_eq] at h
 exact ByteArray.ext (Array.toList_inj.1 h)
theorem lt_irrefl (a : ByteArray) : ltS a a = false := bl_irrefl _
theorem lt_trans' {a b c : ByteArray} (h : ltS a b = true) (k : ltS b c = true) : ltS a c = true := bl_trans _ _ _ h k
theorem lt_ne {a b : ByteArray} (h : ltS a b = true) : a ≠ b := by
 intro e; subst e; rw [lt_irrefl] at h; cases h
theorem lt_asymm' {a b : ByteArray} (h : ltS a b = true) : ltS b a = false := by
 cases hh : ltS b a with
 | false => rfl
 | true => have := lt_trans' h hh; rw [lt_irrefl] at this; cases this
theorem lt_tri (a b : ByteArray) : ltS a b = true ∨ a = b ∨ ltS b a = true := by
 rcases bl_tri a.toList b.toList with h | h | h
 ·exact .inl h
 ·exact .inr (.inl (toList_inj h))
 ·exact .inr (.inr h)
theorem gt_iff (a b : ByteArray) : gtS a b = ltS b a := by
 unfold gtS
 rw [bytes_beq]
 rcases lt_tri a b with h | h | h
 ·rw [show Op.bytesLess a.toList b.toList = true from h, lt_asymm' h]; rfl
 ·subst h; rw [show Op.bytesLess a.toList a.toList = false from lt_irrefl a, lt_irrefl]; simp
 ·rw [show Op.bytesLess a.toList b.toList = false from lt_asymm' h, h]
  simp only [Bool.false_or, Bool.not_eq_true', decide_eq_false_iff_not]
  exact fun e => lt_ne h e.symm
def After (p : Option ByteArray) (s : ByteArray) : Prop := match p with | none => True | some q => ltS q s = true
theorem After.trans {p : Option ByteArray} {a b : ByteArray} (h : After p a) (k : ltS a b = true) : After p b := by
 cases p with
 | none => trivial
 | some q => exact lt_trans' h k
end Go.Proofs.YtpbicppcehhphaaGreatDoor

namespace Go.Proofs.YtpbicppcehhphaaGreatDoor
open Go.RowKit Go.Maps
end Go.Proofs.YtpbicppcehhphaaGreatDoor
