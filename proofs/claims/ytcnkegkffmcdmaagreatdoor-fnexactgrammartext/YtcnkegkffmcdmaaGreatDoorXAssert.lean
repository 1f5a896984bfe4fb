/- The program's RuleAt: slices.IndexFunc with a closure that knows the name. -/
/- What a type assertion gives: each kind of part held against each. -/
import Derived.Test.YtcnkegkffmcdmaaGreatDoorGRule
import Derived.Test.YtcnkegkffmcdmaaGreatDoorProg
import Derived.WalkKit
namespace Go.Proofs.YtcnkegkffmcdmaaGreatDoor
open Go.RowKit

set_option maxHeartbeats 1600000 in
theorem ruleAt1_any (b : Bool) (nm name : ByteArray) (p0 p1 : Value) (B : Nat) (w : World) (he : decide (nm = name) = b) (hB : w.cell? ⟨B, 0, none⟩ = some (.string name)) :
    Calls Tryz.prog 86 #[.agg #[.string nm, p0, p1], .pointer (some ⟨B, 0, none⟩)] w fun e w' => e = .returned (.bool b) ∧ Below w.heap.size w w' := by
  have BW : Hid (Below w.heap.size w (w.alloc (.cells #[.string nm, p0, p1] 40))) := (Below.refl _ _).alloc (Nat.le_refl _) _
  have n0 : (w.alloc (.cells #[.string nm, p0, p1] 40)).cell? ⟨w.heap.size, 0, none⟩ = some (.string nm) := box_at _ _ _ 0 _ rfl
  have n1 : (w.alloc (.cells #[.string nm, p0, p1] 40)).cell? ⟨B, 0, none⟩ = some (.string name) := cell_keep hB BW.out
  by_cases hq : nm = name
  · have hq' := beq_yes hq
    have hb : b = true := by rw [← he, decide_eq_true hq]
    subst hb
    clear he hB hq
    go_enter Tryz.func86, Tryz.ntmps86
    go_wp2

    go_ret
    exact ⟨rfl, BW.out⟩
  · have hq' := beq_no hq
    have hb : b = false := by rw [← he, decide_eq_false hq]
    subst hb
    clear he hB hq
    go_enter Tryz.func86, Tryz.ntmps86
    go_wp2
    go_ret
    exact ⟨rfl, BW.out⟩

set_option maxHeartbeats 1600000 in
theorem indexFunc_any (v : Value) (rs : List RuleD) (name : ByteArray) (B : Nat) (w : World) (hn : rs.length ≤ 1048576) (h : RowC 3 RuleE w v rs) (hB : w.cell? ⟨B, 0, none⟩ = some (.string name)) :
    Calls Tryz.prog 85 #[v, .func (.func 86) #[] #[.pointer (some ⟨B, 0, none⟩)]] w fun e w' => e = .returned (.int .i64 (ruleAtI rs name)) ∧ Below w.heap.size w w' := by
  obtain ⟨a, cap, rfl⟩ := h.slice
  have HR : Hid (RowC 3 RuleE w (.slice a rs.length cap) rs) := h
  have HC : Hid (w.cell? ⟨B, 0, none⟩ = some (.string name)) := hB
  clear h hB
  go_enter Tryz.func85, Tryz.ntmps85
  go_wp2
  go_loopw [8] (fun iv wr => ∃ k : Nat, iv = .int .i64 k ∧ k ≤ rs.length ∧ atF name k (rs.drop k) = ruleAtI rs name ∧ Below w.heap.size w wr) (fun iv _ => rs.length - (intOf iv).toNat)
  case atStart => exact ⟨0, rfl, Nat.zero_le _, rfl, Below.refl _ _⟩
  case round =>
    obtain ⟨k, rfl, hk, hat, hbw⟩ := hrel
    have HA : Hid (atF name k (rs.drop k) = ruleAtI rs name) := hat
    have BW : Hid (Below w.heap.size w wr) := hbw
    clear hat hbw
    by_cases hlt : k < rs.length
    · have HD : Hid (_ = _) := atF_drop rs name k hlt
      obtain ⟨b, off, vs, rfl, _, hc, hE⟩ := (RowC.below RuleE_stable HR.out BW.out).at hlt
      obtain ⟨r0, r1, rfl, _, _⟩ := hE
      have n0 : wr.cell? ⟨b, off + k * 3, none⟩ = some (.string rs[k].name) := hc 0 (by simp)
      have n1 : wr.cell? ⟨b, off + k * 3 + 1, none⟩ = some r0 := hc 1 (by simp)
      have n2 : wr.cell? ⟨b, off + k * 3 + 2, none⟩ = some r1 := hc 2 (by simp)
      have i4 : (k : Int) < (rs.length : Int) := by omega
      clear hc
      have HCl : Hid (∀ b, decide (rs[k].name = name) = b → _) := fun b he => ruleAt1_any b rs[k].name name r0 r1 B wr he (cell_keep HC.out BW.out)
      by_cases he : rs[k].name = name
      · have HC2 : Hid (∀ _ : Unit, _) := fun _ => HCl.out true (decide_eq_true he)
        have HV : Hid (ruleAtI rs name = (k : Int)) := by rw [Hid, ← HA.out, HD.out, if_pos he]
        clear HCl he
        go_wp2_with (go_at_call 86; refine (HC2.out ()).mono ?_; rintro e w1 ⟨rfl, hb1⟩)
        go_ret
        rw [HV.out]
        exact ⟨rfl, BW.out.trans (hb1.mono BW.out.size)⟩
      · have HC2 : Hid (∀ _ : Unit, _) := fun _ => HCl.out false (decide_eq_false he)
        have HN : Hid (atF name (k + 1) (rs.drop (k + 1)) = ruleAtI rs name) := by rw [Hid, ← HA.out, HD.out, if_neg he]
        clear HCl he
        go_wp2_with (go_at_call 86; refine (HC2.out ()).mono ?_; rintro e w1 ⟨rfl, hb1⟩)
        go_roundw
        case rel => exact ⟨k + 1, by go_num, by omega, HN.out, BW.out.trans (hb1.mono BW.out.size)⟩
        case measure => simp [intOf]; omega
    · obtain rfl : k = rs.length := by omega
      have HV : Hid (ruleAtI rs name = -1) := by rw [Hid, ← HA.out, List.drop_of_length_le (Nat.le_refl _)]; rfl
      go_wp2
      go_ret
      rw [HV.out]
      exact ⟨rfl, BW.out⟩

set_option maxHeartbeats 1600000 in
theorem implRuleAt_any (v : Value) (rs : List RuleD) (name : ByteArray) (w : World) (hn : rs.length ≤ 1048576) (h : RowC 3 RuleE w v rs) :
    Calls Tryz.prog 69 #[.agg #[v], .string name] w fun e w' => e = .returned (.int .i64 (ruleAtI rs name)) ∧ Below w.heap.size w w' := by
  have hmf : ∀ (fn : Fn) (first cap : Array Value) (w : World), (Instr.makeFunc fn first cap).run Tryz.prog w = .ok (.func fn first cap) w := fun _ _ _ _ => rfl
  obtain ⟨a, cap, rfl⟩ := h.slice
  have BW : Hid (Below w.heap.size w ((w.alloc (.cells #[.slice a rs.length cap] 30)).alloc (.cells #[.string name] 9))) := ((Below.refl _ _).alloc (Nat.le_refl _) _).alloc (by simp) _
  have HI : Hid (∀ _ : Unit, _) := fun _ => indexFunc_any (.slice a rs.length cap) rs name (w.heap.size + 1) _ hn (RowC.below RuleE_stable h BW.out) (box_two' _ _ _ _ _ 0 _ rfl)
  have c0 : ((w.alloc (.cells #[.slice a rs.length cap] 30)).alloc (.cells #[.string name] 9)).cell? ⟨w.heap.size, 0, none⟩ = some (.slice a rs.length cap) := box_two _ _ _ _ _ 0 _ rfl
  clear h
  go_enter Tryz.func69, Tryz.ntmps69
  go_wp2_with (go_at_call 85; refine (HI.out ()).mono ?_; rintro e w1 ⟨rfl, hb1⟩)
  go_ret
  exact ⟨rfl, BW.out.trans (hb1.mono BW.out.size)⟩

end Go.Proofs.YtcnkegkffmcdmaaGreatDoor

namespace Go.Proofs.YtcnkegkffmcdmaaGreatDoor
open Go.RowKit

theorem Tryz.ta_num_num (v : Value) (w : World) : (Instr.typeAssert (.iface 182 v) 168 182 true).run Tryz.prog w = .ok (.tuple #[v, .bool true]) w := by kernel_rfl
theorem Tryz.ta_num_var (v : Value) (w : World) : (Instr.typeAssert (.iface 182 v) 168 174 true).run Tryz.prog w = .ok (.tuple #[.agg #[.string ⟨#[]⟩], .bool false]) w := by kernel_rfl
theorem Tryz.ta_num_here (v : Value) (w : World) : (Instr.typeAssert (.iface 182 v) 168 183 true).run Tryz.prog w = .ok (.tuple #[.agg #[], .bool false]) w := by kernel_rfl
theorem Tryz.ta_num_pair (v : Value) (w : World) : (Instr.typeAssert (.iface 182 v) 168 186 true).run Tryz.prog w = .ok (.tuple #[.agg #[.int .i64 0, .int .i64 0, .int .i64 0], .bool false]) w := by kernel_rfl
theorem Tryz.ta_num_not (v : Value) (w : World) : (Instr.typeAssert (.iface 182 v) 168 188 true).run Tryz.prog w = .ok (.tuple #[.agg #[.int .i64 0], .bool false]) w := by kernel_rfl
theorem Tryz.ta_var_num (v : Value) (w : World) : (Instr.typeAssert (.iface 174 v) 168 182 true).run Tryz.prog w = .ok (.tuple #[.agg #[.int .i64 0], .bool false]) w := by kernel_rfl
theorem Tryz.ta_var_var (v : Value) (w : World) : (Instr.typeAssert (.iface 174 v) 168 174 true).run Tryz.prog w = .ok (.tuple #[v, .bool true]) w := by kernel_rfl
theorem Tryz.ta_var_here (v : Value) (w : World) : (Instr.typeAssert (.iface 174 v) 168 183 true).run Tryz.prog w = .ok (.tuple #[.agg #[], .bool false]) w := by kernel_rfl
theorem Tryz.ta_var_pair (v : Value) (w : World) : (Instr.typeAssert (.iface 174 v) 168 186 true).run Tryz.prog w = .ok (.tuple #[.agg #[.int .i64 0, .int .i64 0, .int .i64 0], .bool false]) w := by kernel_rfl
theorem Tryz.ta_var_not (v : Value) (w : World) : (Instr.typeAssert (.iface 174 v) 168 188 true).run Tryz.prog w = .ok (.tuple #[.agg #[.int .i64 0], .bool false]) w := by kernel_rfl
theorem Tryz.ta_here_num (v : Value) (w : World) : (Instr.typeAssert (.iface 183 v) 168 182 true).run Tryz.prog w = .ok (.tuple #[.agg #[.int .i64 0], .bool false]) w := by kernel_rfl
theorem Tryz.ta_here_var (v : Value) (w : World) : (Instr.typeAssert (.iface 183 v) 168 174 true).run Tryz.prog w = .ok (.tuple #[.agg #[.string ⟨#[]⟩], .bool false]) w := by kernel_rfl
theorem Tryz.ta_here_here (v : Value) (w : World) : (Instr.typeAssert (.iface 183 v) 168 183 true).run Tryz.prog w = .ok (.tuple #[v, .bool true]) w := by kernel_rfl
theorem Tryz.ta_here_pair (v : Value) (w : World) : (Instr.typeAssert (.iface 183 v) 168 186 true).run Tryz.prog w = .ok (.tuple #[.agg #[.int .i64 0, .int .i64 0, .int .i64 0], .bool false]) w := by kernel_rfl
theorem Tryz.ta_here_not (v : Value) (w : World) : (Instr.typeAssert (.iface 183 v) 168 188 true).run Tryz.prog w = .ok (.tuple #[.agg #[.int .i64 0], .bool false]) w := by kernel_rfl
theorem Tryz.ta_pair_num (v : Value) (w : World) : (Instr.typeAssert (.iface 186 v) 168 182 true).run Tryz.prog w = .ok (.tuple #[.agg #[.int .i64 0], .bool false]) w := by kernel_rfl
theorem Tryz.ta_pair_var (v : Value) (w : World) : (Instr.typeAssert (.iface 186 v) 168 174 true).run Tryz.prog w = .ok (.tuple #[.agg #[.string ⟨#[]⟩], .bool false]) w := by kernel_rfl
theorem Tryz.ta_pair_here (v : Value) (w : World) : (Instr.typeAssert (.iface 186 v) 168 183 true).run Tryz.prog w = .ok (.tuple #[.agg #[], .bool false]) w := by kernel_rfl
theorem Tryz.ta_pair_pair (v : Value) (w : World) : (Instr.typeAssert (.iface 186 v) 168 186 true).run Tryz.prog w = .ok (.tuple #[v, .bool true]) w := by kernel_rfl
theorem Tryz.ta_pair_not (v : Value) (w : World) : (Instr.typeAssert (.iface 186 v) 168 188 true).run Tryz.prog w = .ok (.tuple #[.agg #[.int .i64 0], .bool false]) w := by kernel_rfl
theorem Tryz.ta_not_num (v : Value) (w : World) : (Instr.typeAssert (.iface 188 v) 168 182 true).run Tryz.prog w = .ok (.tuple #[.agg #[.int .i64 0], .bool false]) w := by kernel_rfl
theorem Tryz.ta_not_var (v : Value) (w : World) : (Instr.typeAssert (.iface 188 v) 168 174 true).run Tryz.prog w = .ok (.tuple #[.agg #[.string ⟨#[]⟩], .bool false]) w := by kernel_rfl
theorem Tryz.ta_not_here (v : Value) (w : World) : (Instr.typeAssert (.iface 188 v) 168 183 true).run Tryz.prog w = .ok (.tuple #[.agg #[], .bool false]) w := by kernel_rfl
theorem Tryz.ta_not_pair (v : Value) (w : World) : (Instr.typeAssert (.iface 188 v) 168 186 true).run Tryz.prog w = .ok (.tuple #[.agg #[.int .i64 0, .int .i64 0, .int .i64 0], .bool false]) w := by kernel_rfl
theorem Tryz.ta_not_not (v : Value) (w : World) : (Instr.typeAssert (.iface 188 v) 168 188 true).run Tryz.prog w = .ok (.tuple #[v, .bool true]) w := by kernel_rfl

end Go.Proofs.YtcnkegkffmcdmaaGreatDoor
