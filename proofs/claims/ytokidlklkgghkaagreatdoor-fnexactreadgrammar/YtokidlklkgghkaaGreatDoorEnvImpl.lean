/- The program's RuleAt: slices.IndexFunc with a closure that knows the name. -/
/- Names in order: the plain mathematics of lists of names with numbers. -/
/- Names that ascend, and the program's EnvSet as plain mathematics; names kept in a map. -/
/- The program's VarName, namesAscend, EnvOk and EnvGet. -/
import Derived.Test.YtokidlklkgghkaaGreatDoorGRule
import Derived.Test.YtokidlklkgghkaaGreatDoorSetPure
import Derived.Sort.KeysCollected
import Derived.Sort.Walk0
import Derived.Maps.OwnSet
namespace Go.Proofs.YtokidlklkgghkaaGreatDoor
open Go.RowKit

set_option maxHeartbeats 1600000 in
theorem ruleAt1_any (b : Bool) (nm name : ByteArray) (p0 p1 : Value) (B : Nat) (w : World) (he : decide (nm = name) = b) (hB : w.cell? ⟨B, 0, none⟩ = some (.string name)) :
    Calls Tryz.prog 120 #[.agg #[.string nm, p0, p1], .pointer (some ⟨B, 0, none⟩)] w fun e w' => e = .returned (.bool b) ∧ Below w.heap.size w w' := by
  have BW : Hid (Below w.heap.size w (w.alloc (.cells #[.string nm, p0, p1] 40))) := (Below.refl _ _).alloc (Nat.le_refl _) _
  have n0 : (w.alloc (.cells #[.string nm, p0, p1] 40)).cell? ⟨w.heap.size, 0, none⟩ = some (.string nm) := box_at _ _ _ 0 _ rfl
  have n1 : (w.alloc (.cells #[.string nm, p0, p1] 40)).cell? ⟨B, 0, none⟩ = some (.string name) := cell_keep hB BW.out
  by_cases hq : nm = name
  · have hq' := beq_yes hq
    have hb : b = true := by rw [← he, decide_eq_true hq]
    subst hb
    clear he hB hq
    go_enter Tryz.func120, Tryz.ntmps120
    go_wp2

    go_ret
    exact ⟨rfl, BW.out⟩
  · have hq' := beq_no hq
    have hb : b = false := by rw [← he, decide_eq_false hq]
    subst hb
    clear he hB hq
    go_enter Tryz.func120, Tryz.ntmps120
    go_wp2
    go_ret
    exact ⟨rfl, BW.out⟩

set_option maxHeartbeats 1600000 in
theorem indexFunc_any (v : Value) (rs : List RuleD) (name : ByteArray) (B : Nat) (w : World) (hn : rs.length ≤ 1048576) (h : RowC 3 RuleE w v rs) (hB : w.cell? ⟨B, 0, none⟩ = some (.string name)) :
    Calls Tryz.prog 119 #[v, .func (.func 120) #[] #[.pointer (some ⟨B, 0, none⟩)]] w fun e w' => e = .returned (.int .i64 (ruleAtI rs name)) ∧ Below w.heap.size w w' := by
  obtain ⟨a, cap, rfl⟩ := h.slice
  have HR : Hid (RowC 3 RuleE w (.slice a rs.length cap) rs) := h
  have HC : Hid (w.cell? ⟨B, 0, none⟩ = some (.string name)) := hB
  clear h hB
  go_enter Tryz.func119, Tryz.ntmps119
  go_wp2
  go_loopw [8] (fun iv wr => ∃ k : Nat, iv = .int .i64 k ∧ k ≤ rs.length ∧ atF name k (rs.drop k) = ruleAtI rs name ∧ Below w.heap.size w wr) (fun iv _ => rs.length - (intOf iv).toNat)
  case atStart => exact ⟨0, rfl, Nat.zero_le _, rfl, Below.refl _ _⟩
  case round =>
    obtain ⟨k, rfl, hk, hat, hbw⟩ := hrel
    have HA : Hid (atF name k (rs.drop k) = ruleAtI rs name) := hat
    have BW : Hid (Below w.heap.size w wr) := hbw
    clear hat hbw
    by_cases hlt : k < rs.length
    · have HD : Hid (_ = _) := atF_drop rs name k hlt
      obtain ⟨b, off, vs, rfl, _, hc, hE⟩ := (RowC.below RuleE_stable HR.out BW.out).at hlt
      obtain ⟨r0, r1, rfl, _, _⟩ := hE
      have n0 : wr.cell? ⟨b, off + k * 3, none⟩ = some (.string rs[k].name) := hc 0 (by simp)
      have n1 : wr.cell? ⟨b, off + k * 3 + 1, none⟩ = some r0 := hc 1 (by simp)
      have n2 : wr.cell? ⟨b, off + k * 3 + 2, none⟩ = some r1 := hc 2 (by simp)
      have i4 : (k : Int) < (rs.length : Int) := by omega
      clear hc
      have HCl : Hid (∀ b, decide (rs[k].name = name) = b → _) := fun b he => ruleAt1_any b rs[k].name name r0 r1 B wr he (cell_keep HC.out BW.out)
      by_cases he : rs[k].name = name
      · have HC2 : Hid (∀ _ : Unit, _) := fun _ => HCl.out true (decide_eq_true he)
        have HV : Hid (ruleAtI rs name = (k : Int)) := by rw [Hid, ← HA.out, HD.out, if_pos he]
        clear HCl he
        go_wp2_with (go_at_call 120; refine (HC2.out ()).mono ?_; rintro e w1 ⟨rfl, hb1⟩)
        go_ret
        rw [HV.out]
        exact ⟨rfl, BW.out.trans (hb1.mono BW.out.size)⟩
      · have HC2 : Hid (∀ _ : Unit, _) := fun _ => HCl.out false (decide_eq_false he)
        have HN : Hid (atF name (k + 1) (rs.drop (k + 1)) = ruleAtI rs name) := by rw [Hid, ← HA.out, HD.out, if_neg he]
        clear HCl he
        go_wp2_with (go_at_call 120; refine (HC2.out ()).mono ?_; rintro e w1 ⟨rfl, hb1⟩)
        go_roundw
        case rel => exact ⟨k + 1, by go_num, by omega, HN.out, BW.out.trans (hb1.mono BW.out.size)⟩
        case measure => simp [intOf]; omega
    · obtain rfl : k = rs.length := by omega
      have HV : Hid (ruleAtI rs name = -1) := by rw [Hid, ← HA.out, List.drop_of_length_le (Nat.le_refl _)]; rfl
      go_wp2
      go_ret
      rw [HV.out]
      exact ⟨rfl, BW.out⟩

set_option maxHeartbeats 1600000 in
theorem implRuleAt_any (v : Value) (rs : List RuleD) (name : ByteArray) (w : World) (hn : rs.length ≤ 1048576) (h : RowC 3 RuleE w v rs) :
    Calls Tryz.prog 103 #[.agg #[v], .string name] w fun e w' => e = .returned (.int .i64 (ruleAtI rs name)) ∧ Below w.heap.size w w' := by
  have hmf : ∀ (fn : Fn) (first cap : Array Value) (w : World), (Instr.makeFunc fn first cap).run Tryz.prog w = .ok (.func fn first cap) w := fun _ _ _ _ => rfl
  obtain ⟨a, cap, rfl⟩ := h.slice
  have BW : Hid (Below w.heap.size w ((w.alloc (.cells #[.slice a rs.length cap] 24)).alloc (.cells #[.string name] 9))) := ((Below.refl _ _).alloc (Nat.le_refl _) _).alloc (by simp) _
  have HI : Hid (∀ _ : Unit, _) := fun _ => indexFunc_any (.slice a rs.length cap) rs name (w.heap.size + 1) _ hn (RowC.below RuleE_stable h BW.out) (box_two' _ _ _ _ _ 0 _ rfl)
  have c0 : ((w.alloc (.cells #[.slice a rs.length cap] 24)).alloc (.cells #[.string name] 9)).cell? ⟨w.heap.size, 0, none⟩ = some (.slice a rs.length cap) := box_two _ _ _ _ _ 0 _ rfl
  clear h
  go_enter Tryz.func103, Tryz.ntmps103
  go_wp2_with (go_at_call 119; refine (HI.out ()).mono ?_; rintro e w1 ⟨rfl, hb1⟩)
  go_ret
  exact ⟨rfl, BW.out.trans (hb1.mono BW.out.size)⟩

end Go.Proofs.YtokidlklkgghkaaGreatDoor

namespace Go.Proofs.YtokidlklkgghkaaGreatDoor
open Go.RowKit

theorem bl_irrefl : ∀ (x : List UInt8), Op.bytesLess x x = false
  | [] => rfl
  | a :: x => by simp [Op.bytesLess, bl_irrefl x, UInt8.lt_irrefl]
theorem bl_trans : ∀ (x y z : List UInt8), Op.bytesLess x y = true → Op.bytesLess y z = true → Op.bytesLess x z = true
  | _, [], _, h, _ => by cases ‹List UInt8› <;> simp [Op.bytesLess] at h
  | _, _ :: _, [], _, h => by simp [Op.bytesLess] at h
  | [], _ :: _, _ :: _, _, _ => rfl
  | a :: x, b :: y, c :: z, h, k => by
    simp only [Op.bytesLess, Bool.or_eq_true, decide_eq_true_eq, Bool.and_eq_true, beq_iff_eq] at h k ⊢
    rcases h with h | ⟨rfl, h⟩
    · rcases k with k | ⟨rfl, k⟩
      · exact .inl (UInt8.lt_trans h k)
      · exact .inl h
    · rcases k with k | ⟨rfl, k⟩
      · exact .inl k
      · exact .inr ⟨rfl, bl_trans x y z h k⟩
theorem bl_tri : ∀ (x y : List UInt8), Op.bytesLess x y = true ∨ x = y ∨ Op.bytesLess y x = true
  | [], [] => .inr (.inl rfl)
  | [], _ :: _ => .inl rfl
  | _ :: _, [] => .inr (.inr rfl)
  | a :: x, b :: y => by
    simp only [Op.bytesLess, Bool.or_eq_true, decide_eq_true_eq, Bool.and_eq_true, beq_iff_eq, List.cons.injEq]
    rcases Nat.lt_trichotomy a.toNat b.toNat with h | h | h
    · exact .inl (.inl h)
    · have e : a = b := UInt8.toNat_inj.1 h
      subst e
      rcases bl_tri x y with h | h | h
      · exact .inl (.inr ⟨rfl, h⟩)
      · exact .inr (.inl ⟨rfl, h⟩)
      · exact .inr (.inr (.inr ⟨rfl, h⟩))
    · exact .inr (.inr (.inl h))

theorem toList_inj {a b : ByteArray} (h : a.toList = b.toList) : a = b := by
  rw [ByteArray.toList_eq, ByteArray.toList_eq] at h
  exact ByteArray.ext (Array.toList_inj.1 h)
theorem lt_irrefl (a : ByteArray) : ltS a a = false := bl_irrefl _
theorem lt_trans' {a b c : ByteArray} (h : ltS a b = true) (k : ltS b c = true) : ltS a c = true := bl_trans _ _ _ h k
theorem lt_ne {a b : ByteArray} (h : ltS a b = true) : a ≠ b := by
  intro e; subst e; rw [lt_irrefl] at h; cases h
theorem lt_asymm' {a b : ByteArray} (h : ltS a b = true) : ltS b a = false := by
  cases hh : ltS b a with
  | false => rfl
  | true => have := lt_trans' h hh; rw [lt_irrefl] at this; cases this
theorem lt_tri (a b : ByteArray) : ltS a b = true ∨ a = b ∨ ltS b a = true := by
  rcases bl_tri a.toList b.toList with h | h | h
  · exact .inl h
  · exact .inr (.inl (toList_inj h))
  · exact .inr (.inr h)
theorem gt_iff (a b : ByteArray) : gtS a b = ltS b a := by
  unfold gtS
  rw [bytes_beq]
  rcases lt_tri a b with h | h | h
  · rw [show Op.bytesLess a.toList b.toList = true from h, lt_asymm' h]; rfl
  · subst h; rw [show Op.bytesLess a.toList a.toList = false from lt_irrefl a, lt_irrefl]; simp
  · rw [show Op.bytesLess a.toList b.toList = false from lt_asymm' h, h]
    simp only [Bool.false_or, Bool.not_eq_true', decide_eq_false_iff_not]
    exact fun e => lt_ne h e.symm

end Go.Proofs.YtokidlklkgghkaaGreatDoor

namespace Go.Proofs.YtokidlklkgghkaaGreatDoor
open Go.RowKit Go.Maps

end Go.Proofs.YtokidlklkgghkaaGreatDoor

namespace Go.Proofs.YtokidlklkgghkaaGreatDoor
open Go.RowKit

set_option maxHeartbeats 800000 in
theorem implVarName_any (s : ByteArray) (w : World) :
    Calls Tryz.prog 121 #[.string s] w fun e w' => e = .returned (.bool (nameB s)) ∧ w' = w := by
  by_cases h0 : s.size < 1
  · have HN : Hid (nameB s = false) := by simp only [Hid, nameB, Bool.and_eq_false_iff, decide_eq_false_iff_not]; exact .inr (by omega)
    have i0 : (s.size : Int) < 1 := by omega
    go_enter Tryz.func121, Tryz.ntmps121
    go_wp2
    go_ret
    rw [HN.out]
    exact ⟨rfl, rfl⟩
  · by_cases h4 : 4 < s.size
    · have HN : Hid (nameB s = false) := by simp only [Hid, nameB, Bool.and_eq_false_iff, decide_eq_false_iff_not]; exact .inr (by omega)
      have i0 : ¬ (s.size : Int) < 1 := by omega
      have i4 : (4 : Int) < (s.size : Int) := by omega
      go_enter Tryz.func121, Tryz.ntmps121
      go_wp2
      go_ret
      rw [HN.out]
      exact ⟨rfl, rfl⟩
    · have i0 : ¬ (s.size : Int) < 1 := by omega
      have i4 : ¬ (4 : Int) < (s.size : Int) := by omega
      go_enter Tryz.func121, Tryz.ntmps121
      go_wp2
      go_loop [14] (fun iv => ∃ k : Nat, iv = .int .i64 k ∧ k ≤ s.size ∧ ∀ j (hj : j < s.size), j < k → letB s[j] = true) (fun iv => s.size - (intOf iv).toNat)
      case atStart => exact ⟨0, rfl, Nat.zero_le _, fun _ _ h => by omega⟩
      case round =>
        obtain ⟨k, rfl, hk, hj⟩ := hrel
        have HJ : Hid (∀ j (hj : j < s.size), j < k → letB s[j] = true) := hj
        clear hj
        by_cases hlt : k < s.size
        · have hb := s[k].toNat_lt
          by_cases h1 : s[k].toNat < 97
          · have HN : Hid (nameB s = false) := nameB_no hlt (by simp [letB]; omega)
            go_wp2
            go_ret
            rw [HN.out]
            exact ⟨rfl, rfl⟩
          · by_cases h2 : 122 < s[k].toNat
            · have HN : Hid (nameB s = false) := nameB_no hlt (by simp [letB]; omega)
              go_wp2
              go_ret
              rw [HN.out]
              exact ⟨rfl, rfl⟩
            · go_wp2
              go_round
              case rel =>
                refine ⟨k + 1, by go_num, by omega, fun j hj hjk => ?_⟩
                by_cases e : j = k
                · subst e; simp [letB]; omega
                · exact HJ.out j hj (by omega)
              case measure => simp [intOf]; omega
        · have HN : Hid (nameB s = true) := by
            rw [Hid, nameB_all (s := s) (fun j hj => HJ.out j hj (by omega)), decide_eq_true_eq]
            omega
          go_wp2
          go_ret
          rw [HN.out]
          exact ⟨rfl, rfl⟩
theorem implVarName_is (s : ByteArray) (b : Bool) (h : nameB s = b) (w : World) :
    Calls Tryz.prog 121 #[.string s] w fun e w' => e = .returned (.bool b) ∧ w' = w := by
  rw [← h]; exact implVarName_any s w

end Go.Proofs.YtokidlklkgghkaaGreatDoor
