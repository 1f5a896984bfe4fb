/- Grammars as they lie in memory, and opened as arguments (printed by mk/gkit.py). -/
/- The specification's RuleName and RuleAt. -/
import Derived.Test.YtofpoiccghpliaaGreatDoorGRow
import Derived.Test.YtofpoiccghpliaaGreatDoorSKit
import Derived.Test.YtofpoiccghpliaaGreatDoorEnvOk
namespace Go.Proofs.YtofpoiccghpliaaGreatDoor
open Go.RowKit

def rowTot {α : Type} (f : α → Nat) (xs : List α) : Nat := xs.length + (xs.map f).sum
theorem rowTot_next {α : Type} (f : α → Nat) (xs : List α) (k : Nat) (h : k < xs.length) : ((xs.take (k + 1)).map f).sum = ((xs.take k).map f).sum + f xs[k] := by
  rw [List.take_succ_eq_append_getElem h, List.map_append, List.sum_append, List.map_cons, List.map_nil, List.sum_cons, List.sum_nil, Nat.add_zero]
theorem rowTot_len {α : Type} (f : α → Nat) (xs : List α) : xs.length ≤ rowTot f xs := Nat.le_add_right _ _
theorem sum_mem {α : Type} (f : α → Nat) {xs : List α} {x : α} (h : x ∈ xs) : f x ≤ (xs.map f).sum := by
  induction xs with
  | nil => cases h
  | cons y xs ih =>
    rw [List.map_cons, List.sum_cons]
    rcases List.mem_cons.1 h with rfl | h
    · omega
    · have := ih h; omega
theorem rowTot_mem {α : Type} (f : α → Nat) {xs : List α} {x : α} (h : x ∈ xs) : f x ≤ rowTot f xs := Nat.le_trans (sum_mem f h) (Nat.le_add_left _ _)
def RowInn {α : Type} (P : α → Prop) (xs : List α) : Prop := xs.length ≤ maxLen ∧ ∀ x ∈ xs, P x
def StrIn (s : ByteArray) : Prop := s.size ≤ maxLen
theorem box_at (w : World) (vs : Array Value) (t : TypeId) (j : Nat) (u : Value) (h : vs[j]? = some u) : (w.alloc (.cells vs t)).cell? ⟨w.heap.size, j, none⟩ = some u := by
  have hb : (w.alloc (.cells vs t)).heap[w.heap.size]? = some (.cells vs t) := heap_alloc_new w _
  rw [cell_of_row _ _ j _ _ _ hb]
  exact h
theorem box_two (w : World) (vs us : Array Value) (t t' : TypeId) (j : Nat) (u : Value) (h : vs[j]? = some u) : ((w.alloc (.cells vs t)).alloc (.cells us t')).cell? ⟨w.heap.size, j, none⟩ = some u := by
  have hb : ((w.alloc (.cells vs t)).alloc (.cells us t')).heap[w.heap.size]? = some (.cells vs t) := by
    rw [Below.heap_alloc _ _ _ (by simp)]
    exact heap_alloc_new w _
  rw [cell_of_row _ _ j _ _ _ hb]
  exact h
theorem box_two' (w : World) (vs us : Array Value) (t t' : TypeId) (j : Nat) (u : Value) (h : us[j]? = some u) : ((w.alloc (.cells vs t)).alloc (.cells us t')).cell? ⟨w.heap.size + 1, j, none⟩ = some u := by
  have hb : ((w.alloc (.cells vs t)).alloc (.cells us t')).heap[w.heap.size + 1]? = some (.cells us t') := by
    have := heap_alloc_new (w.alloc (.cells vs t)) (.cells us t')
    rwa [show (w.alloc (.cells vs t)).heap.size = w.heap.size + 1 by simp] at this
  rw [cell_of_row _ _ j _ _ _ hb]
  exact h
def nodesTot (ns : List NodeD) : Nat := ns.length + (ns.map fun x => x.name.size + x.kids.length).sum

structure SymD where
  kind : Int
  text : ByteArray
  args : List (List NodeD)
  bind : ByteArray
structure RuleD where
  name : ByteArray
  params : List ByteArray
  alts : List (List SymD)
instance : Inhabited SymD := ⟨⟨0, ⟨#[]⟩, [], ⟨#[]⟩⟩⟩
instance : Inhabited RuleD := ⟨⟨⟨#[]⟩, [], []⟩⟩

/-- Expr: its cells. -/
def ExprE (w : World) (vs : List Value) (x : List NodeD) : Prop := ∃ r0 : Value, vs = [r0] ∧ NRow w r0 x
def ExprIn (x : List NodeD) : Prop := RowInn NodeIn x
def exprTot (x : List NodeD) : Nat := nodesTot x
theorem ExprE_stable : StableE ExprE := fun w w' vs x h hb => by
  obtain ⟨r0, e, h0⟩ := h
  exact ⟨r0, e, h0.below hb⟩

/-- Sym: its cells. -/
def SymE (w : World) (vs : List Value) (x : SymD) : Prop := ∃ r0 : Value, vs = [.int .i64 x.kind, .string x.text, r0, .string x.bind] ∧ RowC 1 ExprE w r0 x.args
def SymIn (x : SymD) : Prop := i64 x.kind ∧ StrIn x.text ∧ RowInn ExprIn x.args ∧ StrIn x.bind
def symTot (x : SymD) : Nat := x.text.size + rowTot exprTot x.args + x.bind.size
theorem SymE_stable : StableE SymE := fun w w' vs x h hb => by
  obtain ⟨r0, e, h0⟩ := h
  exact ⟨r0, e, RowC.below ExprE_stable h0 hb⟩

/-- Alt: its cells. -/
def AltE (w : World) (vs : List Value) (x : List SymD) : Prop := ∃ r0 : Value, vs = [r0] ∧ RowC 4 SymE w r0 x
def AltIn (x : List SymD) : Prop := RowInn SymIn x
def altTot (x : List SymD) : Nat := rowTot symTot x
theorem AltE_stable : StableE AltE := fun w w' vs x h hb => by
  obtain ⟨r0, e, h0⟩ := h
  exact ⟨r0, e, RowC.below SymE_stable h0 hb⟩

/-- Rule: its cells. -/
def RuleE (w : World) (vs : List Value) (x : RuleD) : Prop := ∃ r0 r1 : Value, vs = [.string x.name, r0, r1] ∧ SRow w r0 x.params ∧ RowC 1 AltE w r1 x.alts
def RuleIn (x : RuleD) : Prop := StrIn x.name ∧ RowInn StrIn x.params ∧ RowInn AltIn x.alts
def ruleTot (x : RuleD) : Nat := x.name.size + rowTot ByteArray.size x.params + rowTot altTot x.alts
theorem RuleE_stable : StableE RuleE := fun w w' vs x h hb => by
  obtain ⟨r0, r1, e, h0, h1⟩ := h
  exact ⟨r0, r1, e, h0.below hb, RowC.below AltE_stable h1 hb⟩

/-- Grammar: its cells. -/
def GrammarE (w : World) (vs : List Value) (x : List RuleD) : Prop := ∃ r0 : Value, vs = [r0] ∧ RowC 3 RuleE w r0 x
def GrammarIn (x : List RuleD) : Prop := RowInn RuleIn x
def grammarTot (x : List RuleD) : Nat := rowTot ruleTot x
theorem GrammarE_stable : StableE GrammarE := fun w w' vs x h hb => by
  obtain ⟨r0, e, h0⟩ := h
  exact ⟨r0, e, RowC.below RuleE_stable h0 hb⟩

end Go.Proofs.YtofpoiccghpliaaGreatDoor

namespace Go.Proofs.YtofpoiccghpliaaGreatDoor
open Go.RowKit

def rnC (i b : Nat) : Bool := ((decide (97 ≤ b) && decide (b ≤ 122)) || (decide (65 ≤ b) && decide (b ≤ 90))) || (decide (0 < i) && (decide (48 ≤ b) && decide (b ≤ 57)))
theorem rnC_iff (i b : Nat) : rnC i b = true ↔ ((97 ≤ b ∧ b ≤ 122) ∨ (65 ≤ b ∧ b ≤ 90)) ∨ (0 < i ∧ 48 ≤ b ∧ b ≤ 57) := by simp [rnC]
theorem rnC_not {i b : Nat} (h : ¬ (((97 ≤ b ∧ b ≤ 122) ∨ (65 ≤ b ∧ b ≤ 90)) ∨ (0 < i ∧ 48 ≤ b ∧ b ≤ 57))) : rnC i b = false := by
  rw [← rnC_iff] at h
  simpa using h
def rnTo (s : ByteArray) (k : Nat) : Bool := (List.range k).all fun i => rnC i (s.data.toList.getD i 0).toNat
theorem getD_at (s : ByteArray) (k : Nat) (h : k < s.size) : s.data.toList.getD k 0 = s[k] := by
  have hl : k < s.data.toList.length := by simpa using h
  simp only [List.getD, List.getElem?_eq_getElem hl, Option.getD_some]
  rfl
theorem rnTo_next (s : ByteArray) (k : Nat) (h : k < s.size) : rnTo s (k + 1) = (rnTo s k && rnC k s[k].toNat) := by
  rw [rnTo, List.range_succ, List.all_append, ← rnTo]
  simp only [List.all_cons, List.all_nil, Bool.and_true]
  rw [getD_at s k h]
theorem rnTo_no (s : ByteArray) (k : Nat) (h : k < s.size) (hc : rnC k s[k].toNat = false) : rnTo s s.size = false := by
  rw [rnTo, List.all_eq_false]
  refine ⟨k, List.mem_range.2 h, ?_⟩
  rw [getD_at s k h, hc]
  decide
def ruleNameB (s : ByteArray) : Bool := rnTo s s.size && decide ((1 : Int) ≤ s.size ∧ (s.size : Int) ≤ 6)

set_option maxHeartbeats 1600000 in
set_option maxRecDepth 100000 in
theorem specRuleName_any (s : ByteArray) (w : World) (hs : s.size ≤ 1048576) :
    Calls Tryz.prog 36 #[.string s] w fun e w' => e = .returned (.bool (ruleNameB s)) ∧ w' = w := by
  go_enter Tryz.func36, Tryz.ntmps36
  go_wp2
  go_loopw [3] (fun iv wr => ∃ k : Nat, iv = .int .i64 k ∧ k ≤ s.size ∧ rnTo s k = true ∧ wr = w) (fun iv _ => s.size - (intOf iv).toNat)
  case atStart => exact ⟨0, rfl, Nat.zero_le _, rfl, rfl⟩
  case round =>
    obtain ⟨k, rfl, hk, hto, hwr⟩ := hrel
    rw [hwr]
    clear hwr
    have HTo : Hid (rnTo s k = true) := hto
    clear hto
    by_cases hlt : k < s.size
    · have hu := s[k].toNat_lt
      have HNx : Hid (_ = _) := rnTo_next s k hlt
      have HNo : Hid (rnC k s[k].toNat = false → ruleNameB s = false) := fun h => by rw [ruleNameB, rnTo_no s k hlt h]; rfl
      by_cases c1 : s[k].toNat < 48
      · by_cases hk0 : k = 0
        · have k1 : ((k : Int) == 0) = true := by rw [hk0]; rfl
          have HV : Hid (ruleNameB s = false) := HNo.out (rnC_not (by omega))
          (try clear hk0)
          go_wp2
          go_ret
          rw [HV.out]
          exact ⟨rfl, rfl⟩
        · have k1 : ((k : Int) == 0) = false := by simpa using hk0
          have k2 : 0 < k := by omega
          have HV : Hid (ruleNameB s = false) := HNo.out (rnC_not (by omega))
          (try clear hk0)
          go_wp2
          go_ret
          rw [HV.out]
          exact ⟨rfl, rfl⟩
      · by_cases c2 : s[k].toNat ≤ 57
        · have d1 : 48 ≤ s[k].toNat := by omega
          by_cases hk0 : k = 0
          · have k1 : ((k : Int) == 0) = true := by rw [hk0]; rfl
            have HV : Hid (ruleNameB s = false) := HNo.out (rnC_not (by omega))
            (try clear hk0)
            go_wp2
            go_ret
            rw [HV.out]
            exact ⟨rfl, rfl⟩
          · have k1 : ((k : Int) == 0) = false := by simpa using hk0
            have k2 : 0 < k := by omega
            have HY : Hid (rnC k s[k].toNat = true) := (rnC_iff _ _).2 (by omega)
            (try clear hk0)
            go_wp2
            go_roundw
            case rel => exact ⟨k + 1, by go_num, by omega, by rw [HNx.out, HTo.out, HY.out]; rfl, (by first | rfl | trivial)⟩
            case measure => simp [intOf]; omega
        · by_cases c3 : s[k].toNat < 65
          · have d1 : 57 < s[k].toNat := by omega
            by_cases hk0 : k = 0
            · have k1 : ((k : Int) == 0) = true := by rw [hk0]; rfl
              have HV : Hid (ruleNameB s = false) := HNo.out (rnC_not (by omega))
              (try clear hk0)
              go_wp2
              go_ret
              rw [HV.out]
              exact ⟨rfl, rfl⟩
            · have k1 : ((k : Int) == 0) = false := by simpa using hk0
              have k2 : 0 < k := by omega
              have HV : Hid (ruleNameB s = false) := HNo.out (rnC_not (by omega))
              (try clear hk0)
              go_wp2
              go_ret
              rw [HV.out]
              exact ⟨rfl, rfl⟩
          · by_cases c4 : s[k].toNat ≤ 90
            · have d1 : 65 ≤ s[k].toNat := by omega
              have e90 : decide ((s[k].toNat : Int) ≤ 90) = true := by rw [decide_eq_true]; omega
              have HY : Hid (rnC k s[k].toNat = true) := (rnC_iff _ _).2 (by omega)
              (try clear hk0)
              go_wp2
              go_roundw
              case rel => exact ⟨k + 1, by go_num, by omega, by rw [HNx.out, HTo.out, HY.out]; rfl, (by first | rfl | trivial)⟩
              case measure => simp [intOf]; omega
            · by_cases c5 : s[k].toNat < 97
              · have d1 : 90 < s[k].toNat := by omega
                have e90 : decide ((s[k].toNat : Int) ≤ 90) = false := by rw [decide_eq_false]; omega
                by_cases hk0 : k = 0
                · have k1 : ((k : Int) == 0) = true := by rw [hk0]; rfl
                  have HV : Hid (ruleNameB s = false) := HNo.out (rnC_not (by omega))
                  (try clear hk0)
                  go_wp2
                  go_ret
                  rw [HV.out]
                  exact ⟨rfl, rfl⟩
                · have k1 : ((k : Int) == 0) = false := by simpa using hk0
                  have k2 : 0 < k := by omega
                  have HV : Hid (ruleNameB s = false) := HNo.out (rnC_not (by omega))
                  (try clear hk0)
                  go_wp2
                  go_ret
                  rw [HV.out]
                  exact ⟨rfl, rfl⟩
              · by_cases c6 : s[k].toNat ≤ 122
                · have d1 : 97 ≤ s[k].toNat := by omega
                  have e122 : decide ((s[k].toNat : Int) ≤ 122) = true := by rw [decide_eq_true]; omega
                  have HY : Hid (rnC k s[k].toNat = true) := (rnC_iff _ _).2 (by omega)
                  (try clear hk0)
                  go_wp2
                  go_roundw
                  case rel => exact ⟨k + 1, by go_num, by omega, by rw [HNx.out, HTo.out, HY.out]; rfl, (by first | rfl | trivial)⟩
                  case measure => simp [intOf]; omega
                · have d1 : 122 < s[k].toNat := by omega
                  have e122 : decide ((s[k].toNat : Int) ≤ 122) = false := by rw [decide_eq_false]; omega
                  have e90 : decide ((s[k].toNat : Int) ≤ 90) = false := by rw [decide_eq_false]; omega
                  by_cases hk0 : k = 0
                  · have k1 : ((k : Int) == 0) = true := by rw [hk0]; rfl
                    have HV : Hid (ruleNameB s = false) := HNo.out (rnC_not (by omega))
                    (try clear hk0)
                    go_wp2
                    go_ret
                    rw [HV.out]
                    exact ⟨rfl, rfl⟩
                  · have k1 : ((k : Int) == 0) = false := by simpa using hk0
                    have k2 : 0 < k := by omega
                    have HV : Hid (ruleNameB s = false) := HNo.out (rnC_not (by omega))
                    (try clear hk0)
                    go_wp2
                    go_ret
                    rw [HV.out]
                    exact ⟨rfl, rfl⟩
    · obtain rfl : k = s.size := by omega
      have HV : Hid (ruleNameB s = decide ((1 : Int) ≤ s.size ∧ (s.size : Int) ≤ 6)) := by rw [Hid, ruleNameB, HTo.out]; rfl
      go_wp2_with (go_at_call 23; refine (in_any _ 1 6 _).mono ?_; rintro e wq ⟨rfl, hw⟩; rw [hw]; clear hw)
      go_ret
      rw [HV.out]
      exact ⟨congrArg (fun x => Ending.returned (Value.bool x)) (by simp), rfl⟩

/-- The place of the first rule with a name, looked for from the front; -1 without one. -/
def atF (name : ByteArray) : Nat → List RuleD → Int
  | _, [] => -1
  | i, r :: rs => if r.name = name then (i : Int) else atF name (i + 1) rs
def ruleAtI (rs : List RuleD) (name : ByteArray) : Int := atF name 0 rs
theorem atF_drop (rs : List RuleD) (name : ByteArray) (k : Nat) (h : k < rs.length) : atF name k (rs.drop k) = if rs[k].name = name then (k : Int) else atF name (k + 1) (rs.drop (k + 1)) := by
  rw [List.drop_eq_getElem_cons h, atF]
theorem atF_lt (name : ByteArray) : ∀ (i : Nat) (rs : List RuleD), atF name i rs < (i + rs.length : Nat) ∧ -1 ≤ atF name i rs
  | i, [] => by simp only [atF, List.length_nil]; omega
  | i, r :: rs => by
    have := atF_lt name (i + 1) rs
    rw [atF]
    simp only [List.length_cons]
    split <;> omega

set_option maxHeartbeats 1600000 in
theorem specRuleAt_any (v : Value) (rs : List RuleD) (name : ByteArray) (w : World) (hn : rs.length ≤ 1048576) (h : RowC 3 RuleE w v rs) :
    Calls Tryz.prog 24 #[.agg #[v], .string name] w fun e w' => e = .returned (.int .i64 (ruleAtI rs name)) ∧ Below w.heap.size w w' := by
  obtain ⟨a, cap, rfl⟩ := h.slice
  have BW : Hid (Below w.heap.size w (w.alloc (.cells #[.slice a rs.length cap] 30))) := (Below.refl _ _).alloc (Nat.le_refl _) _
  have HR : Hid (RowC 3 RuleE (w.alloc (.cells #[.slice a rs.length cap] 30)) (.slice a rs.length cap) rs) := RowC.below RuleE_stable h BW.out
  have box : (w.alloc (.cells #[.slice a rs.length cap] 30)).cell? ⟨w.heap.size, 0, none⟩ = some (.slice a rs.length cap) := box_at _ _ _ 0 _ rfl
  clear h
  go_enter Tryz.func24, Tryz.ntmps24
  go_wp2
  go_loopw [5] (fun iv wr => ∃ k : Nat, iv = .int .i64 k ∧ k ≤ rs.length ∧ atF name k (rs.drop k) = ruleAtI rs name ∧ wr = w.alloc (.cells #[.slice a rs.length cap] 30)) (fun iv _ => rs.length - (intOf iv).toNat)
  case atStart => exact ⟨0, rfl, Nat.zero_le _, rfl, rfl⟩
  case round =>
    obtain ⟨k, rfl, hk, hat, hwr⟩ := hrel
    rw [hwr]
    clear hwr
    have HA : Hid (atF name k (rs.drop k) = ruleAtI rs name) := hat
    clear hat
    generalize w.alloc (.cells #[.slice a rs.length cap] 30) = W at *
    by_cases hlt : k < rs.length
    · have HD : Hid (_ = _) := atF_drop rs name k hlt
      obtain ⟨b, off, vs, rfl, _, hc, hE⟩ := HR.out.at hlt
      obtain ⟨r0, r1, rfl, _, _⟩ := hE
      have n0 : W.cell? ⟨b, off + k * 3, none⟩ = some (.string rs[k].name) := hc 0 (by simp)
      have i4 : (k : Int) < (rs.length : Int) := by omega
      clear hc
      by_cases he : rs[k].name = name
      · have hq := beq_yes he
        have HV : Hid (ruleAtI rs name = (k : Int)) := by rw [Hid, ← HA.out, HD.out, if_pos he]
        go_wp2
        go_ret
        rw [HV.out]
        exact ⟨rfl, BW.out⟩
      · have hq := beq_no he
        have HN : Hid (atF name (k + 1) (rs.drop (k + 1)) = ruleAtI rs name) := by rw [Hid, ← HA.out, HD.out, if_neg he]
        go_wp2
        go_roundw
        case rel => exact ⟨k + 1, by go_num, by omega, HN.out, (by first | rfl | trivial)⟩
        case measure => simp [intOf]; omega
    · obtain rfl : k = rs.length := by omega
      have HV : Hid (ruleAtI rs name = -1) := by rw [Hid, ← HA.out, List.drop_of_length_le (Nat.le_refl _)]; rfl
      go_wp2
      go_ret
      rw [HV.out]
      exact ⟨rfl, BW.out⟩

end Go.Proofs.YtofpoiccghpliaaGreatDoor
