/- The program's oneIf, reckoned, numNamed and numOf: what a part is worth. -/
import Derived.Test.YtokgkjfgknjbbaaDoorXParts
import Derived.Test.YtokgkjfgknjbbaaDoorXEval
namespace Go.Proofs.YtokgkjfgknjbbaaDoor
open Go.RowKit

/-- A number and no error; or 0 and an error that is one. -/
def NumRes : Option Int → Value → Prop
  | some z, v => v = .tuple #[.int .i64 z, .nilIface]
  | none, v => ∃ c, c ≠ 0 ∧ v = .tuple #[.int .i64 0, .iface 92 (.agg #[.int .i64 c])]

/-- What reckoned gives. -/
def reckV : Option Int → Value
  | some z => .tuple #[.int .i64 z, .nilIface]
  | none => .tuple #[.int .i64 0, .iface 92 (.agg #[.int .i64 3])]
theorem oneIf_any (b : Bool) (w : World) : Calls Tryd.prog 105 #[.bool b] w fun e w' => e = .returned (.int .i64 (flagI b)) ∧ w' = w := by
  cases b with
  | false =>
    go_enter Tryd.func105, Tryd.ntmps105
    go_wp2
    go_ret
    exact ⟨rfl, rfl⟩
  | true =>
    go_enter Tryd.func105, Tryd.ntmps105
    go_wp2
    go_ret
    exact ⟨rfl, rfl⟩

set_option maxHeartbeats 1600000 in
theorem reckoned_any (op a b : Int) (w : World) (h4 : 4 ≤ op) (h10 : op ≤ 10) (ha : small a) (hb : small b) : Calls Tryd.prog 104 #[.int .i64 op, .int .i64 a, .int .i64 b] w fun e w' => e = .returned (reckV (twoB op a b)) ∧ w' = w := by
  have hm := mul_small ha hb
  have hq := tdiv_small (b := b) ha
  have hwm : IntKind.i64.wrap (a * b) = a * b := by rw [IntKind.wrap_i64]; omega
  have hwq : IntKind.i64.wrap (a.tdiv b) = a.tdiv b := by rw [IntKind.wrap_i64]; omega
  have HFl : Hid (∀ (c : Bool) (W : World), _) := fun c W => oneIf_any c W
  obtain ⟨ha1, ha2⟩ := ha
  obtain ⟨hb1, hb2⟩ := hb
  clear hm hq
  by_cases o4 : op = 4
  · subst o4
    have HE : Hid (twoB 4 a b = some (a + b)) := rfl
    clear h4 h10
    go_enter Tryd.func104, Tryd.ntmps104
    go_wp2
    go_ret2
    rw [HE.out]
    exact ⟨rfl, rfl⟩
  by_cases o5 : op = 5
  · subst o5
    have HE : Hid (twoB 5 a b = some (a - b)) := rfl
    clear h4 h10
    go_enter Tryd.func104, Tryd.ntmps104
    go_wp2
    go_ret2
    rw [HE.out]
    exact ⟨rfl, rfl⟩
  by_cases o6 : op = 6
  · subst o6
    have HE : Hid (twoB 6 a b = some (a * b)) := rfl
    clear h4 h10
    go_enter Tryd.func104, Tryd.ntmps104
    go_wp2
    go_ret2
    rw [HE.out]
    exact ⟨rfl, rfl⟩
  by_cases o7 : op = 7
  · subst o7
    clear h4 h10
    by_cases hz : b = 0
    · have HE : Hid (twoB 7 a b = none) := by simp [Hid, twoB, hz]
      go_enter Tryd.func104, Tryd.ntmps104
      go_wp2
      go_ret2
      rw [HE.out]
      exact ⟨rfl, rfl⟩
    · have HE : Hid (twoB 7 a b = some (a.tdiv b)) := by simp [Hid, twoB, hz]
      go_enter Tryd.func104, Tryd.ntmps104
      go_wp2
      go_ret2
      rw [HE.out]
      exact ⟨rfl, rfl⟩
  by_cases o8 : op = 8
  · subst o8
    have HE : Hid (twoB 8 a b = some (flagI (decide (a < b)))) := rfl
    clear h4 h10
    go_enter Tryd.func104, Tryd.ntmps104
    go_wp2_with fail
    refine (HFl.out _ _).mono ?_
    rintro e wq ⟨rfl, hw⟩
    rw [hw]
    clear hw wq
    go_wp2
    go_ret2
    rw [HE.out]
    exact ⟨rfl, rfl⟩
  by_cases o9 : op = 9
  · subst o9
    have HE : Hid (twoB 9 a b = some (flagI (decide (a = b)))) := rfl
    clear h4 h10
    go_enter Tryd.func104, Tryd.ntmps104
    go_wp2_with fail
    refine (HFl.out _ _).mono ?_
    rintro e wq ⟨rfl, hw⟩
    rw [hw]
    clear hw wq
    go_wp2
    go_ret2
    rw [HE.out]
    exact ⟨rfl, rfl⟩
  obtain rfl : op = 10 := by omega
  clear h4 h10 o4 o5 o6 o7 o8 o9
  have HE : Hid (twoB 10 a b = some (flagI (decide (a ≠ 0) && decide (b ≠ 0)))) := rfl
  by_cases z1 : a = 0
  · have HE2 : Hid ((decide (a ≠ 0) && decide (b ≠ 0)) = false) := by simp [Hid, z1]
    rw [HE.out, HE2.out]
    go_enter Tryd.func104, Tryd.ntmps104
    go_wp2_with fail
    refine (HFl.out _ _).mono ?_
    rintro e wq ⟨rfl, hw⟩
    rw [hw]
    clear hw wq
    go_wp2
    go_ret2
    exact ⟨rfl, rfl⟩
  · by_cases z2 : b = 0
    · have HE2 : Hid ((decide (a ≠ 0) && decide (b ≠ 0)) = false) := by simp [Hid, z2]
      rw [HE.out, HE2.out]
      go_enter Tryd.func104, Tryd.ntmps104
      go_wp2_with fail
      refine (HFl.out _ _).mono ?_
      rintro e wq ⟨rfl, hw⟩
      rw [hw]
      clear hw wq
      go_wp2
      go_ret2
      exact ⟨rfl, rfl⟩
    · have HE2 : Hid ((decide (a ≠ 0) && decide (b ≠ 0)) = true) := by simp [Hid, z1, z2]
      have HE3 : Hid ((a != 0 && b != 0) = true) := by simp [Hid, z1, z2]
      rw [HE.out, HE2.out]
      go_enter Tryd.func104, Tryd.ntmps104
      go_wp2_with fail
      refine (HFl.out _ _).mono ?_
      rintro e wq ⟨rfl, hw⟩
      rw [hw]
      clear hw wq
      go_wp2
      go_ret2
      exact ⟨congrArg (fun x => Ending.returned (Value.tuple #[.int .i64 (flagI x), .nilIface])) HE3.out, rfl⟩

theorem numNamed_any (v : Value) (xs : List VarD) (name : ByteArray) (w : World) (hn : xs.length ≤ 2097153) (h : VRow w v xs) :
    Calls Tryd.prog 103 #[v, .string name] w fun e w' => (∃ v, e = .returned v ∧ NumRes (getB xs name) v) ∧ Below w.heap.size w w' := by
  have HG : Hid (_) := implEnvGet_any v xs name w hn h
  cases hgv : getB xs name with
  | none =>
    have hgg : getVal xs name = .tuple #[.int .i64 0, .bool false] := by unfold getVal; rw [hgv]
    rw [hgg] at HG
    clear hgv hgg h
    go_enter Tryd.func103, Tryd.ntmps103
    go_wp2_with fail
    refine Calls.mono HG.out ?_
    rintro e w1 ⟨rfl, hb⟩
    have HB : Hid (Below w.heap.size w w1) := hb
    clear hb
    go_wp2
    go_ret2
    exact ⟨⟨_, rfl, 2, by decide, rfl⟩, HB.out⟩
  | some z =>
    have hgg : getVal xs name = .tuple #[.int .i64 z, .bool true] := by unfold getVal; rw [hgv]
    rw [hgg] at HG
    clear hgv hgg h
    go_enter Tryd.func103, Tryd.ntmps103
    go_wp2_with fail
    refine Calls.mono HG.out ?_
    rintro e w1 ⟨rfl, hb⟩
    have HB : Hid (Below w.heap.size w w1) := hb
    clear hb
    go_wp2
    go_ret2
    exact ⟨⟨_, rfl, rfl⟩, HB.out⟩

end Go.Proofs.YtokgkjfgknjbbaaDoor
