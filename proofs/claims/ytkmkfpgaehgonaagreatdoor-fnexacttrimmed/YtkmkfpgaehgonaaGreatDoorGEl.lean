/- The laws' comparison of grammars, bounded by lengths alone (printed by mk/gel.py). -/
import Derived.Test.YtkmkfpgaehgonaaGreatDoorGEq
namespace Go.Proofs.YtkmkfpgaehgonaaGreatDoor
open Go.RowKit
set_option linter.unusedVariables false

def szL (s : ByteArray) : Nat := 0
def symL (x : SymD) : Nat := szL x.text + rowTot exprTot x.args + szL x.bind
def altL (x : List SymD) : Nat := rowTot symL x
def ruleL (x : RuleD) : Nat := szL x.name + rowTot szL x.params + rowTot altL x.alts
def gramL (x : List RuleD) : Nat := rowTot ruleL x
theorem rowTot_le {α : Type} (f g : α → Nat) (xs : List α) (h : ∀ x ∈ xs, f x ≤ g x) : rowTot f xs ≤ rowTot g xs := by
  have : (xs.map f).sum ≤ (xs.map g).sum := by
    induction xs with
    | nil => exact Nat.le_refl _
    | cons x xs ih =>
      simp only [List.map_cons, List.sum_cons]
      have h1 := h x (by simp)
      have h2 := ih (fun y hy => h y (by simp [hy]))
      omega
  unfold rowTot
  omega
theorem symL_le (x : SymD) : symL x ≤ symTot x := by unfold symL symTot szL; omega
theorem altL_le (x : List SymD) : altL x ≤ altTot x := rowTot_le _ _ x (fun y _ => symL_le y)
theorem ruleL_le (x : RuleD) : ruleL x ≤ ruleTot x := by
  have h1 := rowTot_le altL altTot x.alts (fun y _ => altL_le y)
  have h2 := rowTot_le szL ByteArray.size x.params (fun y _ => Nat.zero_le _)
  unfold ruleL ruleTot szL
  unfold szL at h2
  omega
theorem gramL_le (x : List RuleD) : gramL x ≤ grammarTot x := rowTot_le _ _ x (fun y _ => ruleL_le y)
theorem gelStringS (u v : Value) (xs : List ByteArray) (w : World) (hz : rowTot szL xs ≤ 1048576) (h : SRow w u xs) (h' : SRow w v xs) :
    Calls Tryz.prog 69 #[u, v] w fun e w' => e = .returned (.bool true) ∧ Below w.heap.size w w' := by
  refine (eqStringS_same u v xs w (by have := rowTot_len szL xs; omega) h h').mono ?_
  rintro e w' ⟨rfl, q, rfl⟩
  exact ⟨rfl, bel_drewN (Below.refl _ _) q⟩

set_option maxHeartbeats 1600000 in
theorem gelSym (r0 u0 : Value) (x : SymD) (w : World) (hz : symL x ≤ 1048576) (hh0 : RowC 1 ExprE w r0 x.args) (gg0 : RowC 1 ExprE w u0 x.args) :
    Calls Tryz.prog 132 #[.agg #[.int .i64 x.kind, .string x.text, r0, .string x.bind], .agg #[.int .i64 x.kind, .string x.text, u0, .string x.bind]] w fun e w' => e = .returned (.bool true) ∧ Below w.heap.size w w' := by
  have HTt : symL x = szL x.text + rowTot exprTot x.args + szL x.bind := rfl
  have BW : Hid (Below w.heap.size w ((w.alloc (.cells #[.int .i64 x.kind, .string x.text, r0, .string x.bind] 63)).alloc (.cells #[.int .i64 x.kind, .string x.text, u0, .string x.bind] 63))) := ((Below.refl _ _).alloc (Nat.le_refl _) _).alloc (by simp) _
  have eText := beq_yes (rfl : x.text = x.text)
  have eBind := beq_yes (rfl : x.bind = x.bind)
  have R0 : Hid (RowC 1 ExprE w r0 x.args) := hh0
  have U0 : Hid (RowC 1 ExprE w u0 x.args) := gg0
  obtain ⟨aa0, ca0, rfl⟩ := hh0.slice
  obtain ⟨ba0, da0, rfl⟩ := gg0.slice
  clear hh0 gg0
  go_enter Tryz.func132, Tryz.ntmps132
  go_wp2_with fail
  refine (geqExprS _ _ x.args _ (by omega) (RowC.below ExprE_stable R0.out BW.out) (RowC.below ExprE_stable U0.out BW.out)).mono ?_
  rintro e w0 ⟨rfl, hb0⟩
  have B0 : Hid (Below w.heap.size w w0) := BW.out.trans (hb0.mono BW.out.size)
  have K0_3 : w0.cell? ⟨w.heap.size, 3, none⟩ = some (.string x.bind) := cell_keep (box_two w #[.int .i64 x.kind, .string x.text, .slice aa0 x.args.length ca0, .string x.bind] #[.int .i64 x.kind, .string x.text, .slice ba0 x.args.length da0, .string x.bind] 63 63 3 _ rfl) hb0
  have L0_3 : w0.cell? ⟨w.heap.size + 1, 3, none⟩ = some (.string x.bind) := cell_keep (box_two' w #[.int .i64 x.kind, .string x.text, .slice aa0 x.args.length ca0, .string x.bind] #[.int .i64 x.kind, .string x.text, .slice ba0 x.args.length da0, .string x.bind] 63 63 3 _ rfl) hb0
  clear hb0
  go_wp2
  go_ret
  exact ⟨rfl, B0.out⟩

set_option maxHeartbeats 3200000 in
theorem gelSymS (u v : Value) (xs : List (SymD)) (w : World) (hz : rowTot symL xs ≤ 1048576) (h : RowC 4 SymE w u xs) (h' : RowC 4 SymE w v xs) :
    Calls Tryz.prog 114 #[u, v] w fun e w' => e = .returned (.bool true) ∧ Below w.heap.size w w' := by
  have HX : Hid (RowC 4 SymE w u xs) := h
  have HY : Hid (RowC 4 SymE w v xs) := h'
  have hn := rowTot_len symL xs
  obtain ⟨a, cap, rfl⟩ := h.slice
  obtain ⟨a', cap', rfl⟩ := h'.slice
  clear h h'
  go_enter Tryz.func114, Tryz.ntmps114
  go_wp2
  go_loopw [5] (fun iv wr => ∃ k : Nat, iv = .int .i64 k ∧ k ≤ xs.length ∧ Below w.heap.size w wr) (fun iv _ => xs.length - (intOf iv).toNat)
  case atStart => exact ⟨0, rfl, Nat.zero_le _, Below.refl _ _⟩
  case round =>
    obtain ⟨k, rfl, hk, hb⟩ := hrel
    have HB : Hid (Below w.heap.size w wr) := hb
    have HXr : Hid (RowC 4 SymE wr (.slice a xs.length cap) xs) := RowC.below SymE_stable HX.out hb
    have HYr : Hid (RowC 4 SymE wr (.slice a' xs.length cap') xs) := RowC.below SymE_stable HY.out hb
    clear hb
    by_cases hlt : k < xs.length
    · obtain ⟨b, off, vs, rfl, _, hc, hE⟩ := HXr.out.at hlt
      obtain ⟨b', off', vs', rfl, _, hc', hE'⟩ := HYr.out.at hlt
      obtain ⟨r0, rfl, hh0⟩ := hE
      obtain ⟨u0, rfl, gg0⟩ := hE'
      have n0 : wr.cell? ⟨b, off + k * 4, none⟩ = some (.int .i64 xs[k].kind) := hc 0 (by simp)
      have n1 : wr.cell? ⟨b, off + k * 4 + 1, none⟩ = some (.string xs[k].text) := hc 1 (by simp)
      have n2 : wr.cell? ⟨b, off + k * 4 + 2, none⟩ = some (r0) := hc 2 (by simp)
      have n3 : wr.cell? ⟨b, off + k * 4 + 3, none⟩ = some (.string xs[k].bind) := hc 3 (by simp)
      have m0 : wr.cell? ⟨b', off' + k * 4, none⟩ = some (.int .i64 xs[k].kind) := hc' 0 (by simp)
      have m1 : wr.cell? ⟨b', off' + k * 4 + 1, none⟩ = some (.string xs[k].text) := hc' 1 (by simp)
      have m2 : wr.cell? ⟨b', off' + k * 4 + 2, none⟩ = some (u0) := hc' 2 (by simp)
      have m3 : wr.cell? ⟨b', off' + k * 4 + 3, none⟩ = some (.string xs[k].bind) := hc' 3 (by simp)
      have i4 : (k : Int) < (xs.length : Int) := by omega
      have HE : Hid (_) := gelSym r0 u0 xs[k] wr.drew (by have := rowTot_mem symL (List.getElem_mem hlt); omega) (RowC.below ExprE_stable hh0 (bel_drewN (Below.refl _ _) 1)) (RowC.below ExprE_stable gg0 (bel_drewN (Below.refl _ _) 1))
      obtain ⟨aa0, ca0, rfl⟩ := hh0.slice
      obtain ⟨ba0, da0, rfl⟩ := gg0.slice
      clear hc hc' hh0 gg0
      go_wp2
      go_region_held3 (fun W => W.cell? ⟨b, off + k * 4, none⟩ = some (.int .i64 xs[k].kind) ∧ W.cell? ⟨b, off + k * 4 + 1, none⟩ = some (.string xs[k].text) ∧ W.cell? ⟨b, off + k * 4 + 2, none⟩ = some (.slice aa0 xs[k].args.length ca0) ∧ W.cell? ⟨b, off + k * 4 + 3, none⟩ = some (.string xs[k].bind) ∧ W.cell? ⟨b', off' + k * 4, none⟩ = some (.int .i64 xs[k].kind) ∧ W.cell? ⟨b', off' + k * 4 + 1, none⟩ = some (.string xs[k].text) ∧ W.cell? ⟨b', off' + k * 4 + 2, none⟩ = some (.slice ba0 xs[k].args.length da0) ∧ W.cell? ⟨b', off' + k * 4 + 3, none⟩ = some (.string xs[k].bind))
        ((first | exact gkeep8 (by assumption) hb2 | go_keep))
        ((first | (go_at_call 132; refine Calls.mono HE.out ?_; rintro e w2 ⟨rfl, hb2⟩)))
      have HB2 : Hid (Below w.heap.size w w2) := HB.out.trans ((bel_of_drew hb2).mono HB.out.size)
      clear hb2
      go_wp2
      go_roundw
      case rel => exact ⟨k + 1, by go_num, by omega, HB2.out⟩
      case measure => simp [intOf]; omega
    · obtain rfl : k = xs.length := by omega
      go_wp2
      go_ret
      exact ⟨rfl, HB.out⟩

set_option maxHeartbeats 1600000 in
theorem gelAlt (r0 u0 : Value) (x : List SymD) (w : World) (hz : altL x ≤ 1048576) (hh0 : RowC 4 SymE w r0 x) (gg0 : RowC 4 SymE w u0 x) :
    Calls Tryz.prog 87 #[.agg #[r0], .agg #[u0]] w fun e w' => e = .returned (.bool true) ∧ Below w.heap.size w w' := by
  have HTt : altL x = rowTot symL x := rfl
  have BW : Hid (Below w.heap.size w ((w.alloc (.cells #[r0] 60)).alloc (.cells #[u0] 60))) := ((Below.refl _ _).alloc (Nat.le_refl _) _).alloc (by simp) _
  have R0 : Hid (RowC 4 SymE w r0 x) := hh0
  have U0 : Hid (RowC 4 SymE w u0 x) := gg0
  obtain ⟨aa0, ca0, rfl⟩ := hh0.slice
  obtain ⟨ba0, da0, rfl⟩ := gg0.slice
  clear hh0 gg0
  go_enter Tryz.func87, Tryz.ntmps87
  go_wp2_with fail
  refine (gelSymS _ _ x _ (by omega) (RowC.below SymE_stable R0.out BW.out) (RowC.below SymE_stable U0.out BW.out)).mono ?_
  rintro e w0 ⟨rfl, hb0⟩
  have B0 : Hid (Below w.heap.size w w0) := BW.out.trans (hb0.mono BW.out.size)
  clear hb0
  go_wp2
  go_ret
  exact ⟨rfl, B0.out⟩

set_option maxHeartbeats 3200000 in
theorem gelAltS (u v : Value) (xs : List (List SymD)) (w : World) (hz : rowTot altL xs ≤ 1048576) (h : RowC 1 AltE w u xs) (h' : RowC 1 AltE w v xs) :
    Calls Tryz.prog 70 #[u, v] w fun e w' => e = .returned (.bool true) ∧ Below w.heap.size w w' := by
  have HX : Hid (RowC 1 AltE w u xs) := h
  have HY : Hid (RowC 1 AltE w v xs) := h'
  have hn := rowTot_len altL xs
  obtain ⟨a, cap, rfl⟩ := h.slice
  obtain ⟨a', cap', rfl⟩ := h'.slice
  clear h h'
  go_enter Tryz.func70, Tryz.ntmps70
  go_wp2
  go_loopw [5] (fun iv wr => ∃ k : Nat, iv = .int .i64 k ∧ k ≤ xs.length ∧ Below w.heap.size w wr) (fun iv _ => xs.length - (intOf iv).toNat)
  case atStart => exact ⟨0, rfl, Nat.zero_le _, Below.refl _ _⟩
  case round =>
    obtain ⟨k, rfl, hk, hb⟩ := hrel
    have HB : Hid (Below w.heap.size w wr) := hb
    have HXr : Hid (RowC 1 AltE wr (.slice a xs.length cap) xs) := RowC.below AltE_stable HX.out hb
    have HYr : Hid (RowC 1 AltE wr (.slice a' xs.length cap') xs) := RowC.below AltE_stable HY.out hb
    clear hb
    by_cases hlt : k < xs.length
    · obtain ⟨b, off, vs, rfl, _, hc, hE⟩ := HXr.out.at hlt
      obtain ⟨b', off', vs', rfl, _, hc', hE'⟩ := HYr.out.at hlt
      obtain ⟨r0, rfl, hh0⟩ := hE
      obtain ⟨u0, rfl, gg0⟩ := hE'
      have n0 : wr.cell? ⟨b, off + k, none⟩ = some (r0) := by have h := hc 0 (by simp); rw [Nat.mul_one] at h; exact h
      have m0 : wr.cell? ⟨b', off' + k, none⟩ = some (u0) := by have h := hc' 0 (by simp); rw [Nat.mul_one] at h; exact h
      have i4 : (k : Int) < (xs.length : Int) := by omega
      have HE : Hid (_) := gelAlt r0 u0 xs[k] wr.drew (by have := rowTot_mem altL (List.getElem_mem hlt); omega) (RowC.below SymE_stable hh0 (bel_drewN (Below.refl _ _) 1)) (RowC.below SymE_stable gg0 (bel_drewN (Below.refl _ _) 1))
      obtain ⟨aa0, ca0, rfl⟩ := hh0.slice
      obtain ⟨ba0, da0, rfl⟩ := gg0.slice
      clear hc hc' hh0 gg0
      go_wp2
      go_region_held3 (fun W => W.cell? ⟨b, off + k, none⟩ = some (.slice aa0 xs[k].length ca0) ∧ W.cell? ⟨b', off' + k, none⟩ = some (.slice ba0 xs[k].length da0))
        ((first | exact gkeep2 (by assumption) hb2 | go_keep))
        ((first | (go_at_call 87; refine Calls.mono HE.out ?_; rintro e w2 ⟨rfl, hb2⟩)))
      have HB2 : Hid (Below w.heap.size w w2) := HB.out.trans ((bel_of_drew hb2).mono HB.out.size)
      clear hb2
      go_wp2
      go_roundw
      case rel => exact ⟨k + 1, by go_num, by omega, HB2.out⟩
      case measure => simp [intOf]; omega
    · obtain rfl : k = xs.length := by omega
      go_wp2
      go_ret
      exact ⟨rfl, HB.out⟩

set_option maxHeartbeats 1600000 in
theorem gelRule (r0 r1 u0 u1 : Value) (x : RuleD) (w : World) (hz : ruleL x ≤ 1048576) (hh0 : SRow w r0 x.params) (gg0 : SRow w u0 x.params) (hh1 : RowC 1 AltE w r1 x.alts) (gg1 : RowC 1 AltE w u1 x.alts) :
    Calls Tryz.prog 43 #[.agg #[.string x.name, r0, r1], .agg #[.string x.name, u0, u1]] w fun e w' => e = .returned (.bool true) ∧ Below w.heap.size w w' := by
  have HTt : ruleL x = szL x.name + rowTot szL x.params + rowTot altL x.alts := rfl
  have BW : Hid (Below w.heap.size w ((w.alloc (.cells #[.string x.name, r0, r1] 42)).alloc (.cells #[.string x.name, u0, u1] 42))) := ((Below.refl _ _).alloc (Nat.le_refl _) _).alloc (by simp) _
  have eName := beq_yes (rfl : x.name = x.name)
  have R0 : Hid (SRow w r0 x.params) := hh0
  have U0 : Hid (SRow w u0 x.params) := gg0
  obtain ⟨aa0, ca0, rfl⟩ := hh0.slice
  obtain ⟨ba0, da0, rfl⟩ := gg0.slice
  have R1 : Hid (RowC 1 AltE w r1 x.alts) := hh1
  have U1 : Hid (RowC 1 AltE w u1 x.alts) := gg1
  obtain ⟨aa1, ca1, rfl⟩ := hh1.slice
  obtain ⟨ba1, da1, rfl⟩ := gg1.slice
  clear hh0 gg0 hh1 gg1
  go_enter Tryz.func43, Tryz.ntmps43
  go_wp2_with fail
  refine (gelStringS _ _ x.params _ (by omega) (R0.out.below BW.out) (U0.out.below BW.out)).mono ?_
  rintro e w0 ⟨rfl, hb0⟩
  have B0 : Hid (Below w.heap.size w w0) := BW.out.trans (hb0.mono BW.out.size)
  have K0_2 : w0.cell? ⟨w.heap.size, 2, none⟩ = some (.slice aa1 x.alts.length ca1) := cell_keep (box_two w #[.string x.name, .slice aa0 x.params.length ca0, .slice aa1 x.alts.length ca1] #[.string x.name, .slice ba0 x.params.length da0, .slice ba1 x.alts.length da1] 42 42 2 _ rfl) hb0
  have L0_2 : w0.cell? ⟨w.heap.size + 1, 2, none⟩ = some (.slice ba1 x.alts.length da1) := cell_keep (box_two' w #[.string x.name, .slice aa0 x.params.length ca0, .slice aa1 x.alts.length ca1] #[.string x.name, .slice ba0 x.params.length da0, .slice ba1 x.alts.length da1] 42 42 2 _ rfl) hb0
  clear hb0
  go_wp2_with fail
  refine (gelAltS _ _ x.alts _ (by omega) (RowC.below AltE_stable R1.out B0.out) (RowC.below AltE_stable U1.out B0.out)).mono ?_
  rintro e w1 ⟨rfl, hb1⟩
  have B1 : Hid (Below w.heap.size w w1) := B0.out.trans (hb1.mono B0.out.size)
  clear hb1
  go_wp2
  go_ret
  exact ⟨rfl, B1.out⟩

set_option maxHeartbeats 3200000 in
theorem gelRuleS (u v : Value) (xs : List (RuleD)) (w : World) (hz : rowTot ruleL xs ≤ 1048576) (h : RowC 3 RuleE w u xs) (h' : RowC 3 RuleE w v xs) :
    Calls Tryz.prog 22 #[u, v] w fun e w' => e = .returned (.bool true) ∧ Below w.heap.size w w' := by
  have HX : Hid (RowC 3 RuleE w u xs) := h
  have HY : Hid (RowC 3 RuleE w v xs) := h'
  have hn := rowTot_len ruleL xs
  obtain ⟨a, cap, rfl⟩ := h.slice
  obtain ⟨a', cap', rfl⟩ := h'.slice
  clear h h'
  go_enter Tryz.func22, Tryz.ntmps22
  go_wp2
  go_loopw [5] (fun iv wr => ∃ k : Nat, iv = .int .i64 k ∧ k ≤ xs.length ∧ Below w.heap.size w wr) (fun iv _ => xs.length - (intOf iv).toNat)
  case atStart => exact ⟨0, rfl, Nat.zero_le _, Below.refl _ _⟩
  case round =>
    obtain ⟨k, rfl, hk, hb⟩ := hrel
    have HB : Hid (Below w.heap.size w wr) := hb
    have HXr : Hid (RowC 3 RuleE wr (.slice a xs.length cap) xs) := RowC.below RuleE_stable HX.out hb
    have HYr : Hid (RowC 3 RuleE wr (.slice a' xs.length cap') xs) := RowC.below RuleE_stable HY.out hb
    clear hb
    by_cases hlt : k < xs.length
    · obtain ⟨b, off, vs, rfl, _, hc, hE⟩ := HXr.out.at hlt
      obtain ⟨b', off', vs', rfl, _, hc', hE'⟩ := HYr.out.at hlt
      obtain ⟨r0, r1, rfl, hh0, hh1⟩ := hE
      obtain ⟨u0, u1, rfl, gg0, gg1⟩ := hE'
      have n0 : wr.cell? ⟨b, off + k * 3, none⟩ = some (.string xs[k].name) := hc 0 (by simp)
      have n1 : wr.cell? ⟨b, off + k * 3 + 1, none⟩ = some (r0) := hc 1 (by simp)
      have n2 : wr.cell? ⟨b, off + k * 3 + 2, none⟩ = some (r1) := hc 2 (by simp)
      have m0 : wr.cell? ⟨b', off' + k * 3, none⟩ = some (.string xs[k].name) := hc' 0 (by simp)
      have m1 : wr.cell? ⟨b', off' + k * 3 + 1, none⟩ = some (u0) := hc' 1 (by simp)
      have m2 : wr.cell? ⟨b', off' + k * 3 + 2, none⟩ = some (u1) := hc' 2 (by simp)
      have i4 : (k : Int) < (xs.length : Int) := by omega
      have HE : Hid (_) := gelRule r0 r1 u0 u1 xs[k] wr.drew (by have := rowTot_mem ruleL (List.getElem_mem hlt); omega) (hh0.below (bel_drewN (Below.refl _ _) 1)) (gg0.below (bel_drewN (Below.refl _ _) 1)) (RowC.below AltE_stable hh1 (bel_drewN (Below.refl _ _) 1)) (RowC.below AltE_stable gg1 (bel_drewN (Below.refl _ _) 1))
      obtain ⟨aa0, ca0, rfl⟩ := hh0.slice
      obtain ⟨ba0, da0, rfl⟩ := gg0.slice
      obtain ⟨aa1, ca1, rfl⟩ := hh1.slice
      obtain ⟨ba1, da1, rfl⟩ := gg1.slice
      clear hc hc' hh0 gg0 hh1 gg1
      go_wp2
      go_region_held3 (fun W => W.cell? ⟨b, off + k * 3, none⟩ = some (.string xs[k].name) ∧ W.cell? ⟨b, off + k * 3 + 1, none⟩ = some (.slice aa0 xs[k].params.length ca0) ∧ W.cell? ⟨b, off + k * 3 + 2, none⟩ = some (.slice aa1 xs[k].alts.length ca1) ∧ W.cell? ⟨b', off' + k * 3, none⟩ = some (.string xs[k].name) ∧ W.cell? ⟨b', off' + k * 3 + 1, none⟩ = some (.slice ba0 xs[k].params.length da0) ∧ W.cell? ⟨b', off' + k * 3 + 2, none⟩ = some (.slice ba1 xs[k].alts.length da1))
        ((first | exact gkeep6 (by assumption) hb2 | go_keep))
        ((first | (go_at_call 43; refine Calls.mono HE.out ?_; rintro e w2 ⟨rfl, hb2⟩)))
      have HB2 : Hid (Below w.heap.size w w2) := HB.out.trans ((bel_of_drew hb2).mono HB.out.size)
      clear hb2
      go_wp2
      go_roundw
      case rel => exact ⟨k + 1, by go_num, by omega, HB2.out⟩
      case measure => simp [intOf]; omega
    · obtain rfl : k = xs.length := by omega
      go_wp2
      go_ret
      exact ⟨rfl, HB.out⟩

set_option maxHeartbeats 1600000 in
theorem gelGrammar (r0 u0 : Value) (x : List RuleD) (w : World) (hz : gramL x ≤ 1048576) (hh0 : RowC 3 RuleE w r0 x) (gg0 : RowC 3 RuleE w u0 x) :
    Calls Tryz.prog 8 #[.agg #[r0], .agg #[u0]] w fun e w' => e = .returned (.bool true) ∧ Below w.heap.size w w' := by
  have HTt : gramL x = rowTot ruleL x := rfl
  have BW : Hid (Below w.heap.size w ((w.alloc (.cells #[r0] 28)).alloc (.cells #[u0] 28))) := ((Below.refl _ _).alloc (Nat.le_refl _) _).alloc (by simp) _
  have R0 : Hid (RowC 3 RuleE w r0 x) := hh0
  have U0 : Hid (RowC 3 RuleE w u0 x) := gg0
  obtain ⟨aa0, ca0, rfl⟩ := hh0.slice
  obtain ⟨ba0, da0, rfl⟩ := gg0.slice
  clear hh0 gg0
  go_enter Tryz.func8, Tryz.ntmps8
  go_wp2_with fail
  refine (gelRuleS _ _ x _ (by omega) (RowC.below RuleE_stable R0.out BW.out) (RowC.below RuleE_stable U0.out BW.out)).mono ?_
  rintro e w0 ⟨rfl, hb0⟩
  have B0 : Hid (Below w.heap.size w w0) := BW.out.trans (hb0.mono BW.out.size)
  clear hb0
  go_wp2
  go_ret
  exact ⟨rfl, B0.out⟩

end Go.Proofs.YtkmkfpgaehgonaaGreatDoor
