/- The program's partOf: a node that is right, as a part of its own kind. -/
import Derived.Test.YtofpoiccghpliaaGreatDoorXOk
import Derived.Test.YtofpoiccghpliaaGreatDoorEnvImpl
import Derived.Test.YtofpoiccghpliaaGreatDoorXFault2
namespace Go.Proofs.YtofpoiccghpliaaGreatDoor
open Go.RowKit

/-- A right node as the program keeps it. -/
def partV (x : NodeD) : Value :=
  if x.op = 1 then .iface 183 (.agg #[.int .i64 x.num]) else if x.op = 2 then .iface 174 (.agg #[.string x.name]) else if x.op = 3 then .iface 184 (.agg #[])
  else if x.op = 11 then .iface 189 (.agg #[.int .i64 (x.kids.getD 0 0)]) else .iface 187 (.agg #[.int .i64 x.op, .int .i64 (x.kids.getD 0 0), .int .i64 (x.kids.getD 1 0)])
def partR (i : Nat) (x : NodeD) : Value := if nodeB i x = true then .tuple #[partV x, .nilIface] else .tuple #[.nilIface, faultV 1]
theorem partR_no {i : Nat} {x : NodeD} (h : nodeB i x = false) : partR i x = .tuple #[.nilIface, .iface 166 (.agg #[.int .i64 1])] := by rw [partR, h]; rfl
theorem partR_yes {i : Nat} {x : NodeD} (h : nodeB i x = true) : partR i x = .tuple #[partV x, .nilIface] := if_pos h

theorem isAhead_is (k i : Int) (b : Bool) (h : decide (0 ≤ k ∧ k < i) = b) (w : World) :
    Calls Tryz.prog 128 #[.int .i64 k, .int .i64 i] w fun e w' => e = .returned (.bool b) ∧ w' = w := by
  by_cases h0 : 0 ≤ k
  · by_cases h1 : k < i
    · obtain rfl : b = true := by rw [← h]; simp [h0, h1]
      clear h
      go_enter Tryz.func128, Tryz.ntmps128
      go_wp2
      go_ret
      exact ⟨rfl, rfl⟩
    · obtain rfl : b = false := by rw [← h]; simp; omega
      clear h
      go_enter Tryz.func128, Tryz.ntmps128
      go_wp2
      go_ret
      exact ⟨rfl, rfl⟩
  · obtain rfl : b = false := by rw [← h]; simp; omega
    clear h
    go_enter Tryz.func128, Tryz.ntmps128
    go_wp2
    go_ret
    exact ⟨rfl, rfl⟩
theorem ahead_in (k : Int) (i : Nat) : inI k 0 ((i : Int) - 1) = decide (0 ≤ k ∧ k < (i : Int)) := by
  unfold inI
  congr 1
  apply propext
  omega
theorem fields_num {num : Int} {name : ByteArray} {kids : List Int} (h : ¬ (0 ≤ num ∧ num ≤ 99)) : fieldsB ⟨1, num, name, kids⟩ = false := by
  have : inI num 0 99 = false := by unfold inI; exact decide_eq_false h
  rw [fieldsB, if_pos rfl, this]; rfl
theorem name_full {s : ByteArray} (h : nameB s = true) : ¬ s = ⟨#[]⟩ := by
  intro e
  subst e
  revert h
  decide

set_option maxHeartbeats 3200000 in
set_option maxRecDepth 100000 in
theorem partOf_any (i : Nat) (op num : Int) (name : ByteArray) (kids : List Int) (kv : Value) (w : World) (hv : IRow w kv kids) :
    Calls Tryz.prog 121 #[.agg #[.int .i64 op, .int .i64 num, .string name, kv], .int .i64 i] w fun e w' => e = .returned (partR i ⟨op, num, name, kids⟩) ∧ Below w.heap.size w w' := by
  obtain ⟨ak, ck, rfl⟩ := hv.slice
  have HI : Hid (IRow w (.slice ak kids.length ck) kids) := hv
  obtain ⟨L, hL⟩ : ∃ L, kids.length = L := ⟨_, rfl⟩
  have HL : Hid (kids.length = L) := hL
  rw [hL] at HI
  rw [hL]
  clear hv hL
  by_cases h1 : op = 1
  · subst h1
    by_cases hn0 : num < 0
    · have hnz : ¬ num = 0 := by omega
      have hn1 : ¬ 0 ≤ num := by omega
      have HV : Hid (_ = _) := partR_no (i := i) (x := ⟨1, num, name, kids⟩) (nodeB_fields (fields_num (by omega)))
      have BW : Hid (Below w.heap.size w (w.alloc (.cells #[.int .i64 1, .int .i64 num, .string name, .slice ak L ck] 138))) := (Below.refl _ _).alloc (Nat.le_refl _) _
      clear hn0
      go_enter Tryz.func121, Tryz.ntmps121
      go_wp2
      go_ret2
      exact ⟨congrArg _ HV.out.symm, BW.out⟩
    have hn1 : 0 ≤ num := by omega
    by_cases hn2 : 99 < num
    · have hnz : ¬ num = 0 := by omega
      have hn3 : ¬ num ≤ 99 := by omega
      have HV : Hid (_ = _) := partR_no (i := i) (x := ⟨1, num, name, kids⟩) (nodeB_fields (fields_num (by omega)))
      have BW : Hid (Below w.heap.size w (w.alloc (.cells #[.int .i64 1, .int .i64 num, .string name, .slice ak L ck] 138))) := (Below.refl _ _).alloc (Nat.le_refl _) _
      clear hn0 hn2
      go_enter Tryz.func121, Tryz.ntmps121
      go_wp2
      go_ret2
      exact ⟨congrArg _ HV.out.symm, BW.out⟩
    have hn3 : num ≤ 99 := by omega
    have HNum : Hid (inI num 0 99 = true) := by rw [Hid, inI]; exact decide_eq_true ⟨hn1, hn3⟩
    clear hn0 hn2
    by_cases hnm : name = ⟨#[]⟩
    · have hne := beq_empty hnm
      by_cases hk0 : L = 0
      · obtain rfl := hk0
        have HV : Hid (partR i ⟨1, num, name, kids⟩ = .tuple #[.iface 183 (.agg #[.int .i64 num]), .nilIface]) := by
          rw [Hid, partR_yes (nodeB_yes (show inI 1 1 11 = true by decide) (by rw [show (⟨1, num, name, kids⟩ : NodeD).kids.length = 0 from HL.out]; rfl) (by rw [fieldsB, if_pos rfl, HNum.out, if_neg (show ¬ (1 : Int) = 2 by decide), decide_eq_true hnm]; rfl) (fun j hj => by have h0 := HL.out; have hj' : j < kids.length := hj; omega))]
          rfl
        have BW : Hid (Below w.heap.size w (w.alloc (.cells #[.int .i64 1, .int .i64 num, .string name, .slice ak 0 ck] 138))) := (Below.refl _ _).alloc (Nat.le_refl _) _
        clear hnm
        go_enter Tryz.func121, Tryz.ntmps121
        go_wp2
        go_ret2
        exact ⟨congrArg _ HV.out.symm, BW.out⟩
      have hk1 : ¬ (L : Int) = 0 := by omega
      have HN : Hid (nodeB i ⟨1, num, name, kids⟩ = false) := nodeB_len (by show ¬ (kids.length : Int) = 0; rw [HL.out]; exact hk1)
      by_cases hnz : num = 0
      · subst hnz
        have HV : Hid (_ = _) := partR_no HN.out
        have BW : Hid (Below w.heap.size w (w.alloc (.cells #[.int .i64 1, .int .i64 0, .string name, .slice ak L ck] 138))) := (Below.refl _ _).alloc (Nat.le_refl _) _
        clear hnm hk0
        go_enter Tryz.func121, Tryz.ntmps121
        go_wp2
        go_ret2
        exact ⟨congrArg _ HV.out.symm, BW.out⟩
      have HV : Hid (_ = _) := partR_no HN.out
      have BW : Hid (Below w.heap.size w (w.alloc (.cells #[.int .i64 1, .int .i64 num, .string name, .slice ak L ck] 138))) := (Below.refl _ _).alloc (Nat.le_refl _) _
      clear hnm hk0
      go_enter Tryz.func121, Tryz.ntmps121
      go_wp2
      go_ret2
      exact ⟨congrArg _ HV.out.symm, BW.out⟩
    have hne := beq_full hnm
    have HN : Hid (nodeB i ⟨1, num, name, kids⟩ = false) := nodeB_fields (by rw [fieldsB, if_neg (by decide : ¬ (1 : Int) = 2), decide_eq_false hnm, Bool.and_false])
    by_cases hnz : num = 0
    · subst hnz
      have HV : Hid (_ = _) := partR_no HN.out
      have BW : Hid (Below w.heap.size w (w.alloc (.cells #[.int .i64 1, .int .i64 0, .string name, .slice ak L ck] 138))) := (Below.refl _ _).alloc (Nat.le_refl _) _
      clear hnm
      go_enter Tryz.func121, Tryz.ntmps121
      go_wp2
      go_ret2
      exact ⟨congrArg _ HV.out.symm, BW.out⟩
    have HV : Hid (_ = _) := partR_no HN.out
    have BW : Hid (Below w.heap.size w (w.alloc (.cells #[.int .i64 1, .int .i64 num, .string name, .slice ak L ck] 138))) := (Below.refl _ _).alloc (Nat.le_refl _) _
    clear hnm
    go_enter Tryz.func121, Tryz.ntmps121
    go_wp2
    go_ret2
    exact ⟨congrArg _ HV.out.symm, BW.out⟩
  by_cases h2 : op = 2
  · subst h2
    clear h1
    cases hnb : nameB name with
    | false =>
      have HC : Hid (∀ W, _) := implVarName_is name false hnb
      have HN : Hid (∀ m, nodeB i ⟨2, m, name, kids⟩ = false) := fun m => nodeB_fields (by rw [fieldsB, if_pos rfl, hnb, Bool.and_false])
      clear hnb
      by_cases hnz : num = 0
      · subst hnz
        by_cases hnm : name = ⟨#[]⟩
        · have hne := beq_empty hnm
          have HV : Hid (_ = _) := partR_no (HN.out 0)
          have BW : Hid (Below w.heap.size w (w.alloc (.cells #[.int .i64 2, .int .i64 0, .string name, .slice ak L ck] 138))) := (Below.refl _ _).alloc (Nat.le_refl _) _
          clear hnm
          go_enter Tryz.func121, Tryz.ntmps121
          go_wp2_with fail
          refine (HC.out _).mono ?_
          rintro e wq ⟨rfl, hw⟩
          rw [hw]
          clear hw wq
          go_wp2
          go_ret2
          exact ⟨congrArg _ HV.out.symm, BW.out⟩
        · have hne := beq_full hnm
          have HV : Hid (_ = _) := partR_no (HN.out 0)
          have BW : Hid (Below w.heap.size w (w.alloc (.cells #[.int .i64 2, .int .i64 0, .string name, .slice ak L ck] 138))) := (Below.refl _ _).alloc (Nat.le_refl _) _
          clear hnm
          go_enter Tryz.func121, Tryz.ntmps121
          go_wp2_with fail
          refine (HC.out _).mono ?_
          rintro e wq ⟨rfl, hw⟩
          rw [hw]
          clear hw wq
          go_wp2
          go_ret2
          exact ⟨congrArg _ HV.out.symm, BW.out⟩
      · have HV : Hid (_ = _) := partR_no (HN.out num)
        have BW : Hid (Below w.heap.size w (w.alloc (.cells #[.int .i64 2, .int .i64 num, .string name, .slice ak L ck] 138))) := (Below.refl _ _).alloc (Nat.le_refl _) _
        go_enter Tryz.func121, Tryz.ntmps121
        go_wp2_with fail
        refine (HC.out _).mono ?_
        rintro e wq ⟨rfl, hw⟩
        rw [hw]
        clear hw wq
        go_wp2
        go_ret2
        exact ⟨congrArg _ HV.out.symm, BW.out⟩
    | true =>
      have HC : Hid (∀ W, _) := implVarName_is name true hnb
      have hne := beq_full (name_full hnb)
      by_cases hnz : num = 0
      · subst hnz
        by_cases hk0 : L = 0
        · obtain rfl := hk0
          have HV : Hid (partR i ⟨2, 0, name, kids⟩ = .tuple #[.iface 174 (.agg #[.string name]), .nilIface]) := by
            rw [Hid, partR_yes (nodeB_yes (show inI 2 1 11 = true by decide) (by rw [show (⟨2, 0, name, kids⟩ : NodeD).kids.length = 0 from HL.out]; rfl) (by rw [fieldsB, if_neg (show ¬ (2 : Int) = 1 by decide), if_pos rfl, hnb]; rfl) (fun j hj => by have h0 := HL.out; have hj' : j < kids.length := hj; omega))]
            rfl
          have BW : Hid (Below w.heap.size w (w.alloc (.cells #[.int .i64 2, .int .i64 0, .string name, .slice ak 0 ck] 138))) := (Below.refl _ _).alloc (Nat.le_refl _) _
          clear hnb
          go_enter Tryz.func121, Tryz.ntmps121
          go_wp2_with fail
          refine (HC.out _).mono ?_
          rintro e wq ⟨rfl, hw⟩
          rw [hw]
          clear hw wq
          go_wp2
          go_ret2
          exact ⟨congrArg _ HV.out.symm, BW.out⟩
        · have hk1 : ¬ (L : Int) = 0 := by omega
          have HV : Hid (_ = _) := partR_no (i := i) (x := ⟨2, 0, name, kids⟩) (nodeB_len (by show ¬ (kids.length : Int) = 0; rw [HL.out]; exact hk1))
          have BW : Hid (Below w.heap.size w (w.alloc (.cells #[.int .i64 2, .int .i64 0, .string name, .slice ak L ck] 138))) := (Below.refl _ _).alloc (Nat.le_refl _) _
          clear hnb hk0
          go_enter Tryz.func121, Tryz.ntmps121
          go_wp2_with fail
          refine (HC.out _).mono ?_
          rintro e wq ⟨rfl, hw⟩
          rw [hw]
          clear hw wq
          go_wp2
          go_ret2
          exact ⟨congrArg _ HV.out.symm, BW.out⟩
      · have HV : Hid (_ = _) := partR_no (i := i) (x := ⟨2, num, name, kids⟩) (nodeB_fields (by rw [fieldsB, if_neg (show ¬ (2 : Int) = 1 by decide), decide_eq_false hnz, Bool.false_and]))
        have BW : Hid (Below w.heap.size w (w.alloc (.cells #[.int .i64 2, .int .i64 num, .string name, .slice ak L ck] 138))) := (Below.refl _ _).alloc (Nat.le_refl _) _
        clear hnb
        go_enter Tryz.func121, Tryz.ntmps121
        go_wp2_with fail
        refine (HC.out _).mono ?_
        rintro e wq ⟨rfl, hw⟩
        rw [hw]
        clear hw wq
        go_wp2
        go_ret2
        exact ⟨congrArg _ HV.out.symm, BW.out⟩
  by_cases hnz : num = 0
  · subst hnz
    by_cases hnm : name = ⟨#[]⟩
    · have hne := beq_empty hnm
      have HFl : Hid (∀ ks, fieldsB ⟨op, 0, name, ks⟩ = true) := fun ks => by rw [fieldsB, if_neg h1, if_neg h2, decide_eq_true hnm]; rfl
      clear hnm
      by_cases h3 : op = 3
      · subst h3
        clear h1 h2
        by_cases hk0 : L = 0
        · obtain rfl := hk0
          have HV : Hid (partR i ⟨3, 0, name, kids⟩ = .tuple #[.iface 184 (.agg #[]), .nilIface]) := by
            rw [Hid, partR_yes (nodeB_yes (show inI 3 1 11 = true by decide) (by rw [show (⟨3, 0, name, kids⟩ : NodeD).kids.length = 0 from HL.out]; rfl) (HFl.out kids) (fun j hj => by have h0 := HL.out; have hj' : j < kids.length := hj; omega))]
            rfl
          have BW : Hid (Below w.heap.size w (w.alloc (.cells #[.int .i64 3, .int .i64 0, .string name, .slice ak 0 ck] 138))) := (Below.refl _ _).alloc (Nat.le_refl _) _
          go_enter Tryz.func121, Tryz.ntmps121
          go_wp2
          go_ret2
          exact ⟨congrArg _ HV.out.symm, BW.out⟩
        have hk1 : ¬ (L : Int) = 0 := by omega
        have HV : Hid (_ = _) := partR_no (i := i) (x := ⟨3, 0, name, kids⟩) (nodeB_len (by show ¬ (kids.length : Int) = 0; rw [HL.out]; exact hk1))
        have BW : Hid (Below w.heap.size w (w.alloc (.cells #[.int .i64 3, .int .i64 0, .string name, .slice ak L ck] 138))) := (Below.refl _ _).alloc (Nat.le_refl _) _
        clear hk0
        go_enter Tryz.func121, Tryz.ntmps121
        go_wp2
        go_ret2
        exact ⟨congrArg _ HV.out.symm, BW.out⟩
      by_cases h11 : op = 11
      · subst h11
        clear h1 h2 h3
        by_cases hk0 : L = 1
        · obtain rfl := hk0
          obtain ⟨k0, hks⟩ : ∃ k0, kids = [k0] := List.length_eq_one_iff.1 HL.out
          subst hks
          obtain ⟨bk, offk, rfl, hck⟩ := HI.out.at (k := 0) (by simp)
          have BW : Hid (Below w.heap.size w (w.alloc (.cells #[.int .i64 11, .int .i64 0, .string name, .slice (some ⟨bk, offk, none⟩) 1 ck] 138))) := (Below.refl _ _).alloc (Nat.le_refl _) _
          have hck2 := cell_keep hck BW.out
          have hck3 : (w.alloc (.cells #[.int .i64 11, .int .i64 0, .string name, .slice (some ⟨bk, offk, none⟩) 1 ck] 138)).cell? ⟨bk, offk, none⟩ = some (.int .i64 k0) := hck2
          clear hck hck2
          cases hkb : decide (0 ≤ k0 ∧ k0 < (i : Int)) with
          | false =>
            have HC : Hid (∀ W, _) := isAhead_is k0 i false hkb
            have HV : Hid (_ = _) := partR_no (i := i) (x := ⟨11, 0, name, [k0]⟩) (nodeB_kid (j := 0) (by simp) ((ahead_in _ _).trans hkb))
            clear hkb
            go_enter Tryz.func121, Tryz.ntmps121
            go_wp2_with fail
            refine (HC.out _).mono ?_
            rintro e wq ⟨rfl, hw⟩
            rw [hw]
            clear hw wq
            go_wp2
            go_ret2
            exact ⟨congrArg _ HV.out.symm, BW.out⟩
          | true =>
            have HC : Hid (∀ W, _) := isAhead_is k0 i true hkb
            have HV : Hid (partR i ⟨11, 0, name, [k0]⟩ = .tuple #[.iface 189 (.agg #[.int .i64 k0]), .nilIface]) := by
              rw [Hid, partR_yes (nodeB_yes (show inI 11 1 11 = true by decide) rfl (HFl.out [k0]) (fun j hj => by
                have hj' : j < 1 := hj
                obtain rfl : j = 0 := by omega
                exact (ahead_in _ _).trans hkb))]
              rfl
            clear hkb
            go_enter Tryz.func121, Tryz.ntmps121
            go_wp2_with fail
            refine (HC.out _).mono ?_
            rintro e wq ⟨rfl, hw⟩
            rw [hw]
            clear hw wq
            go_wp2
            go_ret2
            exact ⟨congrArg _ HV.out.symm, BW.out⟩
        have hk1 : ¬ (L : Int) = 1 := by omega
        have HV : Hid (_ = _) := partR_no (i := i) (x := ⟨11, 0, name, kids⟩) (nodeB_len (by show ¬ (kids.length : Int) = 1; rw [HL.out]; exact hk1))
        have BW : Hid (Below w.heap.size w (w.alloc (.cells #[.int .i64 11, .int .i64 0, .string name, .slice ak L ck] 138))) := (Below.refl _ _).alloc (Nat.le_refl _) _
        clear hk0
        go_enter Tryz.func121, Tryz.ntmps121
        go_wp2
        go_ret2
        exact ⟨congrArg _ HV.out.symm, BW.out⟩
      by_cases h4 : 4 ≤ op
      · by_cases h10 : op ≤ 10
        · by_cases hk0 : L = 2
          · obtain rfl := hk0
            obtain ⟨k0, k1, hks⟩ : ∃ k0 k1, kids = [k0, k1] := by
              match kids, HL.out with
              | [p, q], _ => exact ⟨p, q, rfl⟩
            subst hks
            obtain ⟨bk, offk, rfl, hck⟩ := HI.out.at (k := 0) (by simp)
            obtain ⟨bk', offk', e, hcl⟩ := HI.out.at (k := 1) (by simp)
            cases e
            have BW : Hid (Below w.heap.size w (w.alloc (.cells #[.int .i64 op, .int .i64 0, .string name, .slice (some ⟨bk, offk, none⟩) 2 ck] 138))) := (Below.refl _ _).alloc (Nat.le_refl _) _
            have hck2 := cell_keep hck BW.out
            have hck3 : (w.alloc (.cells #[.int .i64 op, .int .i64 0, .string name, .slice (some ⟨bk, offk, none⟩) 2 ck] 138)).cell? ⟨bk, offk, none⟩ = some (.int .i64 k0) := hck2
            have hcl2 := cell_keep hcl BW.out
            have hcl3 : (w.alloc (.cells #[.int .i64 op, .int .i64 0, .string name, .slice (some ⟨bk, offk, none⟩) 2 ck] 138)).cell? ⟨bk, offk + 1, none⟩ = some (.int .i64 k1) := hcl2
            have hkn : kidsN op = 2 := by rw [kidsN, if_neg (by omega), if_neg h11]
            have HOp : Hid (inI op 1 11 = true) := by rw [Hid, inI]; exact decide_eq_true ⟨by omega, by omega⟩
            have HKn : Hid (kidsN op = 2) := hkn
            have HNo : Hid (¬ op = 1 ∧ ¬ op = 2 ∧ ¬ op = 3 ∧ ¬ op = 11) := ⟨h1, h2, h3, h11⟩
            clear hck hck2 hcl hcl2 hkn
            cases hkb : decide (0 ≤ k0 ∧ k0 < (i : Int)) with
            | false =>
              have HC : Hid (∀ W, _) := isAhead_is k0 i false hkb
              have HV : Hid (_ = _) := partR_no (i := i) (x := ⟨op, 0, name, [k0, k1]⟩) (nodeB_kid (j := 0) (by simp) ((ahead_in _ _).trans hkb))
              clear hkb
              go_enter Tryz.func121, Tryz.ntmps121
              go_wp2_with fail
              refine (HC.out _).mono ?_
              rintro e wq ⟨rfl, hw⟩
              rw [hw]
              clear hw wq
              go_wp2
              go_ret2
              exact ⟨congrArg _ HV.out.symm, BW.out⟩
            | true =>
              have HC : Hid (∀ W, _) := isAhead_is k0 i true hkb
              cases hkc : decide (0 ≤ k1 ∧ k1 < (i : Int)) with
              | false =>
                have HD : Hid (∀ W, _) := isAhead_is k1 i false hkc
                have HV : Hid (_ = _) := partR_no (i := i) (x := ⟨op, 0, name, [k0, k1]⟩) (nodeB_kid (j := 1) (by simp) ((ahead_in _ _).trans hkc))
                clear hkb hkc
                go_enter Tryz.func121, Tryz.ntmps121
                go_wp2_with fail
                refine (HC.out _).mono ?_
                rintro e wq ⟨rfl, hw⟩
                rw [hw]
                clear hw wq
                go_wp2_with fail
                refine (HD.out _).mono ?_
                rintro e wq ⟨rfl, hw⟩
                rw [hw]
                clear hw wq
                go_wp2
                go_ret2
                exact ⟨congrArg _ HV.out.symm, BW.out⟩
              | true =>
                have HD : Hid (∀ W, _) := isAhead_is k1 i true hkc
                have HV : Hid (partR i ⟨op, 0, name, [k0, k1]⟩ = .tuple #[.iface 187 (.agg #[.int .i64 op, .int .i64 k0, .int .i64 k1]), .nilIface]) := by
                  rw [Hid, partR_yes (nodeB_yes HOp.out (by rw [HKn.out]; rfl) (HFl.out [k0, k1]) (fun j hj => by
                    have hj' : j < 2 := hj
                    by_cases e : j = 0
                    · subst e; exact (ahead_in _ _).trans hkb
                    · obtain rfl : j = 1 := by omega
                      exact (ahead_in _ _).trans hkc))]
                  rw [partV, if_neg HNo.out.1, if_neg HNo.out.2.1, if_neg HNo.out.2.2.1, if_neg HNo.out.2.2.2]
                  rfl
                clear hkb hkc
                go_enter Tryz.func121, Tryz.ntmps121
                go_wp2_with fail
                refine (HC.out _).mono ?_
                rintro e wq ⟨rfl, hw⟩
                rw [hw]
                clear hw wq
                go_wp2_with fail
                refine (HD.out _).mono ?_
                rintro e wq ⟨rfl, hw⟩
                rw [hw]
                clear hw wq
                go_wp2
                go_quiet (fail)
                go_wp2
                go_ret2
                exact ⟨congrArg _ HV.out.symm, bel_drewN BW.out _⟩
          have hk1 : ¬ (L : Int) = 2 := by omega
          have HV : Hid (_ = _) := partR_no (i := i) (x := ⟨op, 0, name, kids⟩) (nodeB_len (by show ¬ (kids.length : Int) = kidsN op; rw [HL.out, kidsN, if_neg (by omega), if_neg h11]; exact hk1))
          have BW : Hid (Below w.heap.size w (w.alloc (.cells #[.int .i64 op, .int .i64 0, .string name, .slice ak L ck] 138))) := (Below.refl _ _).alloc (Nat.le_refl _) _
          clear hk0
          go_enter Tryz.func121, Tryz.ntmps121
          go_wp2
          go_ret2
          exact ⟨congrArg _ HV.out.symm, BW.out⟩
        have HV : Hid (_ = _) := partR_no (i := i) (x := ⟨op, 0, name, kids⟩) (nodeB_op (by unfold inI; exact decide_eq_false (by show ¬ (1 ≤ op ∧ op ≤ 11); omega)))
        have BW : Hid (Below w.heap.size w (w.alloc (.cells #[.int .i64 op, .int .i64 0, .string name, .slice ak L ck] 138))) := (Below.refl _ _).alloc (Nat.le_refl _) _
        go_enter Tryz.func121, Tryz.ntmps121
        go_wp2
        go_ret2
        exact ⟨congrArg _ HV.out.symm, BW.out⟩
      have HV : Hid (_ = _) := partR_no (i := i) (x := ⟨op, 0, name, kids⟩) (nodeB_op (by unfold inI; exact decide_eq_false (by show ¬ (1 ≤ op ∧ op ≤ 11); omega)))
      have BW : Hid (Below w.heap.size w (w.alloc (.cells #[.int .i64 op, .int .i64 0, .string name, .slice ak L ck] 138))) := (Below.refl _ _).alloc (Nat.le_refl _) _
      go_enter Tryz.func121, Tryz.ntmps121
      go_wp2
      go_ret2
      exact ⟨congrArg _ HV.out.symm, BW.out⟩
    have hne := beq_full hnm
    have HV : Hid (_ = _) := partR_no (i := i) (x := ⟨op, 0, name, kids⟩) (nodeB_fields (by rw [fieldsB, if_neg h2, decide_eq_false hnm, Bool.and_false]))
    have BW : Hid (Below w.heap.size w (w.alloc (.cells #[.int .i64 op, .int .i64 0, .string name, .slice ak L ck] 138))) := (Below.refl _ _).alloc (Nat.le_refl _) _
    clear hnm
    go_enter Tryz.func121, Tryz.ntmps121
    go_wp2
    go_ret2
    exact ⟨congrArg _ HV.out.symm, BW.out⟩
  have HV : Hid (_ = _) := partR_no (i := i) (x := ⟨op, num, name, kids⟩) (nodeB_fields (by rw [fieldsB, if_neg h1, decide_eq_false hnz, Bool.false_and]))
  have BW : Hid (Below w.heap.size w (w.alloc (.cells #[.int .i64 op, .int .i64 num, .string name, .slice ak L ck] 138))) := (Below.refl _ _).alloc (Nat.le_refl _) _
  go_enter Tryz.func121, Tryz.ntmps121
  go_wp2
  go_ret2
  exact ⟨congrArg _ HV.out.symm, BW.out⟩

end Go.Proofs.YtofpoiccghpliaaGreatDoor
