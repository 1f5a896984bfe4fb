/- The program's numOf: what a part is worth, its kids being worth so much. -/
import Derived.Test.YtokgkjfgknjbbaaDoorXNum
import Derived.Test.YtokgkjfgknjbbaaDoorXCome
import Derived.Test.YtokgkjfgknjbbaaDoorXAssert
namespace Go.Proofs.YtokgkjfgknjbbaaDoor
open Go.RowKit

theorem numRes_cap {z : Int} (h : inI z (-9999) 9999 = true) : NumRes (capB (some z)) (.tuple #[.int .i64 z, .nilIface]) := by rw [capB_yes h]; rfl
theorem numRes_no {z : Int} (h : inI z (-9999) 9999 = false) : NumRes (capB (some z)) (.tuple #[.int .i64 0, .iface 92 (.agg #[.int .i64 4])]) := by rw [capB_no h]; exact ⟨4, by decide, rfl⟩
/-- The kids' worth, as it lies in memory. -/
def KidsAt (w : World) (nv : Value) (kids : List Int) (vs : List Int) : Prop :=
  ∃ g n, nv = .slice (some ⟨g, 0, none⟩) n n ∧ vs.length = kids.length ∧ ∀ j (h : j < kids.length), ∃ q : Nat, kids[j] = (q : Int) ∧ q < n ∧ small (vs.getD j 0) ∧ w.cell? ⟨g, q, none⟩ = some (.int .i64 (vs.getD j 0))

set_option maxHeartbeats 3200000 in
set_option maxRecDepth 100000 in
theorem numOf_any {i : Nat} {x : NodeD} (hx : nodeB i x = true) (nv ev : Value) (xs : List VarD) (here : Int) (vs : List Int) (w : World) (hn : xs.length ≤ 2097153) (h : KidsAt w nv x.kids vs) (h' : VRow w ev xs) :
    Calls Tryd.prog 74 #[partV x, nv, ev, .int .i64 here] w fun e w' => (∃ v, e = .returned v ∧ NumRes (capB (nodeV (getB xs) here x vs)) v) ∧ Below w.heap.size w w' := by
  obtain ⟨g, n, rfl, hvl, hk⟩ := h
  have HX : Hid (nodeB i x = true) := hx
  by_cases o1 : x.op = 1
  · have hp : partV x = .iface 116 (.agg #[.int .i64 x.num]) := by rw [partV, if_pos o1]
    have hnf := num_fine hx o1
    have HR : Hid (nodeV (getB xs) here x vs = some x.num) := by rw [Hid, nodeV, if_pos o1]
    have HC : Hid (inI x.num (-9999) 9999 = true) := by rw [Hid, inI]; exact decide_eq_true (by omega)
    rw [hp, HR.out]
    have B0 : Hid (Below w.heap.size w (w.alloc (.cells #[.int .i64 x.num] 116))) := (Below.refl _ _).alloc (Nat.le_refl _) _
    have i1 : ¬ x.num < -9999 := by omega
    have i2 : ¬ 9999 < x.num := by omega
    have a1 := Tryd.ta_num_num
    clear hk h' hp hx o1 hnf
    go_enter Tryd.func74, Tryd.ntmps74
    go_wp2
    go_ret2
    exact ⟨⟨_, rfl, numRes_cap HC.out⟩, B0.out⟩
  by_cases o2 : x.op = 2
  · have hp : partV x = .iface 100 (.agg #[.string x.name]) := by rw [partV, if_neg o1, if_pos o2]
    have HR : Hid (nodeV (getB xs) here x vs = getB xs x.name) := by rw [Hid, nodeV, if_neg o1, if_pos o2]
    rw [hp, HR.out]
    have B0 : Hid (Below w.heap.size w (w.alloc (.cells #[.string x.name] 100))) := (Below.refl _ _).alloc (Nat.le_refl _) _
    have HN : Hid (_) := numNamed_any ev xs x.name _ hn (h'.below B0.out)
    have a1 := Tryd.ta_var_num
    have a2 := Tryd.ta_var_var
    clear hk h' hp hx o1 o2
    cases hgv : getB xs x.name with
    | none =>
      rw [hgv] at HN
      go_enter Tryd.func74, Tryd.ntmps74
      go_wp2_with fail
      refine Calls.mono HN.out ?_
      rintro e w1 ⟨⟨u, rfl, c, hc, rfl⟩, hb⟩
      have HB : Hid (Below w.heap.size w w1) := B0.out.trans (hb.mono B0.out.size)
      have HC : Hid (c ≠ 0) := hc
      clear hb hc
      go_wp2
      go_ret2
      exact ⟨⟨_, rfl, c, HC.out, rfl⟩, HB.out⟩
    | some z =>
      rw [hgv] at HN
      cases hzi : inI z (-9999) 9999 with
      | true =>
        have HC : Hid (inI z (-9999) 9999 = true) := hzi
        rw [inI, decide_eq_true_eq] at hzi
        have i1 : ¬ z < -9999 := by omega
        have i2 : ¬ 9999 < z := by omega
        clear hzi hgv
        go_enter Tryd.func74, Tryd.ntmps74
        go_wp2_with fail
        refine Calls.mono HN.out ?_
        rintro e w1 ⟨⟨u, rfl, rfl⟩, hb⟩
        have HB : Hid (Below w.heap.size w w1) := B0.out.trans (hb.mono B0.out.size)
        clear hb
        go_wp2
        go_ret2
        exact ⟨⟨_, rfl, numRes_cap HC.out⟩, HB.out⟩
      | false =>
        have HC : Hid (inI z (-9999) 9999 = false) := hzi
        rw [inI, decide_eq_false_iff_not] at hzi
        by_cases i1 : z < -9999
        · clear hzi hgv
          go_enter Tryd.func74, Tryd.ntmps74
          go_wp2_with fail
          refine Calls.mono HN.out ?_
          rintro e w1 ⟨⟨u, rfl, rfl⟩, hb⟩
          have HB : Hid (Below w.heap.size w w1) := B0.out.trans (hb.mono B0.out.size)
          clear hb
          go_wp2
          go_ret2
          exact ⟨⟨_, rfl, numRes_no HC.out⟩, HB.out⟩
        · have i2 : 9999 < z := by omega
          clear hzi hgv
          go_enter Tryd.func74, Tryd.ntmps74
          go_wp2_with fail
          refine Calls.mono HN.out ?_
          rintro e w1 ⟨⟨u, rfl, rfl⟩, hb⟩
          have HB : Hid (Below w.heap.size w w1) := B0.out.trans (hb.mono B0.out.size)
          clear hb
          go_wp2
          go_ret2
          exact ⟨⟨_, rfl, numRes_no HC.out⟩, HB.out⟩
  by_cases o3 : x.op = 3
  · have hp : partV x = .iface 118 (.agg #[]) := by rw [partV, if_neg o1, if_neg o2, if_pos o3]
    have HR : Hid (nodeV (getB xs) here x vs = some here) := by rw [Hid, nodeV, if_neg o1, if_neg o2, if_pos o3]
    rw [hp, HR.out]
    have B0 : Hid (Below w.heap.size w (w.alloc (.cells #[] 118))) := (Below.refl _ _).alloc (Nat.le_refl _) _
    have a1 := Tryd.ta_here_num
    have a2 := Tryd.ta_here_var
    have a3 := Tryd.ta_here_here
    clear hk h' hp hx o1 o2 o3
    cases hzi : inI here (-9999) 9999 with
    | true =>
      have HC : Hid (inI here (-9999) 9999 = true) := hzi
      rw [inI, decide_eq_true_eq] at hzi
      have i1 : ¬ here < -9999 := by omega
      have i2 : ¬ 9999 < here := by omega
      clear hzi
      go_enter Tryd.func74, Tryd.ntmps74
      go_wp2
      go_ret2
      exact ⟨⟨_, rfl, numRes_cap HC.out⟩, B0.out⟩
    | false =>
      have HC : Hid (inI here (-9999) 9999 = false) := hzi
      rw [inI, decide_eq_false_iff_not] at hzi
      by_cases i1 : here < -9999
      · clear hzi
        go_enter Tryd.func74, Tryd.ntmps74
        go_wp2
        go_ret2
        exact ⟨⟨_, rfl, numRes_no HC.out⟩, B0.out⟩
      · have i2 : 9999 < here := by omega
        clear hzi
        go_enter Tryd.func74, Tryd.ntmps74
        go_wp2
        go_ret2
        exact ⟨⟨_, rfl, numRes_no HC.out⟩, B0.out⟩
  by_cases o11 : x.op = 11
  · obtain ⟨q, hks, _⟩ := kids_one hx o11
    obtain ⟨q', hq', hqn, hsm, hcell⟩ := hk 0 (by rw [hks]; simp)
    obtain rfl : q = q' := by simp only [hks, List.getElem_cons_zero] at hq'; omega
    have hp : partV x = .iface 123 (.agg #[.int .i64 (q : Int)]) := by rw [partV, if_neg o1, if_neg o2, if_neg o3, if_pos o11, hks]; rfl
    have HR : Hid (nodeV (getB xs) here x vs = some (flagI (decide (vs.getD 0 0 = 0)))) := by rw [Hid, nodeV, if_neg o1, if_neg o2, if_neg o3, if_pos o11]
    rw [hp, HR.out]
    have B0 : Hid (Below w.heap.size w (w.alloc (.cells #[.int .i64 (q : Int)] 123))) := (Below.refl _ _).alloc (Nat.le_refl _) _
    have hc2 := cell_keep hcell B0.out
    have a1 := Tryd.ta_not_num
    have a2 := Tryd.ta_not_var
    have a3 := Tryd.ta_not_here
    have a4 := Tryd.ta_not_pair
    have a5 := Tryd.ta_not_not
    have i4 : (q : Int) < (n : Int) := by omega
    generalize vs.getD 0 0 = z at *
    clear hk h' hp hx o1 o2 o3 o11 hq' hsm hcell hks hvl
    cases hz : z == 0 with
    | true =>
      have HE : Hid (capB (some (flagI (decide (z = 0)))) = some 1) := by
        have e : z = 0 := by simpa using hz
        rw [Hid, decide_eq_true e]; rfl
      have HFl : Hid (∀ (W : World), _) := fun W => oneIf_any true W
      rw [HE.out]
      go_enter Tryd.func74, Tryd.ntmps74
      go_wp2_with fail
      refine (HFl.out _).mono ?_
      rw [show flagI true = 1 from rfl]
      rintro e wq ⟨rfl, hw⟩
      rw [hw]
      clear hw wq
      go_wp2
      go_ret2
      exact ⟨⟨_, rfl, rfl⟩, B0.out⟩
    | false =>
      have HE : Hid (capB (some (flagI (decide (z = 0)))) = some 0) := by
        have e : ¬ z = 0 := by simpa using hz
        rw [Hid, decide_eq_false e]; rfl
      have HFl : Hid (∀ (W : World), _) := fun W => oneIf_any false W
      rw [HE.out]
      go_enter Tryd.func74, Tryd.ntmps74
      go_wp2_with fail
      refine (HFl.out _).mono ?_
      rw [show flagI false = 0 from rfl]
      rintro e wq ⟨rfl, hw⟩
      rw [hw]
      clear hw wq
      go_wp2
      go_ret2
      exact ⟨⟨_, rfl, rfl⟩, B0.out⟩
  obtain ⟨q, r, hks, _, _, ho4⟩ := kids_two hx o1 o2 o3 o11
  have ho10 : x.op ≤ 10 := by have := (node_parts hx).1.2; omega
  obtain ⟨q', hq', hqn, hsq, hcq⟩ := hk 0 (by rw [hks]; simp)
  obtain ⟨r', hr', hrn, hsr, hcr⟩ := hk 1 (by rw [hks]; simp)
  obtain rfl : q = q' := by simp only [hks, List.getElem_cons_zero] at hq'; omega
  obtain rfl : r = r' := by simp only [hks, List.getElem_cons_succ, List.getElem_cons_zero] at hr'; omega
  have hp : partV x = .iface 121 (.agg #[.int .i64 x.op, .int .i64 (q : Int), .int .i64 (r : Int)]) := by rw [partV, if_neg o1, if_neg o2, if_neg o3, if_neg o11, hks]; rfl
  have HR : Hid (nodeV (getB xs) here x vs = twoB x.op (vs.getD 0 0) (vs.getD 1 0)) := by rw [Hid, nodeV, if_neg o1, if_neg o2, if_neg o3, if_neg o11]
  rw [hp, HR.out]
  have B0 : Hid (Below w.heap.size w (w.alloc (.cells #[.int .i64 x.op, .int .i64 (q : Int), .int .i64 (r : Int)] 121))) := (Below.refl _ _).alloc (Nat.le_refl _) _
  have hc2 := cell_keep hcq B0.out
  have hc3 := cell_keep hcr B0.out
  have a1 := Tryd.ta_pair_num
  have a2 := Tryd.ta_pair_var
  have a3 := Tryd.ta_pair_here
  have a4 := Tryd.ta_pair_pair
  have i4 : (q : Int) < (n : Int) := by omega
  have i5 : (r : Int) < (n : Int) := by omega
  have HRk : Hid (∀ W : World, _) := fun W => reckoned_any x.op (vs.getD 0 0) (vs.getD 1 0) W ho4 ho10 hsq hsr
  generalize vs.getD 0 0 = y at *
  generalize vs.getD 1 0 = z at *
  clear hk h' hp hx o1 o2 o3 o11 hq' hr' hsq hsr hcq hcr hks ho4 ho10 hvl
  cases htw : twoB x.op y z with
  | none =>
    rw [htw, show reckV none = .tuple #[.int .i64 0, .iface 92 (.agg #[.int .i64 3])] from rfl] at HRk
    clear htw
    go_enter Tryd.func74, Tryd.ntmps74
    go_wp2
    go_quiet (first | (go_at_call 104; refine Calls.quiet_of_same (HRk.out _)))
    go_wp2
    go_ret2
    exact ⟨⟨_, rfl, 3, by decide, rfl⟩, bel_drewN B0.out _⟩
  | some u =>
    rw [htw, show reckV (some u) = .tuple #[.int .i64 u, .nilIface] from rfl] at HRk
    clear htw
    cases hzi : inI u (-9999) 9999 with
    | true =>
      have HC : Hid (inI u (-9999) 9999 = true) := hzi
      rw [inI, decide_eq_true_eq] at hzi
      have i1 : ¬ u < -9999 := by omega
      have i2 : ¬ 9999 < u := by omega
      clear hzi
      go_enter Tryd.func74, Tryd.ntmps74
      go_wp2
      go_quiet (first | (go_at_call 104; refine Calls.quiet_of_same (HRk.out _)))
      go_wp2
      go_ret2
      exact ⟨⟨_, rfl, numRes_cap HC.out⟩, bel_drewN B0.out _⟩
    | false =>
      have HC : Hid (inI u (-9999) 9999 = false) := hzi
      rw [inI, decide_eq_false_iff_not] at hzi
      by_cases i1 : u < -9999
      · clear hzi
        go_enter Tryd.func74, Tryd.ntmps74
        go_wp2
        go_quiet (first | (go_at_call 104; refine Calls.quiet_of_same (HRk.out _)))
        go_wp2
        go_ret2
        exact ⟨⟨_, rfl, numRes_no HC.out⟩, bel_drewN B0.out _⟩
      · have i2 : 9999 < u := by omega
        clear hzi
        go_enter Tryd.func74, Tryd.ntmps74
        go_wp2
        go_quiet (first | (go_at_call 104; refine Calls.quiet_of_same (HRk.out _)))
        go_wp2
        go_ret2
        exact ⟨⟨_, rfl, numRes_no HC.out⟩, bel_drewN B0.out _⟩
end Go.Proofs.YtokgkjfgknjbbaaDoor
