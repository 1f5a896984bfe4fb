/- The laws' marks on rows of structs: how many are marked, and what is kept (printed by mk/marks.py). -/
/- The laws' marks on a Grammar and a Chart: how many are marked, and what is kept. -/
import Derived.Test.YtofpoiccghpliaaGreatDoorMK2
namespace Go.Proofs.YtofpoiccghpliaaGreatDoor
open Go.RowKit
set_option linter.unusedVariables false

set_option maxHeartbeats 3200000 in
set_option maxRecDepth 100000 in
theorem mkExprS {B H n c : Nat} (v : Value) (k : Int) (w : World) (hk0 : 0 < k) (hk : k + c ≤ 100000000000) (h : Shp tau B H (n + 3) (.row 107) w v c) :
    Calls Tryz.prog 64 #[v, .int .i64 k] w fun e w' => e = .returned (.int .i64 (k + c)) ∧ Mk tau B H w w' := by
  obtain ⟨a, len, cap, cs, ns, rfl, h1, hcl, hnl, rfl, hH, hel⟩ := Shp.rows (n := n + 2) h
  have et : (tau 107).length = 1 := rfl
  rw [et] at hcl
  have H1 : Hid (w.ownsRow B 107 (tau 107).length (.slice a len cap) len cs) := h1
  have HH : Hid (∀ k, (Value.slice a len cap).ownBlock = some k → k < H) := hH
  have HEl : Hid (∀ i (h : i < cs.length) (h' : i < ns.length), ∃ k, (tau 107)[i % (tau 107).length]? = some k ∧ Shp tau B H (n + 2) k w cs[i] ns[i]) := hel
  have HCl : Hid (cs.length = len * 1) := hcl
  have HNl : Hid (ns.length = cs.length) := hnl
  have hlen : len ≤ 9223372036854775807 := by
    rcases h1.2 with ⟨h', h0⟩ | ⟨g, cap', cur, h', hB, hc, hle, hmx, _⟩
    · omega
    · unfold maxLen at hmx
      omega
  clear h h1 hH hel et hcl hnl
  go_enter Tryz.func64, Tryz.ntmps64
  go_wp2
  go_loopw [1, 5] (fun kv iv wr => ∃ j : Nat, iv = .int .i64 j ∧ j ≤ len ∧ kv = .int .i64 (k + ((ns.take (j * 1)).sum : Nat)) ∧ Mk tau B H w wr) (fun _ iv _ => len - (intOf iv).toNat)
  case atStart => exact ⟨0, rfl, Nat.zero_le _, by simp, Mk.refl _⟩
  case round =>
    obtain ⟨j, rfl, hj, rfl, hm⟩ := hrel
    have M0 : Hid (Mk tau B H w wr) := hm
    clear hm
    by_cases hlt : j < len
    · have i4 : (j : Int) < (len : Int) := by omega
      have hc0 : j * 1 + 0 < cs.length := by rw [HCl.out]; omega
      have hn0 : j * 1 + 0 < ns.length := by rw [HNl.out]; exact hc0
      obtain ⟨kd0, hkd0, hs0⟩ := HEl.out _ hc0 hn0
      have hm0 : (j * 1 + 0) % (tau 107).length = 0 := mod_add j 1 0 (by omega)
      have hkk0 : kd0 = .row 138 := by rw [hm0] at hkd0; exact (Option.some.inj hkd0).symm
      subst hkk0
      have HS0 : Hid (Shp tau B H (n + 2) (.row 138) w cs[j * 1 + 0] ns[j * 1 + 0]) := hs0
      have t0 : (ns.take (j * 1 + 1)).sum = (ns.take (j * 1)).sum + ns[j * 1 + 0] := tk_next ns (j * 1 + 0) hn0
      have hsum : (ns.take ((j + 1) * 1)).sum = (ns.take (j * 1)).sum + (ns[j * 1 + 0]) := by
        rw [show (j + 1) * 1 = j * 1 + 1 by omega]
        omega
      have hle := tk_le ns ((j + 1) * 1)
      rw [hsum] at hle
      have HSum : Hid ((ns.take ((j + 1) * 1)).sum = (ns.take (j * 1)).sum + (ns[j * 1 + 0])) := hsum
      obtain ⟨z, hz⟩ : ∃ z : Int, z = k + ((ns.take (j * 1)).sum : Nat) := ⟨_, rfl⟩
      rw [← hz]
      have hz0 : 0 < z := by omega
      have HZ : Hid (z = k + ((ns.take (j * 1)).sum : Nat)) := hz
      have hzt : z + ((ns[j * 1 + 0] : Nat) : Int) ≤ 100000000000 := by omega
      obtain ⟨x0, hx0⟩ : ∃ x0 : Nat, x0 = ns[j * 1 + 0] := ⟨_, rfl⟩
      rw [← hx0] at HS0 hzt HSum
      obtain ⟨rv0, hrv0⟩ : ∃ rv0 : Value, rv0 = cs[j * 1 + 0] := ⟨_, rfl⟩
      rw [← hrv0] at HS0
      clear hsum hle hz t0 hkd0 hs0  hx0
      obtain ⟨g, cur0, u0, rfl, hB0, hcur0, hcell0, hfz0, hrow0⟩ := M0.out.cell H1.out hc0
      rw [Nat.add_zero, Nat.mul_one] at hcell0 hfz0
      have hrr0 : u0 = rv0 := by rw [hrv0]; exact hrow0 _ (by rw [hm0]; rfl)
      rw [hrr0] at hcell0
      obtain ⟨ar0, lr0, cr0, er0⟩ : ∃ a l c, rv0 = .slice a l c := by
        obtain ⟨a, l, c, _, _, e, _⟩ := Shp.rows (n := n + 1) HS0.out
        exact ⟨a, l, c, e⟩
      subst er0
      have HC0 : Hid (∀ _ : Unit, _) := fun _ => mkExNodeS (n := n + 0) (.slice ar0 lr0 cr0) (z) wr (by omega) (by omega) (M0.out.kp _ _ _ _ HS0.out)
      clear hcur0 hrow0 hrr0 hrv0
      go_wp2_with fail
      refine (HC0.out ()).mono ?_
      rintro e w1 ⟨rfl, hmk0⟩
      have M1 : Hid (Mk tau B H w w1) := M0.out.trans hmk0
      clear hmk0 HC0
      go_wp2
      go_roundw
      case rel => exact ⟨j + 1, by go_num, by omega, by rw [HSum.out]; have := HZ.out; congr 1; omega, M1.out⟩
      case measure => simp [intOf]; omega
    · obtain rfl : j = len := by omega
      have HV : Hid ((ns.take (j * 1)).sum = ns.sum) := by rw [Hid, List.take_of_length_le (by rw [HNl.out, HCl.out]; exact Nat.le_refl _)]
      rw [HV.out]
      have i4 : ¬ (j : Int) < (j : Int) := by omega
      go_wp2
      go_ret
      exact ⟨rfl, M0.out⟩

set_option maxHeartbeats 3200000 in
set_option maxRecDepth 100000 in
theorem mkSymS {B H n c : Nat} (v : Value) (k : Int) (w : World) (hk0 : 0 < k) (hk : k + c ≤ 100000000000) (h : Shp tau B H (n + 4) (.row 66) w v c) :
    Calls Tryz.prog 47 #[v, .int .i64 k] w fun e w' => e = .returned (.int .i64 (k + c)) ∧ Mk tau B H w w' := by
  obtain ⟨a, len, cap, cs, ns, rfl, h1, hcl, hnl, rfl, hH, hel⟩ := Shp.rows (n := n + 3) h
  have et : (tau 66).length = 4 := rfl
  rw [et] at hcl
  have H1 : Hid (w.ownsRow B 66 (tau 66).length (.slice a len cap) len cs) := h1
  have HH : Hid (∀ k, (Value.slice a len cap).ownBlock = some k → k < H) := hH
  have HEl : Hid (∀ i (h : i < cs.length) (h' : i < ns.length), ∃ k, (tau 66)[i % (tau 66).length]? = some k ∧ Shp tau B H (n + 3) k w cs[i] ns[i]) := hel
  have HCl : Hid (cs.length = len * 4) := hcl
  have HNl : Hid (ns.length = cs.length) := hnl
  have hlen : len ≤ 9223372036854775807 := by
    rcases h1.2 with ⟨h', h0⟩ | ⟨g, cap', cur, h', hB, hc, hle, hmx, _⟩
    · omega
    · unfold maxLen at hmx
      omega
  clear h h1 hH hel et hcl hnl
  go_enter Tryz.func47, Tryz.ntmps47
  go_wp2
  go_loopw [1, 5] (fun kv iv wr => ∃ j : Nat, iv = .int .i64 j ∧ j ≤ len ∧ kv = .int .i64 (k + ((ns.take (j * 4)).sum : Nat)) ∧ Mk tau B H w wr) (fun _ iv _ => len - (intOf iv).toNat)
  case atStart => exact ⟨0, rfl, Nat.zero_le _, by simp, Mk.refl _⟩
  case round =>
    obtain ⟨j, rfl, hj, rfl, hm⟩ := hrel
    have M0 : Hid (Mk tau B H w wr) := hm
    clear hm
    by_cases hlt : j < len
    · have i4 : (j : Int) < (len : Int) := by omega
      have hc0 : j * 4 + 0 < cs.length := by rw [HCl.out]; omega
      have hn0 : j * 4 + 0 < ns.length := by rw [HNl.out]; exact hc0
      obtain ⟨kd0, hkd0, hs0⟩ := HEl.out _ hc0 hn0
      have hm0 : (j * 4 + 0) % (tau 66).length = 0 := mod_add j 4 0 (by omega)
      have hkk0 : kd0 = .int := by rw [hm0] at hkd0; exact (Option.some.inj hkd0).symm
      subst hkk0
      have en0 : ns[j * 4 + 0] = 1 := by cases n <;> exact hs0.2
      have hc1 : j * 4 + 1 < cs.length := by rw [HCl.out]; omega
      have hn1 : j * 4 + 1 < ns.length := by rw [HNl.out]; exact hc1
      obtain ⟨kd1, hkd1, hs1⟩ := HEl.out _ hc1 hn1
      have hm1 : (j * 4 + 1) % (tau 66).length = 1 := mod_add j 4 1 (by omega)
      have hkk1 : kd1 = .str := by rw [hm1] at hkd1; exact (Option.some.inj hkd1).symm
      subst hkk1
      have en1 : ns[j * 4 + 1] = 1 := by cases n <;> exact hs1.2
      have hc2 : j * 4 + 2 < cs.length := by rw [HCl.out]; omega
      have hn2 : j * 4 + 2 < ns.length := by rw [HNl.out]; exact hc2
      obtain ⟨kd2, hkd2, hs2⟩ := HEl.out _ hc2 hn2
      have hm2 : (j * 4 + 2) % (tau 66).length = 2 := mod_add j 4 2 (by omega)
      have hkk2 : kd2 = .row 107 := by rw [hm2] at hkd2; exact (Option.some.inj hkd2).symm
      subst hkk2
      have HS2 : Hid (Shp tau B H (n + 3) (.row 107) w cs[j * 4 + 2] ns[j * 4 + 2]) := hs2
      have hc3 : j * 4 + 3 < cs.length := by rw [HCl.out]; omega
      have hn3 : j * 4 + 3 < ns.length := by rw [HNl.out]; exact hc3
      obtain ⟨kd3, hkd3, hs3⟩ := HEl.out _ hc3 hn3
      have hm3 : (j * 4 + 3) % (tau 66).length = 3 := mod_add j 4 3 (by omega)
      have hkk3 : kd3 = .str := by rw [hm3] at hkd3; exact (Option.some.inj hkd3).symm
      subst hkk3
      have en3 : ns[j * 4 + 3] = 1 := by cases n <;> exact hs3.2
      have t0 : (ns.take (j * 4 + 1)).sum = (ns.take (j * 4)).sum + ns[j * 4 + 0] := tk_next ns (j * 4 + 0) hn0
      rw [en0] at t0
      have t1 : (ns.take (j * 4 + 2)).sum = (ns.take (j * 4 + 1)).sum + ns[j * 4 + 1] := tk_next ns (j * 4 + 1) hn1
      rw [en1] at t1
      have t2 : (ns.take (j * 4 + 3)).sum = (ns.take (j * 4 + 2)).sum + ns[j * 4 + 2] := tk_next ns (j * 4 + 2) hn2
      have t3 : (ns.take (j * 4 + 4)).sum = (ns.take (j * 4 + 3)).sum + ns[j * 4 + 3] := tk_next ns (j * 4 + 3) hn3
      rw [en3] at t3
      have hsum : (ns.take ((j + 1) * 4)).sum = (ns.take (j * 4)).sum + (1 + 1 + ns[j * 4 + 2] + 1) := by
        rw [show (j + 1) * 4 = j * 4 + 4 by omega]
        omega
      have hle := tk_le ns ((j + 1) * 4)
      rw [hsum] at hle
      have HSum : Hid ((ns.take ((j + 1) * 4)).sum = (ns.take (j * 4)).sum + (1 + 1 + ns[j * 4 + 2] + 1)) := hsum
      obtain ⟨z, hz⟩ : ∃ z : Int, z = k + ((ns.take (j * 4)).sum : Nat) := ⟨_, rfl⟩
      rw [← hz]
      have hz0 : 0 < z := by omega
      have HZ : Hid (z = k + ((ns.take (j * 4)).sum : Nat)) := hz
      have hzt : z + ((1 + 1 + ns[j * 4 + 2] + 1 : Nat) : Int) ≤ 100000000000 := by omega
      obtain ⟨x2, hx2⟩ : ∃ x2 : Nat, x2 = ns[j * 4 + 2] := ⟨_, rfl⟩
      rw [← hx2] at HS2 hzt HSum
      obtain ⟨rv2, hrv2⟩ : ∃ rv2 : Value, rv2 = cs[j * 4 + 2] := ⟨_, rfl⟩
      rw [← hrv2] at HS2
      clear hsum hle hz t0 t1 t2 t3 hkd0 hs0 hkd1 hs1 hkd2 hs2 hkd3 hs3 en0 en1 en3 hx2
      obtain ⟨g, cur0, u0, rfl, hB0, hcur0, hcell0, hfz0, hrow0⟩ := M0.out.cell H1.out hc0
      rw [Nat.add_zero] at hcell0 hfz0
      have M1 : Hid (Mk tau B H w (wr.setCell ⟨g, j * 4, none⟩ (.int .i64 (z)))) := M0.out.trans (Mk.store hcur0 hB0 (HH.out g rfl) (k0 := .int) (by rw [show (j * 4) % (tau 66).length = 0 from by have := hm0; simpa using this]; rfl) ⟨_, rfl⟩)
      have wp0 : IntKind.i64.wrap (z + 1) = z + 1 := by rw [IntKind.wrap_i64]; omega
      clear hcur0 hrow0
      obtain ⟨g1, cur1, u1, ea1, hB1, hcur1, hcell1, hfz1, hrow1⟩ := M1.out.cell H1.out hc1
      cases ea1
      clear hcell1 hfz1 hcur1 hrow1
      go_wp2_with fail
      refine (mkText (z + 1) _ (by omega) (by omega)).mono ?_
      rintro e w1 ⟨s1, rfl, hb1⟩
      have M2 : Hid (Mk tau B H w w1) := M1.out.trans (Mk.below hb1)
      clear hb1
      obtain ⟨gg1, cur1, u1, ea1', hB1', hcur1, hcell1, hfz1, hrow1⟩ := M2.out.cell H1.out hc1
      cases ea1'
      have M3 : Hid (Mk tau B H w (w1.setCell ⟨g, j * 4 + 1, none⟩ (.string s1))) := M2.out.trans (Mk.store hcur1 hB1 (HH.out g rfl) (k0 := .str) (by rw [show (j * 4 + 1) % (tau 66).length = 1 from by have := hm1; simpa using this]; rfl) ⟨_, rfl⟩)
      have wp1 : IntKind.i64.wrap (z + 1 + 1) = z + 1 + 1 := by rw [IntKind.wrap_i64]; omega
      clear hcur1 hrow1
      obtain ⟨g2, cur2, u2, ea2, hB2, hcur2, hcell2, hfz2, hrow2⟩ := M3.out.cell H1.out hc2
      cases ea2
      have hrr2 : u2 = rv2 := by rw [hrv2]; exact hrow2 _ (by rw [hm2]; rfl)
      rw [hrr2] at hcell2
      obtain ⟨ar2, lr2, cr2, er2⟩ : ∃ a l c, rv2 = .slice a l c := by
        obtain ⟨a, l, c, _, _, e, _⟩ := Shp.rows (n := n + 2) HS2.out
        exact ⟨a, l, c, e⟩
      subst er2
      have HC2 : Hid (∀ _ : Unit, _) := fun _ => mkExprS (n := n + 0) (.slice ar2 lr2 cr2) (z + 1 + 1) (w1.setCell ⟨g, j * 4 + 1, none⟩ (.string s1)) (by omega) (by omega) (M3.out.kp _ _ _ _ HS2.out)
      clear hcur2 hrow2 hrr2 hrv2
      go_wp2_with fail
      refine (HC2.out ()).mono ?_
      rintro e w2 ⟨rfl, hmk2⟩
      have M4 : Hid (Mk tau B H w w2) := M3.out.trans hmk2
      clear hmk2 HC2
      obtain ⟨g3, cur3, u3, ea3, hB3, hcur3, hcell3, hfz3, hrow3⟩ := M4.out.cell H1.out hc3
      cases ea3
      clear hcell3 hfz3 hcur3 hrow3
      go_wp2_with fail
      refine (mkText (z + 1 + 1 + (x2 : Nat)) _ (by omega) (by omega)).mono ?_
      rintro e w3 ⟨s3, rfl, hb3⟩
      have M5 : Hid (Mk tau B H w w3) := M4.out.trans (Mk.below hb3)
      clear hb3
      obtain ⟨gg3, cur3, u3, ea3', hB3', hcur3, hcell3, hfz3, hrow3⟩ := M5.out.cell H1.out hc3
      cases ea3'
      have M6 : Hid (Mk tau B H w (w3.setCell ⟨g, j * 4 + 3, none⟩ (.string s3))) := M5.out.trans (Mk.store hcur3 hB3 (HH.out g rfl) (k0 := .str) (by rw [show (j * 4 + 3) % (tau 66).length = 3 from by have := hm3; simpa using this]; rfl) ⟨_, rfl⟩)
      have wp3 : IntKind.i64.wrap (z + 1 + 1 + (x2 : Nat) + 1) = z + 1 + 1 + (x2 : Nat) + 1 := by rw [IntKind.wrap_i64]; omega
      clear hcur3 hrow3
      go_wp2
      go_roundw
      case rel => exact ⟨j + 1, by go_num, by omega, by rw [HSum.out]; have := HZ.out; congr 1; omega, M6.out⟩
      case measure => simp [intOf]; omega
    · obtain rfl : j = len := by omega
      have HV : Hid ((ns.take (j * 4)).sum = ns.sum) := by rw [Hid, List.take_of_length_le (by rw [HNl.out, HCl.out]; exact Nat.le_refl _)]
      rw [HV.out]
      have i4 : ¬ (j : Int) < (j : Int) := by omega
      go_wp2
      go_ret
      exact ⟨rfl, M0.out⟩

set_option maxHeartbeats 3200000 in
set_option maxRecDepth 100000 in
theorem mkAltS {B H n c : Nat} (v : Value) (k : Int) (w : World) (hk0 : 0 < k) (hk : k + c ≤ 100000000000) (h : Shp tau B H (n + 5) (.row 63) w v c) :
    Calls Tryz.prog 33 #[v, .int .i64 k] w fun e w' => e = .returned (.int .i64 (k + c)) ∧ Mk tau B H w w' := by
  obtain ⟨a, len, cap, cs, ns, rfl, h1, hcl, hnl, rfl, hH, hel⟩ := Shp.rows (n := n + 4) h
  have et : (tau 63).length = 1 := rfl
  rw [et] at hcl
  have H1 : Hid (w.ownsRow B 63 (tau 63).length (.slice a len cap) len cs) := h1
  have HH : Hid (∀ k, (Value.slice a len cap).ownBlock = some k → k < H) := hH
  have HEl : Hid (∀ i (h : i < cs.length) (h' : i < ns.length), ∃ k, (tau 63)[i % (tau 63).length]? = some k ∧ Shp tau B H (n + 4) k w cs[i] ns[i]) := hel
  have HCl : Hid (cs.length = len * 1) := hcl
  have HNl : Hid (ns.length = cs.length) := hnl
  have hlen : len ≤ 9223372036854775807 := by
    rcases h1.2 with ⟨h', h0⟩ | ⟨g, cap', cur, h', hB, hc, hle, hmx, _⟩
    · omega
    · unfold maxLen at hmx
      omega
  clear h h1 hH hel et hcl hnl
  go_enter Tryz.func33, Tryz.ntmps33
  go_wp2
  go_loopw [1, 5] (fun kv iv wr => ∃ j : Nat, iv = .int .i64 j ∧ j ≤ len ∧ kv = .int .i64 (k + ((ns.take (j * 1)).sum : Nat)) ∧ Mk tau B H w wr) (fun _ iv _ => len - (intOf iv).toNat)
  case atStart => exact ⟨0, rfl, Nat.zero_le _, by simp, Mk.refl _⟩
  case round =>
    obtain ⟨j, rfl, hj, rfl, hm⟩ := hrel
    have M0 : Hid (Mk tau B H w wr) := hm
    clear hm
    by_cases hlt : j < len
    · have i4 : (j : Int) < (len : Int) := by omega
      have hc0 : j * 1 + 0 < cs.length := by rw [HCl.out]; omega
      have hn0 : j * 1 + 0 < ns.length := by rw [HNl.out]; exact hc0
      obtain ⟨kd0, hkd0, hs0⟩ := HEl.out _ hc0 hn0
      have hm0 : (j * 1 + 0) % (tau 63).length = 0 := mod_add j 1 0 (by omega)
      have hkk0 : kd0 = .row 66 := by rw [hm0] at hkd0; exact (Option.some.inj hkd0).symm
      subst hkk0
      have HS0 : Hid (Shp tau B H (n + 4) (.row 66) w cs[j * 1 + 0] ns[j * 1 + 0]) := hs0
      have t0 : (ns.take (j * 1 + 1)).sum = (ns.take (j * 1)).sum + ns[j * 1 + 0] := tk_next ns (j * 1 + 0) hn0
      have hsum : (ns.take ((j + 1) * 1)).sum = (ns.take (j * 1)).sum + (ns[j * 1 + 0]) := by
        rw [show (j + 1) * 1 = j * 1 + 1 by omega]
        omega
      have hle := tk_le ns ((j + 1) * 1)
      rw [hsum] at hle
      have HSum : Hid ((ns.take ((j + 1) * 1)).sum = (ns.take (j * 1)).sum + (ns[j * 1 + 0])) := hsum
      obtain ⟨z, hz⟩ : ∃ z : Int, z = k + ((ns.take (j * 1)).sum : Nat) := ⟨_, rfl⟩
      rw [← hz]
      have hz0 : 0 < z := by omega
      have HZ : Hid (z = k + ((ns.take (j * 1)).sum : Nat)) := hz
      have hzt : z + ((ns[j * 1 + 0] : Nat) : Int) ≤ 100000000000 := by omega
      obtain ⟨x0, hx0⟩ : ∃ x0 : Nat, x0 = ns[j * 1 + 0] := ⟨_, rfl⟩
      rw [← hx0] at HS0 hzt HSum
      obtain ⟨rv0, hrv0⟩ : ∃ rv0 : Value, rv0 = cs[j * 1 + 0] := ⟨_, rfl⟩
      rw [← hrv0] at HS0
      clear hsum hle hz t0 hkd0 hs0  hx0
      obtain ⟨g, cur0, u0, rfl, hB0, hcur0, hcell0, hfz0, hrow0⟩ := M0.out.cell H1.out hc0
      rw [Nat.add_zero, Nat.mul_one] at hcell0 hfz0
      have hrr0 : u0 = rv0 := by rw [hrv0]; exact hrow0 _ (by rw [hm0]; rfl)
      rw [hrr0] at hcell0
      obtain ⟨ar0, lr0, cr0, er0⟩ : ∃ a l c, rv0 = .slice a l c := by
        obtain ⟨a, l, c, _, _, e, _⟩ := Shp.rows (n := n + 3) HS0.out
        exact ⟨a, l, c, e⟩
      subst er0
      have HC0 : Hid (∀ _ : Unit, _) := fun _ => mkSymS (n := n + 0) (.slice ar0 lr0 cr0) (z) wr (by omega) (by omega) (M0.out.kp _ _ _ _ HS0.out)
      clear hcur0 hrow0 hrr0 hrv0
      go_wp2_with fail
      refine (HC0.out ()).mono ?_
      rintro e w1 ⟨rfl, hmk0⟩
      have M1 : Hid (Mk tau B H w w1) := M0.out.trans hmk0
      clear hmk0 HC0
      go_wp2
      go_roundw
      case rel => exact ⟨j + 1, by go_num, by omega, by rw [HSum.out]; have := HZ.out; congr 1; omega, M1.out⟩
      case measure => simp [intOf]; omega
    · obtain rfl : j = len := by omega
      have HV : Hid ((ns.take (j * 1)).sum = ns.sum) := by rw [Hid, List.take_of_length_le (by rw [HNl.out, HCl.out]; exact Nat.le_refl _)]
      rw [HV.out]
      have i4 : ¬ (j : Int) < (j : Int) := by omega
      go_wp2
      go_ret
      exact ⟨rfl, M0.out⟩

set_option maxHeartbeats 3200000 in
set_option maxRecDepth 100000 in
theorem mkRuleS {B H n c : Nat} (v : Value) (k : Int) (w : World) (hk0 : 0 < k) (hk : k + c ≤ 100000000000) (h : Shp tau B H (n + 6) (.row 43) w v c) :
    Calls Tryz.prog 20 #[v, .int .i64 k] w fun e w' => e = .returned (.int .i64 (k + c)) ∧ Mk tau B H w w' := by
  obtain ⟨a, len, cap, cs, ns, rfl, h1, hcl, hnl, rfl, hH, hel⟩ := Shp.rows (n := n + 5) h
  have et : (tau 43).length = 3 := rfl
  rw [et] at hcl
  have H1 : Hid (w.ownsRow B 43 (tau 43).length (.slice a len cap) len cs) := h1
  have HH : Hid (∀ k, (Value.slice a len cap).ownBlock = some k → k < H) := hH
  have HEl : Hid (∀ i (h : i < cs.length) (h' : i < ns.length), ∃ k, (tau 43)[i % (tau 43).length]? = some k ∧ Shp tau B H (n + 5) k w cs[i] ns[i]) := hel
  have HCl : Hid (cs.length = len * 3) := hcl
  have HNl : Hid (ns.length = cs.length) := hnl
  have hlen : len ≤ 9223372036854775807 := by
    rcases h1.2 with ⟨h', h0⟩ | ⟨g, cap', cur, h', hB, hc, hle, hmx, _⟩
    · omega
    · unfold maxLen at hmx
      omega
  clear h h1 hH hel et hcl hnl
  go_enter Tryz.func20, Tryz.ntmps20
  go_wp2
  go_loopw [1, 5] (fun kv iv wr => ∃ j : Nat, iv = .int .i64 j ∧ j ≤ len ∧ kv = .int .i64 (k + ((ns.take (j * 3)).sum : Nat)) ∧ Mk tau B H w wr) (fun _ iv _ => len - (intOf iv).toNat)
  case atStart => exact ⟨0, rfl, Nat.zero_le _, by simp, Mk.refl _⟩
  case round =>
    obtain ⟨j, rfl, hj, rfl, hm⟩ := hrel
    have M0 : Hid (Mk tau B H w wr) := hm
    clear hm
    by_cases hlt : j < len
    · have i4 : (j : Int) < (len : Int) := by omega
      have hc0 : j * 3 + 0 < cs.length := by rw [HCl.out]; omega
      have hn0 : j * 3 + 0 < ns.length := by rw [HNl.out]; exact hc0
      obtain ⟨kd0, hkd0, hs0⟩ := HEl.out _ hc0 hn0
      have hm0 : (j * 3 + 0) % (tau 43).length = 0 := mod_add j 3 0 (by omega)
      have hkk0 : kd0 = .str := by rw [hm0] at hkd0; exact (Option.some.inj hkd0).symm
      subst hkk0
      have en0 : ns[j * 3 + 0] = 1 := by cases n <;> exact hs0.2
      have hc1 : j * 3 + 1 < cs.length := by rw [HCl.out]; omega
      have hn1 : j * 3 + 1 < ns.length := by rw [HNl.out]; exact hc1
      obtain ⟨kd1, hkd1, hs1⟩ := HEl.out _ hc1 hn1
      have hm1 : (j * 3 + 1) % (tau 43).length = 1 := mod_add j 3 1 (by omega)
      have hkk1 : kd1 = .row 9 := by rw [hm1] at hkd1; exact (Option.some.inj hkd1).symm
      subst hkk1
      have HS1 : Hid (Shp tau B H (n + 5) (.row 9) w cs[j * 3 + 1] ns[j * 3 + 1]) := hs1
      have hc2 : j * 3 + 2 < cs.length := by rw [HCl.out]; omega
      have hn2 : j * 3 + 2 < ns.length := by rw [HNl.out]; exact hc2
      obtain ⟨kd2, hkd2, hs2⟩ := HEl.out _ hc2 hn2
      have hm2 : (j * 3 + 2) % (tau 43).length = 2 := mod_add j 3 2 (by omega)
      have hkk2 : kd2 = .row 63 := by rw [hm2] at hkd2; exact (Option.some.inj hkd2).symm
      subst hkk2
      have HS2 : Hid (Shp tau B H (n + 5) (.row 63) w cs[j * 3 + 2] ns[j * 3 + 2]) := hs2
      have t0 : (ns.take (j * 3 + 1)).sum = (ns.take (j * 3)).sum + ns[j * 3 + 0] := tk_next ns (j * 3 + 0) hn0
      rw [en0] at t0
      have t1 : (ns.take (j * 3 + 2)).sum = (ns.take (j * 3 + 1)).sum + ns[j * 3 + 1] := tk_next ns (j * 3 + 1) hn1
      have t2 : (ns.take (j * 3 + 3)).sum = (ns.take (j * 3 + 2)).sum + ns[j * 3 + 2] := tk_next ns (j * 3 + 2) hn2
      have hsum : (ns.take ((j + 1) * 3)).sum = (ns.take (j * 3)).sum + (1 + ns[j * 3 + 1] + ns[j * 3 + 2]) := by
        rw [show (j + 1) * 3 = j * 3 + 3 by omega]
        omega
      have hle := tk_le ns ((j + 1) * 3)
      rw [hsum] at hle
      have HSum : Hid ((ns.take ((j + 1) * 3)).sum = (ns.take (j * 3)).sum + (1 + ns[j * 3 + 1] + ns[j * 3 + 2])) := hsum
      obtain ⟨z, hz⟩ : ∃ z : Int, z = k + ((ns.take (j * 3)).sum : Nat) := ⟨_, rfl⟩
      rw [← hz]
      have hz0 : 0 < z := by omega
      have HZ : Hid (z = k + ((ns.take (j * 3)).sum : Nat)) := hz
      have hzt : z + ((1 + ns[j * 3 + 1] + ns[j * 3 + 2] : Nat) : Int) ≤ 100000000000 := by omega
      obtain ⟨x1, hx1⟩ : ∃ x1 : Nat, x1 = ns[j * 3 + 1] := ⟨_, rfl⟩
      rw [← hx1] at HS1 hzt HSum
      obtain ⟨rv1, hrv1⟩ : ∃ rv1 : Value, rv1 = cs[j * 3 + 1] := ⟨_, rfl⟩
      rw [← hrv1] at HS1
      obtain ⟨x2, hx2⟩ : ∃ x2 : Nat, x2 = ns[j * 3 + 2] := ⟨_, rfl⟩
      rw [← hx2] at HS2 hzt HSum
      obtain ⟨rv2, hrv2⟩ : ∃ rv2 : Value, rv2 = cs[j * 3 + 2] := ⟨_, rfl⟩
      rw [← hrv2] at HS2
      clear hsum hle hz t0 t1 t2 hkd0 hs0 hkd1 hs1 hkd2 hs2 en0 hx1 hx2
      obtain ⟨g, cur0, u0, rfl, hB0, hcur0, hcell0, hfz0, hrow0⟩ := M0.out.cell H1.out hc0
      rw [Nat.add_zero] at hcell0 hfz0
      clear hcell0 hfz0 hcur0 hrow0
      go_wp2_with fail
      refine (mkText (z) _ (by omega) (by omega)).mono ?_
      rintro e w1 ⟨s0, rfl, hb0⟩
      have M1 : Hid (Mk tau B H w w1) := M0.out.trans (Mk.below hb0)
      clear hb0
      obtain ⟨gg0, cur0, u0, ea0', hB0', hcur0, hcell0, hfz0, hrow0⟩ := M1.out.cell H1.out hc0
      cases ea0'
      rw [Nat.add_zero] at hcell0 hfz0
      have M2 : Hid (Mk tau B H w (w1.setCell ⟨g, j * 3, none⟩ (.string s0))) := M1.out.trans (Mk.store hcur0 hB0 (HH.out g rfl) (k0 := .str) (by rw [show (j * 3) % (tau 43).length = 0 from by have := hm0; simpa using this]; rfl) ⟨_, rfl⟩)
      have wp0 : IntKind.i64.wrap (z + 1) = z + 1 := by rw [IntKind.wrap_i64]; omega
      clear hcur0 hrow0
      obtain ⟨g1, cur1, u1, ea1, hB1, hcur1, hcell1, hfz1, hrow1⟩ := M2.out.cell H1.out hc1
      cases ea1
      have hrr1 : u1 = rv1 := by rw [hrv1]; exact hrow1 _ (by rw [hm1]; rfl)
      rw [hrr1] at hcell1
      obtain ⟨ar1, lr1, cr1, er1⟩ : ∃ a l c, rv1 = .slice a l c := by
        obtain ⟨a, l, c, _, _, e, _⟩ := Shp.rows (n := n + 4) HS1.out
        exact ⟨a, l, c, e⟩
      subst er1
      have HC1 : Hid (∀ _ : Unit, _) := fun _ => mkStringS (n := n + 4) (.slice ar1 lr1 cr1) (z + 1) (w1.setCell ⟨g, j * 3, none⟩ (.string s0)) (by omega) (by omega) (M2.out.kp _ _ _ _ HS1.out)
      clear hcur1 hrow1 hrr1 hrv1
      go_wp2_with fail
      refine (HC1.out ()).mono ?_
      rintro e w2 ⟨rfl, hmk1⟩
      have M3 : Hid (Mk tau B H w w2) := M2.out.trans hmk1
      clear hmk1 HC1
      obtain ⟨g2, cur2, u2, ea2, hB2, hcur2, hcell2, hfz2, hrow2⟩ := M3.out.cell H1.out hc2
      cases ea2
      have hrr2 : u2 = rv2 := by rw [hrv2]; exact hrow2 _ (by rw [hm2]; rfl)
      rw [hrr2] at hcell2
      obtain ⟨ar2, lr2, cr2, er2⟩ : ∃ a l c, rv2 = .slice a l c := by
        obtain ⟨a, l, c, _, _, e, _⟩ := Shp.rows (n := n + 4) HS2.out
        exact ⟨a, l, c, e⟩
      subst er2
      have HC2 : Hid (∀ _ : Unit, _) := fun _ => mkAltS (n := n + 0) (.slice ar2 lr2 cr2) (z + 1 + (x1 : Nat)) w2 (by omega) (by omega) (M3.out.kp _ _ _ _ HS2.out)
      clear hcur2 hrow2 hrr2 hrv2
      go_wp2_with fail
      refine (HC2.out ()).mono ?_
      rintro e w3 ⟨rfl, hmk2⟩
      have M4 : Hid (Mk tau B H w w3) := M3.out.trans hmk2
      clear hmk2 HC2
      go_wp2
      go_roundw
      case rel => exact ⟨j + 1, by go_num, by omega, by rw [HSum.out]; have := HZ.out; congr 1; omega, M4.out⟩
      case measure => simp [intOf]; omega
    · obtain rfl : j = len := by omega
      have HV : Hid ((ns.take (j * 3)).sum = ns.sum) := by rw [Hid, List.take_of_length_le (by rw [HNl.out, HCl.out]; exact Nat.le_refl _)]
      rw [HV.out]
      have i4 : ¬ (j : Int) < (j : Int) := by omega
      go_wp2
      go_ret
      exact ⟨rfl, M0.out⟩

end Go.Proofs.YtofpoiccghpliaaGreatDoor

namespace Go.Proofs.YtofpoiccghpliaaGreatDoor
open Go.RowKit
set_option linter.unusedVariables false

set_option maxHeartbeats 1600000 in
set_option maxRecDepth 100000 in
theorem mkGrammar {B H n c : Nat} (v : Value) (k : Int) (w : World) (hk0 : 0 < k) (hk : k + c ≤ 100000000000) (h : Shp tau B H (n + 6) (.row 43) w v c) :
    Calls Tryz.prog 10 #[.agg #[v], .int .i64 k] w fun e w' => e = .returned (.int .i64 (k + c)) ∧ Mk tau B H w w' := by
  obtain ⟨a, l, p, rfl⟩ : ∃ a l c, v = .slice a l c := by
    obtain ⟨a, l, c, _, _, e, _⟩ := Shp.rows (n := n + 5) h
    exact ⟨a, l, c, e⟩
  have hb : Below w.heap.size w (w.alloc (.cells #[.slice a l p] 30)) := (Below.refl _ _).alloc (Nat.le_refl _) _
  have HB : Hid (Mk tau B H w (w.alloc (.cells #[.slice a l p] 30))) := Mk.below hb
  have HC : Hid (∀ _ : Unit, _) := fun _ => mkRuleS (n := n) (.slice a l p) k (w.alloc (.cells #[.slice a l p] 30)) hk0 hk (HB.out.kp _ _ _ _ h)
  clear h hb
  go_enter Tryz.func10, Tryz.ntmps10
  go_wp2_with fail
  refine (HC.out ()).mono ?_
  rintro e w1 ⟨rfl, hm⟩
  have M1 : Hid (Mk tau B H w w1) := HB.out.trans hm
  clear hm
  go_wp2
  go_ret
  exact ⟨rfl, M1.out⟩

end Go.Proofs.YtofpoiccghpliaaGreatDoor
