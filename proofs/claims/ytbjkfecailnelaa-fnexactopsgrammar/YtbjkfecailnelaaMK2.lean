/- The laws' marks on rows of structs: how many are marked, and what is kept (printed by mk/marks.py). -/
import Derived.Test.YtbjkfecailnelaaMK
namespace Go.Proofs.Ytbjkfecailnelaa
open Go.RowKit
set_option linter.unusedVariables false

theorem mkText (z : Int) (w : World) (h0 : 0 < z) (h1 : z ≤ 1000000000000) : Calls Try.prog 23 #[.int .i64 z] w fun e w' => ∃ s, e = .returned (.string s) ∧ Below w.heap.size w w' := by
  obtain ⟨n, rfl⟩ : ∃ n : Nat, z = (n : Int) := ⟨z.toNat, by omega⟩
  refine (mark_any n w (by omega) (by omega)).mono ?_
  rintro e w' ⟨rfl, hb⟩
  exact ⟨_, rfl, hb⟩
theorem mod_add (j m f : Nat) (h : f < m) : (j * m + f) % m = f := by rw [Nat.mul_comm, Nat.mul_add_mod, Nat.mod_eq_of_lt h]
set_option maxHeartbeats 3200000 in
set_option maxRecDepth 100000 in
theorem mkStringS {B H n c : Nat} (v : Value) (k : Int) (w : World) (hk0 : 0 < k) (hk : k + c ≤ 100000000000) (h : Shp tau B H (n + 1) (.row 9) w v c) :
    Calls Try.prog 35 #[v, .int .i64 k] w fun e w' => e = .returned (.int .i64 (k + c)) ∧ Mk tau B H w w' := by
  obtain ⟨a, len, cap, cs, ns, rfl, h1, hcl, hnl, rfl, hH, hel⟩ := Shp.rows (n := n + 0) h
  have et : (tau 9).length = 1 := rfl
  rw [et] at hcl
  have H1 : Hid (w.ownsRow B 9 (tau 9).length (.slice a len cap) len cs) := h1
  have HH : Hid (∀ k, (Value.slice a len cap).ownBlock = some k → k < H) := hH
  have HEl : Hid (∀ i (h : i < cs.length) (h' : i < ns.length), ∃ k, (tau 9)[i % (tau 9).length]? = some k ∧ Shp tau B H (n + 0) k w cs[i] ns[i]) := hel
  have HCl : Hid (cs.length = len * 1) := hcl
  have HNl : Hid (ns.length = cs.length) := hnl
  have hlen : len ≤ 9223372036854775807 := by
    rcases h1.2 with ⟨h', h0⟩ | ⟨g, cap', cur, h', hB, hc, hle, hmx, _⟩
    · omega
    · unfold maxLen at hmx
      omega
  clear h h1 hH hel et hcl hnl
  go_enter Try.func35, Try.ntmps35
  go_wp2
  go_loopw [1, 5] (fun kv iv wr => ∃ j : Nat, iv = .int .i64 j ∧ j ≤ len ∧ kv = .int .i64 (k + ((ns.take (j * 1)).sum : Nat)) ∧ Mk tau B H w wr) (fun _ iv _ => len - (intOf iv).toNat)
  case atStart => exact ⟨0, rfl, Nat.zero_le _, by simp, Mk.refl _⟩
  case round =>
    obtain ⟨j, rfl, hj, rfl, hm⟩ := hrel
    have M0 : Hid (Mk tau B H w wr) := hm
    clear hm
    by_cases hlt : j < len
    · have i4 : (j : Int) < (len : Int) := by omega
      have hc0 : j * 1 + 0 < cs.length := by rw [HCl.out]; omega
      have hn0 : j * 1 + 0 < ns.length := by rw [HNl.out]; exact hc0
      obtain ⟨kd0, hkd0, hs0⟩ := HEl.out _ hc0 hn0
      have hm0 : (j * 1 + 0) % (tau 9).length = 0 := mod_add j 1 0 (by omega)
      have hkk0 : kd0 = .str := by rw [hm0] at hkd0; exact (Option.some.inj hkd0).symm
      subst hkk0
      have en0 : ns[j * 1 + 0] = 1 := by cases n <;> exact hs0.2
      have t0 : (ns.take (j * 1 + 1)).sum = (ns.take (j * 1)).sum + ns[j * 1 + 0] := tk_next ns (j * 1 + 0) hn0
      rw [en0] at t0
      have hsum : (ns.take ((j + 1) * 1)).sum = (ns.take (j * 1)).sum + (1) := by
        rw [show (j + 1) * 1 = j * 1 + 1 by omega]
        omega
      have hle := tk_le ns ((j + 1) * 1)
      rw [hsum] at hle
      have HSum : Hid ((ns.take ((j + 1) * 1)).sum = (ns.take (j * 1)).sum + (1)) := hsum
      obtain ⟨z, hz⟩ : ∃ z : Int, z = k + ((ns.take (j * 1)).sum : Nat) := ⟨_, rfl⟩
      rw [← hz]
      have hz0 : 0 < z := by omega
      have HZ : Hid (z = k + ((ns.take (j * 1)).sum : Nat)) := hz
      have hzt : z + ((1 : Nat) : Int) ≤ 100000000000 := by omega
      clear hsum hle hz t0 hkd0 hs0 en0 
      obtain ⟨g, cur0, u0, rfl, hB0, hcur0, hcell0, hfz0, hrow0⟩ := M0.out.cell H1.out hc0
      rw [Nat.add_zero, Nat.mul_one] at hcell0 hfz0
      clear hcell0 hfz0 hcur0 hrow0
      go_wp2_with fail
      refine (mkText (z) _ (by omega) (by omega)).mono ?_
      rintro e w1 ⟨s0, rfl, hb0⟩
      have M1 : Hid (Mk tau B H w w1) := M0.out.trans (Mk.below hb0)
      clear hb0
      obtain ⟨gg0, cur0, u0, ea0', hB0', hcur0, hcell0, hfz0, hrow0⟩ := M1.out.cell H1.out hc0
      cases ea0'
      rw [Nat.add_zero, Nat.mul_one] at hcell0 hfz0
      have M2 : Hid (Mk tau B H w (w1.setCell ⟨g, j, none⟩ (.string s0))) := M1.out.trans (Mk.store hcur0 hB0 (HH.out g rfl) (k0 := .str) (by rw [show (j) % (tau 9).length = 0 from by have := hm0; simpa using this]; rfl) ⟨_, rfl⟩)
      have wp0 : IntKind.i64.wrap (z + 1) = z + 1 := by rw [IntKind.wrap_i64]; omega
      clear hcur0 hrow0
      go_wp2
      go_roundw
      case rel => exact ⟨j + 1, by go_num, by omega, by rw [HSum.out]; have := HZ.out; congr 1; omega, M2.out⟩
      case measure => simp [intOf]; omega
    · obtain rfl : j = len := by omega
      have HV : Hid ((ns.take (j * 1)).sum = ns.sum) := by rw [Hid, List.take_of_length_le (by rw [HNl.out, HCl.out]; exact Nat.le_refl _)]
      rw [HV.out]
      have i4 : ¬ (j : Int) < (j : Int) := by omega
      go_wp2
      go_ret
      exact ⟨rfl, M0.out⟩

set_option maxHeartbeats 3200000 in
set_option maxRecDepth 100000 in
theorem mkExNodeS {B H n c : Nat} (v : Value) (k : Int) (w : World) (hk0 : 0 < k) (hk : k + c ≤ 100000000000) (h : Shp tau B H (n + 2) (.row 51) w v c) :
    Calls Try.prog 52 #[v, .int .i64 k] w fun e w' => e = .returned (.int .i64 (k + c)) ∧ Mk tau B H w w' := by
  obtain ⟨a, len, cap, cs, ns, rfl, h1, hcl, hnl, rfl, hH, hel⟩ := Shp.rows (n := n + 1) h
  have et : (tau 51).length = 4 := rfl
  rw [et] at hcl
  have H1 : Hid (w.ownsRow B 51 (tau 51).length (.slice a len cap) len cs) := h1
  have HH : Hid (∀ k, (Value.slice a len cap).ownBlock = some k → k < H) := hH
  have HEl : Hid (∀ i (h : i < cs.length) (h' : i < ns.length), ∃ k, (tau 51)[i % (tau 51).length]? = some k ∧ Shp tau B H (n + 1) k w cs[i] ns[i]) := hel
  have HCl : Hid (cs.length = len * 4) := hcl
  have HNl : Hid (ns.length = cs.length) := hnl
  have hlen : len ≤ 9223372036854775807 := by
    rcases h1.2 with ⟨h', h0⟩ | ⟨g, cap', cur, h', hB, hc, hle, hmx, _⟩
    · omega
    · unfold maxLen at hmx
      omega
  clear h h1 hH hel et hcl hnl
  go_enter Try.func52, Try.ntmps52
  go_wp2
  go_loopw [1, 5] (fun kv iv wr => ∃ j : Nat, iv = .int .i64 j ∧ j ≤ len ∧ kv = .int .i64 (k + ((ns.take (j * 4)).sum : Nat)) ∧ Mk tau B H w wr) (fun _ iv _ => len - (intOf iv).toNat)
  case atStart => exact ⟨0, rfl, Nat.zero_le _, by simp, Mk.refl _⟩
  case round =>
    obtain ⟨j, rfl, hj, rfl, hm⟩ := hrel
    have M0 : Hid (Mk tau B H w wr) := hm
    clear hm
    by_cases hlt : j < len
    · have i4 : (j : Int) < (len : Int) := by omega
      have hc0 : j * 4 + 0 < cs.length := by rw [HCl.out]; omega
      have hn0 : j * 4 + 0 < ns.length := by rw [HNl.out]; exact hc0
      obtain ⟨kd0, hkd0, hs0⟩ := HEl.out _ hc0 hn0
      have hm0 : (j * 4 + 0) % (tau 51).length = 0 := mod_add j 4 0 (by omega)
      have hkk0 : kd0 = .int := by rw [hm0] at hkd0; exact (Option.some.inj hkd0).symm
      subst hkk0
      have en0 : ns[j * 4 + 0] = 1 := by cases n <;> exact hs0.2
      have hc1 : j * 4 + 1 < cs.length := by rw [HCl.out]; omega
      have hn1 : j * 4 + 1 < ns.length := by rw [HNl.out]; exact hc1
      obtain ⟨kd1, hkd1, hs1⟩ := HEl.out _ hc1 hn1
      have hm1 : (j * 4 + 1) % (tau 51).length = 1 := mod_add j 4 1 (by omega)
      have hkk1 : kd1 = .int := by rw [hm1] at hkd1; exact (Option.some.inj hkd1).symm
      subst hkk1
      have en1 : ns[j * 4 + 1] = 1 := by cases n <;> exact hs1.2
      have hc2 : j * 4 + 2 < cs.length := by rw [HCl.out]; omega
      have hn2 : j * 4 + 2 < ns.length := by rw [HNl.out]; exact hc2
      obtain ⟨kd2, hkd2, hs2⟩ := HEl.out _ hc2 hn2
      have hm2 : (j * 4 + 2) % (tau 51).length = 2 := mod_add j 4 2 (by omega)
      have hkk2 : kd2 = .str := by rw [hm2] at hkd2; exact (Option.some.inj hkd2).symm
      subst hkk2
      have en2 : ns[j * 4 + 2] = 1 := by cases n <;> exact hs2.2
      have hc3 : j * 4 + 3 < cs.length := by rw [HCl.out]; omega
      have hn3 : j * 4 + 3 < ns.length := by rw [HNl.out]; exact hc3
      obtain ⟨kd3, hkd3, hs3⟩ := HEl.out _ hc3 hn3
      have hm3 : (j * 4 + 3) % (tau 51).length = 3 := mod_add j 4 3 (by omega)
      have hkk3 : kd3 = .row 3 := by rw [hm3] at hkd3; exact (Option.some.inj hkd3).symm
      subst hkk3
      have HS3 : Hid (Shp tau B H (n + 1) (.row 3) w cs[j * 4 + 3] ns[j * 4 + 3]) := hs3
      have t0 : (ns.take (j * 4 + 1)).sum = (ns.take (j * 4)).sum + ns[j * 4 + 0] := tk_next ns (j * 4 + 0) hn0
      rw [en0] at t0
      have t1 : (ns.take (j * 4 + 2)).sum = (ns.take (j * 4 + 1)).sum + ns[j * 4 + 1] := tk_next ns (j * 4 + 1) hn1
      rw [en1] at t1
      have t2 : (ns.take (j * 4 + 3)).sum = (ns.take (j * 4 + 2)).sum + ns[j * 4 + 2] := tk_next ns (j * 4 + 2) hn2
      rw [en2] at t2
      have t3 : (ns.take (j * 4 + 4)).sum = (ns.take (j * 4 + 3)).sum + ns[j * 4 + 3] := tk_next ns (j * 4 + 3) hn3
      have hsum : (ns.take ((j + 1) * 4)).sum = (ns.take (j * 4)).sum + (1 + 1 + 1 + ns[j * 4 + 3]) := by
        rw [show (j + 1) * 4 = j * 4 + 4 by omega]
        omega
      have hle := tk_le ns ((j + 1) * 4)
      rw [hsum] at hle
      have HSum : Hid ((ns.take ((j + 1) * 4)).sum = (ns.take (j * 4)).sum + (1 + 1 + 1 + ns[j * 4 + 3])) := hsum
      obtain ⟨z, hz⟩ : ∃ z : Int, z = k + ((ns.take (j * 4)).sum : Nat) := ⟨_, rfl⟩
      rw [← hz]
      have hz0 : 0 < z := by omega
      have HZ : Hid (z = k + ((ns.take (j * 4)).sum : Nat)) := hz
      have hzt : z + ((1 + 1 + 1 + ns[j * 4 + 3] : Nat) : Int) ≤ 100000000000 := by omega
      obtain ⟨x3, hx3⟩ : ∃ x3 : Nat, x3 = ns[j * 4 + 3] := ⟨_, rfl⟩
      rw [← hx3] at HS3 hzt HSum
      obtain ⟨rv3, hrv3⟩ : ∃ rv3 : Value, rv3 = cs[j * 4 + 3] := ⟨_, rfl⟩
      rw [← hrv3] at HS3
      clear hsum hle hz t0 t1 t2 t3 hkd0 hs0 hkd1 hs1 hkd2 hs2 hkd3 hs3 en0 en1 en2 hx3
      obtain ⟨g, cur0, u0, rfl, hB0, hcur0, hcell0, hfz0, hrow0⟩ := M0.out.cell H1.out hc0
      rw [Nat.add_zero] at hcell0 hfz0
      have M1 : Hid (Mk tau B H w (wr.setCell ⟨g, j * 4, none⟩ (.int .i64 (z)))) := M0.out.trans (Mk.store hcur0 hB0 (HH.out g rfl) (k0 := .int) (by rw [show (j * 4) % (tau 51).length = 0 from by have := hm0; simpa using this]; rfl) ⟨_, rfl⟩)
      have wp0 : IntKind.i64.wrap (z + 1) = z + 1 := by rw [IntKind.wrap_i64]; omega
      clear hcur0 hrow0
      obtain ⟨g1, cur1, u1, ea1, hB1, hcur1, hcell1, hfz1, hrow1⟩ := M1.out.cell H1.out hc1
      cases ea1
      have M2 : Hid (Mk tau B H w ((wr.setCell ⟨g, j * 4, none⟩ (.int .i64 (z))).setCell ⟨g, j * 4 + 1, none⟩ (.int .i64 (z + 1)))) := M1.out.trans (Mk.store hcur1 hB1 (HH.out g rfl) (k0 := .int) (by rw [show (j * 4 + 1) % (tau 51).length = 1 from by have := hm1; simpa using this]; rfl) ⟨_, rfl⟩)
      have wp1 : IntKind.i64.wrap (z + 1 + 1) = z + 1 + 1 := by rw [IntKind.wrap_i64]; omega
      clear hcur1 hrow1
      obtain ⟨g2, cur2, u2, ea2, hB2, hcur2, hcell2, hfz2, hrow2⟩ := M2.out.cell H1.out hc2
      cases ea2
      clear hcell2 hfz2 hcur2 hrow2
      go_wp2_with fail
      refine (mkText (z + 1 + 1) _ (by omega) (by omega)).mono ?_
      rintro e w1 ⟨s2, rfl, hb2⟩
      have M3 : Hid (Mk tau B H w w1) := M2.out.trans (Mk.below hb2)
      clear hb2
      obtain ⟨gg2, cur2, u2, ea2', hB2', hcur2, hcell2, hfz2, hrow2⟩ := M3.out.cell H1.out hc2
      cases ea2'
      have M4 : Hid (Mk tau B H w (w1.setCell ⟨g, j * 4 + 2, none⟩ (.string s2))) := M3.out.trans (Mk.store hcur2 hB2 (HH.out g rfl) (k0 := .str) (by rw [show (j * 4 + 2) % (tau 51).length = 2 from by have := hm2; simpa using this]; rfl) ⟨_, rfl⟩)
      have wp2 : IntKind.i64.wrap (z + 1 + 1 + 1) = z + 1 + 1 + 1 := by rw [IntKind.wrap_i64]; omega
      clear hcur2 hrow2
      obtain ⟨g3, cur3, u3, ea3, hB3, hcur3, hcell3, hfz3, hrow3⟩ := M4.out.cell H1.out hc3
      cases ea3
      have hrr3 : u3 = rv3 := by rw [hrv3]; exact hrow3 _ (by rw [hm3]; rfl)
      rw [hrr3] at hcell3
      obtain ⟨ar3, lr3, cr3, _, _, er3, _⟩ := Shp.rows (n := n + 0) HS3.out
      subst er3
      have HC3 : Hid (∀ _ : Unit, _) := fun _ => mkIntS (n := n + 0) (.slice ar3 lr3 cr3) (z + 1 + 1 + 1) (w1.setCell ⟨g, j * 4 + 2, none⟩ (.string s2)) (by omega) (by omega) (M4.out.kp _ _ _ _ HS3.out)
      clear hcur3 hrow3 hrr3 hrv3
      go_wp2_with fail
      refine (HC3.out ()).mono ?_
      rintro e w2 ⟨rfl, hmk3⟩
      have M5 : Hid (Mk tau B H w w2) := M4.out.trans hmk3
      clear hmk3 HC3
      go_wp2
      go_roundw
      case rel => exact ⟨j + 1, by go_num, by omega, by rw [HSum.out]; have := HZ.out; congr 1; omega, M5.out⟩
      case measure => simp [intOf]; omega
    · obtain rfl : j = len := by omega
      have HV : Hid ((ns.take (j * 4)).sum = ns.sum) := by rw [Hid, List.take_of_length_le (by rw [HNl.out, HCl.out]; exact Nat.le_refl _)]
      rw [HV.out]
      have i4 : ¬ (j : Int) < (j : Int) := by omega
      go_wp2
      go_ret
      exact ⟨rfl, M0.out⟩

end Go.Proofs.Ytbjkfecailnelaa
