/- The laws' marks on rows, written and found again (printed by mk/hd.py). -/
import Derived.Test.YtbjkfecailnelaaHdC
namespace Go.Proofs.Ytbjkfecailnelaa
open Go.RowKit
set_option linter.unusedVariables false

set_option maxHeartbeats 3200000 in
set_option maxRecDepth 100000 in
theorem hmRuleS {n c : Nat} {F : Nat → Prop} (v : Value) (k : Nat) (w : World) (hk0 : 0 < k) (hk : k + c ≤ 100000000000) (h : Hd tau (n + 6) (.row 43) w v c F none) :
    Calls Try.prog 24 #[v, .int .i64 (k : Int)] w fun e w' => e = .returned (.int .i64 ((k + c : Nat) : Int)) ∧ Kp F w w' ∧ Hd tau (n + 6) (.row 43) w' v c F (some k) := by
  obtain ⟨a, len, cap, ns, Fs, rfl, hnl, rfl, hst⟩ := HdR.start (n := n + 5) h
  have H0 : Hid (HdR tau (n + 5) 43 (.slice a len cap) len ns F Fs k (0 * 3) w) := by rw [Hid, Nat.zero_mul]; exact hst k
  have hlen := (hst k).long
  have HNl : Hid (ns.length = len * 3) := hnl
  clear h hst hnl
  go_enter Try.func24, Try.ntmps24
  go_wp2
  go_loopw [1, 5] (fun kv iv wr => ∃ j : Nat, iv = .int .i64 j ∧ j ≤ len ∧ kv = .int .i64 ((k + (ns.take (j * 3)).sum : Nat) : Int) ∧ HdR tau (n + 5) 43 (.slice a len cap) len ns F Fs k (j * 3) wr ∧ Kp F w wr) (fun _ iv _ => len - (intOf iv).toNat)
  case atStart => exact ⟨0, rfl, Nat.zero_le _, by simp, H0.out, Kp.refl⟩
  case round =>
    obtain ⟨j, rfl, hj, rfl, hmr, hkp⟩ := hrel
    have M0 : Hid (HdR tau (n + 5) 43 (.slice a len cap) len ns F Fs k (j * 3) wr) := hmr
    have K0 : Hid (Kp F w wr) := hkp
    clear hmr hkp H0
    by_cases hlt : j < len
    · have i4 : (j : Int) < (len : Int) := by omega
      have hp0 : j * 3 + 0 < len * (tau 43).length := by show j * 3 + 0 < len * 3; omega
      have hm0 : (tau 43)[(j * 3 + 0) % (tau 43).length]? = some (.str) := by rw [show (j * 3 + 0) % (tau 43).length = 0 from mod_add j 3 0 (by omega)]; rfl
      obtain ⟨g0, u0, ea0, hF0, hc0, hz0, hu0⟩ := M0.out.at hp0 hm0
      subst ea0
      obtain ⟨g, rfl⟩ : ∃ g, g = g0 := ⟨g0, rfl⟩
      have t0 : (ns.take (j * 3 + 1)).sum = (ns.take (j * 3)).sum + ns.getD (j * 3 + 0) 0 := take_getD ns (j * 3 + 0)
      have hp1 : j * 3 + 1 < len * (tau 43).length := by show j * 3 + 1 < len * 3; omega
      have hm1 : (tau 43)[(j * 3 + 1) % (tau 43).length]? = some (.row 9) := by rw [show (j * 3 + 1) % (tau 43).length = 1 from mod_add j 3 1 (by omega)]; rfl
      obtain ⟨g1, u1, ea1, hF1, hc1, hz1, hu1⟩ := M0.out.at hp1 hm1
      cases ea1
      have t1 : (ns.take (j * 3 + 2)).sum = (ns.take (j * 3 + 1)).sum + ns.getD (j * 3 + 1) 0 := take_getD ns (j * 3 + 1)
      have hp2 : j * 3 + 2 < len * (tau 43).length := by show j * 3 + 2 < len * 3; omega
      have hm2 : (tau 43)[(j * 3 + 2) % (tau 43).length]? = some (.row 58) := by rw [show (j * 3 + 2) % (tau 43).length = 2 from mod_add j 3 2 (by omega)]; rfl
      obtain ⟨g2, u2, ea2, hF2, hc2, hz2, hu2⟩ := M0.out.at hp2 hm2
      cases ea2
      have t2 : (ns.take (j * 3 + 3)).sum = (ns.take (j * 3 + 2)).sum + ns.getD (j * 3 + 2) 0 := take_getD ns (j * 3 + 2)
      have en0 : ns.getD (j * 3 + 0) 0 = 1 := by cases n <;> exact hu0.2
      rw [en0] at t0
      obtain ⟨x1, hx1⟩ : ∃ x1 : Nat, x1 = ns.getD (j * 3 + 1) 0 := ⟨_, rfl⟩
      rw [← hx1] at t1
      have HX1 : Hid (ns.getD (j * 3 + 1) 0 = x1) := hx1.symm
      obtain ⟨x2, hx2⟩ : ∃ x2 : Nat, x2 = ns.getD (j * 3 + 2) 0 := ⟨_, rfl⟩
      rw [← hx2] at t2
      have HX2 : Hid (ns.getD (j * 3 + 2) 0 = x2) := hx2.symm
      have hle : (ns.take ((j + 1) * 3)).sum ≤ ns.sum := tk_le ns _
      rw [show (j + 1) * 3 = j * 3 + 3 by omega] at hle
      obtain ⟨z0, hz0'⟩ : ∃ z0 : Nat, z0 = k + (ns.take (j * 3)).sum := ⟨_, rfl⟩
      rw [← hz0']
      obtain ⟨z1, hz1'⟩ : ∃ z1 : Nat, z1 = z0 + 1 := ⟨_, rfl⟩
      obtain ⟨z2, hz2'⟩ : ∃ z2 : Nat, z2 = z1 + x1 := ⟨_, rfl⟩
      obtain ⟨z3, hz3'⟩ : ∃ z3 : Nat, z3 = z2 + x2 := ⟨_, rfl⟩
      have E0 : Hid (k + (ns.take (j * 3 + 0)).sum = z0) := by rw [Hid]; rw [Nat.add_zero]; omega
      have EN0 : Hid (ns.getD (j * 3 + 0) 0 = 1) := en0
      have E1 : Hid (k + (ns.take (j * 3 + 1)).sum = z1) := by rw [Hid]; omega
      have HZ2 : Hid (z2 = z1 + x1) := hz2'
      have E2 : Hid (k + (ns.take (j * 3 + 2)).sum = z2) := by rw [Hid]; omega
      have HZ3 : Hid (z3 = z2 + x2) := hz3'
      have EE : Hid (z3 = k + (ns.take ((j + 1) * 3)).sum) := by rw [Hid, show (j + 1) * 3 = j * 3 + 3 by omega]; omega
      have hp0' : 0 < z0 := by omega
      have hq0' : z0 ≤ 100000000000 := by omega
      have hp1' : 0 < z1 := by omega
      have hq1' : z1 ≤ 100000000000 := by omega
      have hp2' : 0 < z2 := by omega
      have hq2' : z2 ≤ 100000000000 := by omega
      have hp3' : 0 < z3 := by omega
      have hq3' : z3 ≤ 100000000000 := by omega
      have wp0 : IntKind.i64.wrap ((z0 : Int) + 1) = (z1 : Int) := by rw [IntKind.wrap_i64]; omega
      have hs1' : z1 + x1 ≤ 100000000000 := by omega
      have hs2' : z2 + x2 ≤ 100000000000 := by omega
      clear hle hz0' hz1' hz2' hz3' t0 hc0 hz0 hu0 t1 hc1 hz1 hu1 t2 hc2 hz2 hu2 en0 hx1 hx2
      go_wp2_with fail
      refine (mark_any z0 _ hp0' (by omega)).mono ?_
      rintro e w1 ⟨rfl, hb0⟩
      have M1 : Hid (HdR tau (n + 5) 43 (.slice (some ⟨g, 0, none⟩) len cap) len ns F Fs k (j * 3 + 0) w1) := M0.out.ag (Ag.below hb0)
      have K1 : Hid (Kp F w w1) := K0.out.trans (Kp.below hb0)
      clear hb0
      obtain ⟨gg0, v0, ea, hFg0, hc0, hz0, hu0⟩ := M1.out.at hp0 hm0
      cases ea
      rw [Nat.add_zero] at hc0 hz0
      have M2 : Hid (HdR tau (n + 5) 43 (.slice (some ⟨g, 0, none⟩) len cap) len ns F Fs k (j * 3 + 1) (w1.setCell ⟨g, j * 3, none⟩ (.string (str (markB z0))))) := by
        have h := HdR.store (g := g) (p := j * 3 + 0) M1.out hm0 (u := .string (str (markB z0))) (fun W => by rw [EN0.out, E0.out]; exact Hd.textAt)
        rw [Hid]
        simpa only [Nat.add_zero, Nat.mul_one] using h
      have K2 : Hid (Kp F w (w1.setCell ⟨g, j * 3, none⟩ (.string (str (markB z0))))) := K1.out.trans (Kp.store hFg0)
      clear hu0
      generalize str (markB z0) = T0 at *
      obtain ⟨gg1, v1, ea, hFg1, hc1, hz1, hu1⟩ := M2.out.at hp1 hm1
      cases ea
      rw [if_neg (by omega), HX1.out] at hu1
      obtain ⟨ar1, lr1, cr1, er1⟩ : ∃ a l c, v1 = .slice a l c := by
        obtain ⟨a, l, c, _, _, e, _⟩ := HdR.start (n := n + 4) hu1
        exact ⟨a, l, c, e⟩
      subst er1
      have HC1 : Hid (∀ _ : Unit, _) := fun _ => hmStringS (n := n + 4) (.slice ar1 lr1 cr1) z1 (w1.setCell ⟨g, j * 3, none⟩ (.string (T0))) hp1' hs1' hu1
      have HU1 : Hid ((w1.setCell ⟨g, j * 3, none⟩ (.string (T0))).cell? ⟨g, j * 3 + 1, none⟩ = some (.slice ar1 lr1 cr1)) := hc1
      clear hu1
      go_wp2_with fail
      refine (HC1.out ()).mono ?_
      rintro e w2 ⟨rfl, hk1, hd1⟩
      rw [← HZ2.out]
      have M3 : Hid (HdR tau (n + 5) 43 (.slice (some ⟨g, 0, none⟩) len cap) len ns F Fs k (j * 3 + 2) w2) := by
        have h := HdR.rowed (g := g) (p := j * 3 + 1) M2.out hm1 (by simpa only [Nat.add_zero, Nat.mul_one] using HU1.out) hk1 (by rw [HX1.out, E1.out]; exact hd1)
        rw [Hid]
        simpa only [Nat.add_zero, Nat.mul_one] using h
      have K3 : Hid (Kp F w w2) := K2.out.trans (hk1.up (M2.out.lay.sub _))
      clear hk1 hd1 HC1 HU1 hc1 hz1
      obtain ⟨gg2, v2, ea, hFg2, hc2, hz2, hu2⟩ := M3.out.at hp2 hm2
      cases ea
      rw [if_neg (by omega), HX2.out] at hu2
      obtain ⟨ar2, lr2, cr2, er2⟩ : ∃ a l c, v2 = .slice a l c := by
        obtain ⟨a, l, c, _, _, e, _⟩ := HdR.start (n := n + 4) hu2
        exact ⟨a, l, c, e⟩
      subst er2
      have HC2 : Hid (∀ _ : Unit, _) := fun _ => hmAltS (n := n + 0) (.slice ar2 lr2 cr2) z2 w2 hp2' hs2' hu2
      have HU2 : Hid (w2.cell? ⟨g, j * 3 + 2, none⟩ = some (.slice ar2 lr2 cr2)) := hc2
      clear hu2
      go_wp2_with fail
      refine (HC2.out ()).mono ?_
      rintro e w3 ⟨rfl, hk2, hd2⟩
      rw [← HZ3.out]
      have M4 : Hid (HdR tau (n + 5) 43 (.slice (some ⟨g, 0, none⟩) len cap) len ns F Fs k (j * 3 + 3) w3) := by
        have h := HdR.rowed (g := g) (p := j * 3 + 2) M3.out hm2 (by simpa only [Nat.add_zero, Nat.mul_one] using HU2.out) hk2 (by rw [HX2.out, E2.out]; exact hd2)
        rw [Hid]
        simpa only [Nat.add_zero, Nat.mul_one] using h
      have K4 : Hid (Kp F w w3) := K3.out.trans (hk2.up (M3.out.lay.sub _))
      clear hk2 hd2 HC2 HU2 hc2 hz2
      go_wp2
      go_roundw
      case rel => exact ⟨j + 1, by go_num, by omega, by rw [← EE.out], by have h := M4.out; rwa [show j * 3 + 3 = (j + 1) * 3 by omega] at h, K4.out⟩
      case measure => simp [intOf]; omega
    · obtain rfl : j = len := by omega
      have HV : Hid ((ns.take (j * 3)).sum = ns.sum) := by rw [Hid, List.take_of_length_le (by rw [HNl.out]; exact Nat.le_refl _)]
      rw [HV.out]
      have i4 : ¬ (j : Int) < (j : Int) := by omega
      go_wp2
      go_ret
      exact ⟨rfl, K0.out, HdR.done M0.out⟩

set_option maxHeartbeats 3200000 in
set_option maxRecDepth 100000 in
theorem hhRuleS {n c : Nat} {F : Nat → Prop} (v : Value) (k : Nat) (w : World) (hk0 : 0 < k) (hk : k + c ≤ 100000000000) (h : Hd tau (n + 6) (.row 43) w v c F (some k)) :
    Calls Try.prog 25 #[v, .int .i64 (k : Int)] w fun e w' => e = .returned (.int .i64 ((k + c : Nat) : Int)) ∧ Below w.heap.size w w' := by
  obtain ⟨a, len, cap, ns, Fs, rfl, hnl, rfl, hst⟩ := HdR.open (n := n + 5) h
  have H0 : Hid (HdR tau (n + 5) 43 (.slice a len cap) len ns F Fs k (len * 3) w) := hst
  have hlen := hst.long
  have HNl : Hid (ns.length = len * 3) := hnl
  clear h hst hnl
  go_enter Try.func25, Try.ntmps25
  go_wp2
  go_loopw [1, 5] (fun kv iv wr => ∃ j : Nat, iv = .int .i64 j ∧ j ≤ len ∧ kv = .int .i64 ((k + (ns.take (j * 3)).sum : Nat) : Int) ∧ Below w.heap.size w wr) (fun _ iv _ => len - (intOf iv).toNat)
  case atStart => exact ⟨0, rfl, Nat.zero_le _, by simp, Below.refl _ _⟩
  case round =>
    obtain ⟨j, rfl, hj, rfl, hb⟩ := hrel
    have B0 : Hid (Below w.heap.size w wr) := hb
    have M0 : Hid (HdR tau (n + 5) 43 (.slice a len cap) len ns F Fs k (len * 3) wr) := H0.out.ag (Ag.below hb)
    clear hb
    by_cases hlt : j < len
    · have i4 : (j : Int) < (len : Int) := by omega
      have hp0 : j * 3 + 0 < len * (tau 43).length := by show j * 3 + 0 < len * 3; omega
      have hm0 : (tau 43)[(j * 3 + 0) % (tau 43).length]? = some (.str) := by rw [show (j * 3 + 0) % (tau 43).length = 0 from mod_add j 3 0 (by omega)]; rfl
      obtain ⟨g0, u0, ea0, hF0, hc0, hz0, hu0⟩ := M0.out.at hp0 hm0
      subst ea0
      obtain ⟨g, rfl⟩ : ∃ g, g = g0 := ⟨g0, rfl⟩
      have t0 : (ns.take (j * 3 + 1)).sum = (ns.take (j * 3)).sum + ns.getD (j * 3 + 0) 0 := take_getD ns (j * 3 + 0)
      have hp1 : j * 3 + 1 < len * (tau 43).length := by show j * 3 + 1 < len * 3; omega
      have hm1 : (tau 43)[(j * 3 + 1) % (tau 43).length]? = some (.row 9) := by rw [show (j * 3 + 1) % (tau 43).length = 1 from mod_add j 3 1 (by omega)]; rfl
      obtain ⟨g1, u1, ea1, hF1, hc1, hz1, hu1⟩ := M0.out.at hp1 hm1
      cases ea1
      have t1 : (ns.take (j * 3 + 2)).sum = (ns.take (j * 3 + 1)).sum + ns.getD (j * 3 + 1) 0 := take_getD ns (j * 3 + 1)
      have hp2 : j * 3 + 2 < len * (tau 43).length := by show j * 3 + 2 < len * 3; omega
      have hm2 : (tau 43)[(j * 3 + 2) % (tau 43).length]? = some (.row 58) := by rw [show (j * 3 + 2) % (tau 43).length = 2 from mod_add j 3 2 (by omega)]; rfl
      obtain ⟨g2, u2, ea2, hF2, hc2, hz2, hu2⟩ := M0.out.at hp2 hm2
      cases ea2
      have t2 : (ns.take (j * 3 + 3)).sum = (ns.take (j * 3 + 2)).sum + ns.getD (j * 3 + 2) 0 := take_getD ns (j * 3 + 2)
      rw [if_pos (by omega)] at hu0
      have en0 : ns.getD (j * 3 + 0) 0 = 1 := by cases n <;> exact hu0.2
      rw [en0] at t0
      rw [if_pos (by omega)] at hu1
      obtain ⟨x1, hx1⟩ : ∃ x1 : Nat, x1 = ns.getD (j * 3 + 1) 0 := ⟨_, rfl⟩
      rw [← hx1] at t1 hu1
      rw [if_pos (by omega)] at hu2
      obtain ⟨x2, hx2⟩ : ∃ x2 : Nat, x2 = ns.getD (j * 3 + 2) 0 := ⟨_, rfl⟩
      rw [← hx2] at t2 hu2
      have hle : (ns.take ((j + 1) * 3)).sum ≤ ns.sum := tk_le ns _
      rw [show (j + 1) * 3 = j * 3 + 3 by omega] at hle
      obtain ⟨z0, hz0'⟩ : ∃ z0 : Nat, z0 = k + (ns.take (j * 3)).sum := ⟨_, rfl⟩
      rw [← hz0']
      obtain ⟨z1, hz1'⟩ : ∃ z1 : Nat, z1 = z0 + 1 := ⟨_, rfl⟩
      obtain ⟨z2, hz2'⟩ : ∃ z2 : Nat, z2 = z1 + x1 := ⟨_, rfl⟩
      obtain ⟨z3, hz3'⟩ : ∃ z3 : Nat, z3 = z2 + x2 := ⟨_, rfl⟩
      have E0 : k + (ns.take (j * 3 + 0)).sum = z0 := by rw [Nat.add_zero]; omega
      rw [E0] at hu0
      have ev0 : u0 = .string (str (markB z0)) := by
        have h : ∃ s, u0 = .string s ∧ ∀ q, some z0 = some q → s = str (markB q) := by cases n <;> exact hu0.1
        obtain ⟨s, e1, e2⟩ := h
        rw [e1, e2 _ rfl]
      subst ev0
      have E1 : k + (ns.take (j * 3 + 1)).sum = z1 := by omega
      rw [E1] at hu1
      have HZ2 : Hid (z2 = z1 + x1) := hz2'
      have E2 : k + (ns.take (j * 3 + 2)).sum = z2 := by omega
      rw [E2] at hu2
      have HZ3 : Hid (z3 = z2 + x2) := hz3'
      have EE : Hid (z3 = k + (ns.take ((j + 1) * 3)).sum) := by rw [Hid, show (j + 1) * 3 = j * 3 + 3 by omega]; omega
      have hp0' : 0 < z0 := by omega
      have hq0' : z0 ≤ 100000000000 := by omega
      have hp1' : 0 < z1 := by omega
      have hq1' : z1 ≤ 100000000000 := by omega
      have hp2' : 0 < z2 := by omega
      have hq2' : z2 ≤ 100000000000 := by omega
      have hp3' : 0 < z3 := by omega
      have hq3' : z3 ≤ 100000000000 := by omega
      have wp0 : IntKind.i64.wrap ((z0 : Int) + 1) = (z1 : Int) := by rw [IntKind.wrap_i64]; omega
      have hs1' : z1 + x1 ≤ 100000000000 := by omega
      have hs2' : z2 + x2 ≤ 100000000000 := by omega
      rw [Nat.add_zero] at hc0
      obtain ⟨T0, hT0⟩ : ∃ T, T = str (markB z0) := ⟨_, rfl⟩
      rw [← hT0] at hc0
      have HM0 : Hid (∀ W, _) := fun W => mark_any z0 W hp0' (by omega)
      rw [← hT0] at HM0
      obtain ⟨ar1, lr1, cr1, er1⟩ : ∃ a l c, u1 = .slice a l c := by
        obtain ⟨a, l, c, _, _, e, _⟩ := HdR.open (n := n + 4) hu1
        exact ⟨a, l, c, e⟩
      subst er1
      have HC1 : Hid (∀ W, Below wr.heap.size wr W → _) := fun W hW => hhStringS (n := n + 4) (.slice ar1 lr1 cr1) z1 W hp1' hs1' (Hd.ag _ _ _ _ _ _ hu1 (Ag.below hW))
      obtain ⟨ar2, lr2, cr2, er2⟩ : ∃ a l c, u2 = .slice a l c := by
        obtain ⟨a, l, c, _, _, e, _⟩ := HdR.open (n := n + 4) hu2
        exact ⟨a, l, c, e⟩
      subst er2
      have HC2 : Hid (∀ W, Below wr.heap.size wr W → _) := fun W hW => hhAltS (n := n + 0) (.slice ar2 lr2 cr2) z2 W hp2' hs2' (Hd.ag _ _ _ _ _ _ hu2 (Ag.below hW))
      clear hle hz0' hz1' hz2' hz3' t0 hz0 hF0 hm0 hp0 E0 hu0 t1 hz1 hF1 hm1 hp1 E1 hu1 t2 hz2 hF2 hm2 hp2 E2 hu2 en0 hx1 hx2 hT0
      have D0 : Hid (Below wr.heap.size wr wr) := Below.refl _ _
      go_wp2
      go_region_held3 (fun W => W.cell? ⟨g, j * 3, none⟩ = some (.string T0)) ((first | go_keep | exact cell_keep (W := wr.drew) hc0 hb0))
        ((first | (go_at_call 23; refine (HM0.out _).mono ?_; rintro e v1 ⟨rfl, hb0⟩)))
      have hb0' := bel_of_drew hb0
      have D1 : Hid (Below wr.heap.size wr v1) := D0.out.trans (hb0'.mono D0.out.size)
      have hk1_1 := cell_keep hc1 hb0'
      have hk2_1 := cell_keep hc2 hb0'
      clear hb0 hb0'
      go_wp2_with fail
      refine (HC1.out _ D1.out).mono ?_
      rintro e v2 ⟨rfl, hb1'⟩
      rw [← HZ2.out]
      have hn1 : ¬ (z2 : Int) < 0 := by omega
      have D2 : Hid (Below wr.heap.size wr v2) := D1.out.trans (hb1'.mono D1.out.size)
      have hk2_2 := cell_keep hk2_1 hb1'
      clear hb1'
      go_wp2_with fail
      refine (HC2.out _ D2.out).mono ?_
      rintro e v3 ⟨rfl, hb2'⟩
      rw [← HZ3.out]
      have hn2 : ¬ (z3 : Int) < 0 := by omega
      have D3 : Hid (Below wr.heap.size wr v3) := D2.out.trans (hb2'.mono D2.out.size)
      clear hb2'
      have BF : Hid (Below w.heap.size w v3) := B0.out.trans (D3.out.mono B0.out.size)
      go_wp2
      go_roundw
      case rel => exact ⟨j + 1, by go_num, by omega, by rw [← EE.out], BF.out⟩
      case measure => simp [intOf]; omega
    · obtain rfl : j = len := by omega
      have HV : Hid ((ns.take (j * 3)).sum = ns.sum) := by rw [Hid, List.take_of_length_le (by rw [HNl.out]; exact Nat.le_refl _)]
      rw [HV.out]
      have i4 : ¬ (j : Int) < (j : Int) := by omega
      go_wp2
      go_ret
      exact ⟨rfl, B0.out⟩

set_option maxHeartbeats 1600000 in
theorem hmGrammar {n c : Nat} {F : Nat → Prop} (v : Value) (k : Nat) (w : World) (hk0 : 0 < k) (hk : k + c ≤ 100000000000) (h : Hd tau (n + 6) (.row 43) w v c F none) :
    Calls Try.prog 11 #[.agg #[v], .int .i64 (k : Int)] w fun e w' => e = .returned (.int .i64 ((k + c : Nat) : Int)) ∧ Kp F w w' ∧ Hd tau (n + 6) (.row 43) w' v c F (some k) := by
  obtain ⟨q, hq⟩ : ∃ q : Int, q = ((k + c : Nat) : Int) := ⟨_, rfl⟩
  rw [← hq]
  obtain ⟨a, l, p, rfl⟩ : ∃ a l p, v = .slice a l p := by
    obtain ⟨a, l, p, _, _, e, _⟩ := HdR.start (n := n + 5) h
    exact ⟨a, l, p, e⟩
  have hb : Below w.heap.size w (w.alloc (.cells #[.slice a l p] 26)) := (Below.refl _ _).alloc (Nat.le_refl _) _
  have HB : Hid (Kp F w (w.alloc (.cells #[.slice a l p] 26))) := Kp.below hb
  have HC : Hid (∀ _ : Unit, _) := fun _ => hmRuleS (n := n) (.slice a l p) k (w.alloc (.cells #[.slice a l p] 26)) hk0 hk (Hd.ag _ _ _ _ _ _ h (Ag.below hb))
  rw [← hq] at HC
  have hn : ¬ q < 0 := by omega
  clear h hb hq
  go_enter Try.func11, Try.ntmps11
  go_wp2_with fail
  refine (HC.out ()).mono ?_
  rintro e w1 ⟨rfl, hm, hd⟩
  have M1 : Hid (Kp F w w1) := HB.out.trans hm
  have D1 : Hid (Hd tau (n + 6) (.row 43) w1 (.slice a l p) c F (some k)) := hd
  clear hm hd
  go_wp2
  go_ret
  exact ⟨rfl, M1.out, D1.out⟩

set_option maxHeartbeats 1600000 in
theorem hhGrammar {n c : Nat} {F : Nat → Prop} (v : Value) (k : Nat) (w : World) (hk0 : 0 < k) (hk : k + c ≤ 100000000000) (h : Hd tau (n + 6) (.row 43) w v c F (some k)) :
    Calls Try.prog 12 #[.agg #[v], .int .i64 (k : Int)] w fun e w' => e = .returned (.int .i64 ((k + c : Nat) : Int)) ∧ Below w.heap.size w w' := by
  obtain ⟨q, hq⟩ : ∃ q : Int, q = ((k + c : Nat) : Int) := ⟨_, rfl⟩
  rw [← hq]
  obtain ⟨a, l, p, rfl⟩ : ∃ a l p, v = .slice a l p := by
    obtain ⟨a, l, p, _, _, e, _⟩ := HdR.open (n := n + 5) h
    exact ⟨a, l, p, e⟩
  have hb : Below w.heap.size w (w.alloc (.cells #[.slice a l p] 26)) := (Below.refl _ _).alloc (Nat.le_refl _) _
  have HB : Hid (Below w.heap.size w (w.alloc (.cells #[.slice a l p] 26))) := hb
  have HC : Hid (∀ _ : Unit, _) := fun _ => hhRuleS (n := n) (.slice a l p) k (w.alloc (.cells #[.slice a l p] 26)) hk0 hk (Hd.ag _ _ _ _ _ _ h (Ag.below hb))
  rw [← hq] at HC
  have hn : ¬ q < 0 := by omega
  clear h hb hq
  go_enter Try.func12, Try.ntmps12
  go_wp2_with fail
  refine (HC.out ()).mono ?_
  rintro e w1 ⟨rfl, hb1⟩
  have M1 : Hid (Below w.heap.size w w1) := HB.out.trans (hb1.mono HB.out.size)
  clear hb1
  go_wp2
  go_ret
  exact ⟨rfl, M1.out⟩

end Go.Proofs.Ytbjkfecailnelaa
