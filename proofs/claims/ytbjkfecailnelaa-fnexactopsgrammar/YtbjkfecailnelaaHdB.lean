/- The laws' marks on rows, written and found again (printed by mk/hd.py). -/
import Derived.Test.YtbjkfecailnelaaHdA
namespace Go.Proofs.Ytbjkfecailnelaa
open Go.RowKit
set_option linter.unusedVariables false

set_option maxHeartbeats 3200000 in
set_option maxRecDepth 100000 in
theorem hmExNodeS {n c : Nat} {F : Nat → Prop} (v : Value) (k : Nat) (w : World) (hk0 : 0 < k) (hk : k + c ≤ 100000000000) (h : Hd tau (n + 2) (.row 51) w v c F none) :
    Calls Try.prog 52 #[v, .int .i64 (k : Int)] w fun e w' => e = .returned (.int .i64 ((k + c : Nat) : Int)) ∧ Kp F w w' ∧ Hd tau (n + 2) (.row 51) w' v c F (some k) := by
  obtain ⟨a, len, cap, ns, Fs, rfl, hnl, rfl, hst⟩ := HdR.start (n := n + 1) h
  have H0 : Hid (HdR tau (n + 1) 51 (.slice a len cap) len ns F Fs k (0 * 4) w) := by rw [Hid, Nat.zero_mul]; exact hst k
  have hlen := (hst k).long
  have HNl : Hid (ns.length = len * 4) := hnl
  clear h hst hnl
  go_enter Try.func52, Try.ntmps52
  go_wp2
  go_loopw [1, 5] (fun kv iv wr => ∃ j : Nat, iv = .int .i64 j ∧ j ≤ len ∧ kv = .int .i64 ((k + (ns.take (j * 4)).sum : Nat) : Int) ∧ HdR tau (n + 1) 51 (.slice a len cap) len ns F Fs k (j * 4) wr ∧ Kp F w wr) (fun _ iv _ => len - (intOf iv).toNat)
  case atStart => exact ⟨0, rfl, Nat.zero_le _, by simp, H0.out, Kp.refl⟩
  case round =>
    obtain ⟨j, rfl, hj, rfl, hmr, hkp⟩ := hrel
    have M0 : Hid (HdR tau (n + 1) 51 (.slice a len cap) len ns F Fs k (j * 4) wr) := hmr
    have K0 : Hid (Kp F w wr) := hkp
    clear hmr hkp H0
    by_cases hlt : j < len
    · have i4 : (j : Int) < (len : Int) := by omega
      have hp0 : j * 4 + 0 < len * (tau 51).length := by show j * 4 + 0 < len * 4; omega
      have hm0 : (tau 51)[(j * 4 + 0) % (tau 51).length]? = some (.int) := by rw [show (j * 4 + 0) % (tau 51).length = 0 from mod_add j 4 0 (by omega)]; rfl
      obtain ⟨g0, u0, ea0, hF0, hc0, hz0, hu0⟩ := M0.out.at hp0 hm0
      subst ea0
      obtain ⟨g, rfl⟩ : ∃ g, g = g0 := ⟨g0, rfl⟩
      have t0 : (ns.take (j * 4 + 1)).sum = (ns.take (j * 4)).sum + ns.getD (j * 4 + 0) 0 := take_getD ns (j * 4 + 0)
      have hp1 : j * 4 + 1 < len * (tau 51).length := by show j * 4 + 1 < len * 4; omega
      have hm1 : (tau 51)[(j * 4 + 1) % (tau 51).length]? = some (.int) := by rw [show (j * 4 + 1) % (tau 51).length = 1 from mod_add j 4 1 (by omega)]; rfl
      obtain ⟨g1, u1, ea1, hF1, hc1, hz1, hu1⟩ := M0.out.at hp1 hm1
      cases ea1
      have t1 : (ns.take (j * 4 + 2)).sum = (ns.take (j * 4 + 1)).sum + ns.getD (j * 4 + 1) 0 := take_getD ns (j * 4 + 1)
      have hp2 : j * 4 + 2 < len * (tau 51).length := by show j * 4 + 2 < len * 4; omega
      have hm2 : (tau 51)[(j * 4 + 2) % (tau 51).length]? = some (.str) := by rw [show (j * 4 + 2) % (tau 51).length = 2 from mod_add j 4 2 (by omega)]; rfl
      obtain ⟨g2, u2, ea2, hF2, hc2, hz2, hu2⟩ := M0.out.at hp2 hm2
      cases ea2
      have t2 : (ns.take (j * 4 + 3)).sum = (ns.take (j * 4 + 2)).sum + ns.getD (j * 4 + 2) 0 := take_getD ns (j * 4 + 2)
      have hp3 : j * 4 + 3 < len * (tau 51).length := by show j * 4 + 3 < len * 4; omega
      have hm3 : (tau 51)[(j * 4 + 3) % (tau 51).length]? = some (.row 3) := by rw [show (j * 4 + 3) % (tau 51).length = 3 from mod_add j 4 3 (by omega)]; rfl
      obtain ⟨g3, u3, ea3, hF3, hc3, hz3, hu3⟩ := M0.out.at hp3 hm3
      cases ea3
      have t3 : (ns.take (j * 4 + 4)).sum = (ns.take (j * 4 + 3)).sum + ns.getD (j * 4 + 3) 0 := take_getD ns (j * 4 + 3)
      have en0 : ns.getD (j * 4 + 0) 0 = 1 := by cases n <;> exact hu0.2
      rw [en0] at t0
      have en1 : ns.getD (j * 4 + 1) 0 = 1 := by cases n <;> exact hu1.2
      rw [en1] at t1
      have en2 : ns.getD (j * 4 + 2) 0 = 1 := by cases n <;> exact hu2.2
      rw [en2] at t2
      obtain ⟨x3, hx3⟩ : ∃ x3 : Nat, x3 = ns.getD (j * 4 + 3) 0 := ⟨_, rfl⟩
      rw [← hx3] at t3
      have HX3 : Hid (ns.getD (j * 4 + 3) 0 = x3) := hx3.symm
      have hle : (ns.take ((j + 1) * 4)).sum ≤ ns.sum := tk_le ns _
      rw [show (j + 1) * 4 = j * 4 + 4 by omega] at hle
      obtain ⟨z0, hz0'⟩ : ∃ z0 : Nat, z0 = k + (ns.take (j * 4)).sum := ⟨_, rfl⟩
      rw [← hz0']
      obtain ⟨z1, hz1'⟩ : ∃ z1 : Nat, z1 = z0 + 1 := ⟨_, rfl⟩
      obtain ⟨z2, hz2'⟩ : ∃ z2 : Nat, z2 = z1 + 1 := ⟨_, rfl⟩
      obtain ⟨z3, hz3'⟩ : ∃ z3 : Nat, z3 = z2 + 1 := ⟨_, rfl⟩
      obtain ⟨z4, hz4'⟩ : ∃ z4 : Nat, z4 = z3 + x3 := ⟨_, rfl⟩
      have E0 : Hid (k + (ns.take (j * 4 + 0)).sum = z0) := by rw [Hid]; rw [Nat.add_zero]; omega
      have EN0 : Hid (ns.getD (j * 4 + 0) 0 = 1) := en0
      have E1 : Hid (k + (ns.take (j * 4 + 1)).sum = z1) := by rw [Hid]; omega
      have EN1 : Hid (ns.getD (j * 4 + 1) 0 = 1) := en1
      have E2 : Hid (k + (ns.take (j * 4 + 2)).sum = z2) := by rw [Hid]; omega
      have EN2 : Hid (ns.getD (j * 4 + 2) 0 = 1) := en2
      have E3 : Hid (k + (ns.take (j * 4 + 3)).sum = z3) := by rw [Hid]; omega
      have HZ4 : Hid (z4 = z3 + x3) := hz4'
      have EE : Hid (z4 = k + (ns.take ((j + 1) * 4)).sum) := by rw [Hid, show (j + 1) * 4 = j * 4 + 4 by omega]; omega
      have hp0' : 0 < z0 := by omega
      have hq0' : z0 ≤ 100000000000 := by omega
      have hp1' : 0 < z1 := by omega
      have hq1' : z1 ≤ 100000000000 := by omega
      have hp2' : 0 < z2 := by omega
      have hq2' : z2 ≤ 100000000000 := by omega
      have hp3' : 0 < z3 := by omega
      have hq3' : z3 ≤ 100000000000 := by omega
      have hp4' : 0 < z4 := by omega
      have hq4' : z4 ≤ 100000000000 := by omega
      have wp0 : IntKind.i64.wrap ((z0 : Int) + 1) = (z1 : Int) := by rw [IntKind.wrap_i64]; omega
      have wp1 : IntKind.i64.wrap ((z1 : Int) + 1) = (z2 : Int) := by rw [IntKind.wrap_i64]; omega
      have wp2 : IntKind.i64.wrap ((z2 : Int) + 1) = (z3 : Int) := by rw [IntKind.wrap_i64]; omega
      have hs3' : z3 + x3 ≤ 100000000000 := by omega
      clear hle hz0' hz1' hz2' hz3' hz4' t0 hc0 hz0 hu0 t1 hc1 hz1 hu1 t2 hc2 hz2 hu2 t3 hc3 hz3 hu3 en0 en1 en2 hx3
      obtain ⟨gg0, v0, ea, hFg0, hc0, hz0, hu0⟩ := M0.out.at hp0 hm0
      cases ea
      rw [Nat.add_zero] at hc0 hz0
      have M1 : Hid (HdR tau (n + 1) 51 (.slice (some ⟨g, 0, none⟩) len cap) len ns F Fs k (j * 4 + 1) (wr.setCell ⟨g, j * 4, none⟩ (.int .i64 (z0 : Int)))) := by
        have h := HdR.store (g := g) (p := j * 4 + 0) M0.out hm0 (u := .int .i64 (z0 : Int)) (fun W => by rw [EN0.out, E0.out]; exact Hd.numAt rfl)
        rw [Hid]
        simpa only [Nat.add_zero, Nat.mul_one] using h
      have K1 : Hid (Kp F w (wr.setCell ⟨g, j * 4, none⟩ (.int .i64 (z0 : Int)))) := K0.out.trans (Kp.store hFg0)
      clear hu0
      obtain ⟨gg1, v1, ea, hFg1, hc1, hz1, hu1⟩ := M1.out.at hp1 hm1
      cases ea
      have M2 : Hid (HdR tau (n + 1) 51 (.slice (some ⟨g, 0, none⟩) len cap) len ns F Fs k (j * 4 + 2) ((wr.setCell ⟨g, j * 4, none⟩ (.int .i64 (z0 : Int))).setCell ⟨g, j * 4 + 1, none⟩ (.int .i64 (z1 : Int)))) := by
        have h := HdR.store (g := g) (p := j * 4 + 1) M1.out hm1 (u := .int .i64 (z1 : Int)) (fun W => by rw [EN1.out, E1.out]; exact Hd.numAt rfl)
        rw [Hid]
        simpa only [Nat.add_zero, Nat.mul_one] using h
      have K2 : Hid (Kp F w ((wr.setCell ⟨g, j * 4, none⟩ (.int .i64 (z0 : Int))).setCell ⟨g, j * 4 + 1, none⟩ (.int .i64 (z1 : Int)))) := K1.out.trans (Kp.store hFg1)
      clear hu1
      go_wp2_with fail
      refine (mark_any z2 _ hp2' (by omega)).mono ?_
      rintro e w1 ⟨rfl, hb2⟩
      have M3 : Hid (HdR tau (n + 1) 51 (.slice (some ⟨g, 0, none⟩) len cap) len ns F Fs k (j * 4 + 2) w1) := M2.out.ag (Ag.below hb2)
      have K3 : Hid (Kp F w w1) := K2.out.trans (Kp.below hb2)
      clear hb2
      obtain ⟨gg2, v2, ea, hFg2, hc2, hz2, hu2⟩ := M3.out.at hp2 hm2
      cases ea
      have M4 : Hid (HdR tau (n + 1) 51 (.slice (some ⟨g, 0, none⟩) len cap) len ns F Fs k (j * 4 + 3) (w1.setCell ⟨g, j * 4 + 2, none⟩ (.string (str (markB z2))))) := by
        have h := HdR.store (g := g) (p := j * 4 + 2) M3.out hm2 (u := .string (str (markB z2))) (fun W => by rw [EN2.out, E2.out]; exact Hd.textAt)
        rw [Hid]
        simpa only [Nat.add_zero, Nat.mul_one] using h
      have K4 : Hid (Kp F w (w1.setCell ⟨g, j * 4 + 2, none⟩ (.string (str (markB z2))))) := K3.out.trans (Kp.store hFg2)
      clear hu2
      generalize str (markB z2) = T2 at *
      obtain ⟨gg3, v3, ea, hFg3, hc3, hz3, hu3⟩ := M4.out.at hp3 hm3
      cases ea
      rw [if_neg (by omega), HX3.out] at hu3
      obtain ⟨ar3, lr3, cr3, er3⟩ : ∃ a l c, v3 = .slice a l c := by
        obtain ⟨a, l, c, _, _, e, _⟩ := HdR.start (n := n + 0) hu3
        exact ⟨a, l, c, e⟩
      subst er3
      have HC3 : Hid (∀ _ : Unit, _) := fun _ => hmIntS (n := n + 0) (.slice ar3 lr3 cr3) z3 (w1.setCell ⟨g, j * 4 + 2, none⟩ (.string (T2))) hp3' hs3' hu3
      have HU3 : Hid ((w1.setCell ⟨g, j * 4 + 2, none⟩ (.string (T2))).cell? ⟨g, j * 4 + 3, none⟩ = some (.slice ar3 lr3 cr3)) := hc3
      clear hu3
      go_wp2_with fail
      refine (HC3.out ()).mono ?_
      rintro e w2 ⟨rfl, hk3, hd3⟩
      rw [← HZ4.out]
      have M5 : Hid (HdR tau (n + 1) 51 (.slice (some ⟨g, 0, none⟩) len cap) len ns F Fs k (j * 4 + 4) w2) := by
        have h := HdR.rowed (g := g) (p := j * 4 + 3) M4.out hm3 (by simpa only [Nat.add_zero, Nat.mul_one] using HU3.out) hk3 (by rw [HX3.out, E3.out]; exact hd3)
        rw [Hid]
        simpa only [Nat.add_zero, Nat.mul_one] using h
      have K5 : Hid (Kp F w w2) := K4.out.trans (hk3.up (M4.out.lay.sub _))
      clear hk3 hd3 HC3 HU3 hc3 hz3
      go_wp2
      go_roundw
      case rel => exact ⟨j + 1, by go_num, by omega, by rw [← EE.out], by have h := M5.out; rwa [show j * 4 + 4 = (j + 1) * 4 by omega] at h, K5.out⟩
      case measure => simp [intOf]; omega
    · obtain rfl : j = len := by omega
      have HV : Hid ((ns.take (j * 4)).sum = ns.sum) := by rw [Hid, List.take_of_length_le (by rw [HNl.out]; exact Nat.le_refl _)]
      rw [HV.out]
      have i4 : ¬ (j : Int) < (j : Int) := by omega
      go_wp2
      go_ret
      exact ⟨rfl, K0.out, HdR.done M0.out⟩

set_option maxHeartbeats 3200000 in
set_option maxRecDepth 100000 in
theorem hhExNodeS {n c : Nat} {F : Nat → Prop} (v : Value) (k : Nat) (w : World) (hk0 : 0 < k) (hk : k + c ≤ 100000000000) (h : Hd tau (n + 2) (.row 51) w v c F (some k)) :
    Calls Try.prog 53 #[v, .int .i64 (k : Int)] w fun e w' => e = .returned (.int .i64 ((k + c : Nat) : Int)) ∧ Below w.heap.size w w' := by
  obtain ⟨a, len, cap, ns, Fs, rfl, hnl, rfl, hst⟩ := HdR.open (n := n + 1) h
  have H0 : Hid (HdR tau (n + 1) 51 (.slice a len cap) len ns F Fs k (len * 4) w) := hst
  have hlen := hst.long
  have HNl : Hid (ns.length = len * 4) := hnl
  clear h hst hnl
  go_enter Try.func53, Try.ntmps53
  go_wp2
  go_loopw [1, 5] (fun kv iv wr => ∃ j : Nat, iv = .int .i64 j ∧ j ≤ len ∧ kv = .int .i64 ((k + (ns.take (j * 4)).sum : Nat) : Int) ∧ Below w.heap.size w wr) (fun _ iv _ => len - (intOf iv).toNat)
  case atStart => exact ⟨0, rfl, Nat.zero_le _, by simp, Below.refl _ _⟩
  case round =>
    obtain ⟨j, rfl, hj, rfl, hb⟩ := hrel
    have B0 : Hid (Below w.heap.size w wr) := hb
    have M0 : Hid (HdR tau (n + 1) 51 (.slice a len cap) len ns F Fs k (len * 4) wr) := H0.out.ag (Ag.below hb)
    clear hb
    by_cases hlt : j < len
    · have i4 : (j : Int) < (len : Int) := by omega
      have hp0 : j * 4 + 0 < len * (tau 51).length := by show j * 4 + 0 < len * 4; omega
      have hm0 : (tau 51)[(j * 4 + 0) % (tau 51).length]? = some (.int) := by rw [show (j * 4 + 0) % (tau 51).length = 0 from mod_add j 4 0 (by omega)]; rfl
      obtain ⟨g0, u0, ea0, hF0, hc0, hz0, hu0⟩ := M0.out.at hp0 hm0
      subst ea0
      obtain ⟨g, rfl⟩ : ∃ g, g = g0 := ⟨g0, rfl⟩
      have t0 : (ns.take (j * 4 + 1)).sum = (ns.take (j * 4)).sum + ns.getD (j * 4 + 0) 0 := take_getD ns (j * 4 + 0)
      have hp1 : j * 4 + 1 < len * (tau 51).length := by show j * 4 + 1 < len * 4; omega
      have hm1 : (tau 51)[(j * 4 + 1) % (tau 51).length]? = some (.int) := by rw [show (j * 4 + 1) % (tau 51).length = 1 from mod_add j 4 1 (by omega)]; rfl
      obtain ⟨g1, u1, ea1, hF1, hc1, hz1, hu1⟩ := M0.out.at hp1 hm1
      cases ea1
      have t1 : (ns.take (j * 4 + 2)).sum = (ns.take (j * 4 + 1)).sum + ns.getD (j * 4 + 1) 0 := take_getD ns (j * 4 + 1)
      have hp2 : j * 4 + 2 < len * (tau 51).length := by show j * 4 + 2 < len * 4; omega
      have hm2 : (tau 51)[(j * 4 + 2) % (tau 51).length]? = some (.str) := by rw [show (j * 4 + 2) % (tau 51).length = 2 from mod_add j 4 2 (by omega)]; rfl
      obtain ⟨g2, u2, ea2, hF2, hc2, hz2, hu2⟩ := M0.out.at hp2 hm2
      cases ea2
      have t2 : (ns.take (j * 4 + 3)).sum = (ns.take (j * 4 + 2)).sum + ns.getD (j * 4 + 2) 0 := take_getD ns (j * 4 + 2)
      have hp3 : j * 4 + 3 < len * (tau 51).length := by show j * 4 + 3 < len * 4; omega
      have hm3 : (tau 51)[(j * 4 + 3) % (tau 51).length]? = some (.row 3) := by rw [show (j * 4 + 3) % (tau 51).length = 3 from mod_add j 4 3 (by omega)]; rfl
      obtain ⟨g3, u3, ea3, hF3, hc3, hz3, hu3⟩ := M0.out.at hp3 hm3
      cases ea3
      have t3 : (ns.take (j * 4 + 4)).sum = (ns.take (j * 4 + 3)).sum + ns.getD (j * 4 + 3) 0 := take_getD ns (j * 4 + 3)
      rw [if_pos (by omega)] at hu0
      have en0 : ns.getD (j * 4 + 0) 0 = 1 := by cases n <;> exact hu0.2
      rw [en0] at t0
      rw [if_pos (by omega)] at hu1
      have en1 : ns.getD (j * 4 + 1) 0 = 1 := by cases n <;> exact hu1.2
      rw [en1] at t1
      rw [if_pos (by omega)] at hu2
      have en2 : ns.getD (j * 4 + 2) 0 = 1 := by cases n <;> exact hu2.2
      rw [en2] at t2
      rw [if_pos (by omega)] at hu3
      obtain ⟨x3, hx3⟩ : ∃ x3 : Nat, x3 = ns.getD (j * 4 + 3) 0 := ⟨_, rfl⟩
      rw [← hx3] at t3 hu3
      have hle : (ns.take ((j + 1) * 4)).sum ≤ ns.sum := tk_le ns _
      rw [show (j + 1) * 4 = j * 4 + 4 by omega] at hle
      obtain ⟨z0, hz0'⟩ : ∃ z0 : Nat, z0 = k + (ns.take (j * 4)).sum := ⟨_, rfl⟩
      rw [← hz0']
      obtain ⟨z1, hz1'⟩ : ∃ z1 : Nat, z1 = z0 + 1 := ⟨_, rfl⟩
      obtain ⟨z2, hz2'⟩ : ∃ z2 : Nat, z2 = z1 + 1 := ⟨_, rfl⟩
      obtain ⟨z3, hz3'⟩ : ∃ z3 : Nat, z3 = z2 + 1 := ⟨_, rfl⟩
      obtain ⟨z4, hz4'⟩ : ∃ z4 : Nat, z4 = z3 + x3 := ⟨_, rfl⟩
      have E0 : k + (ns.take (j * 4 + 0)).sum = z0 := by rw [Nat.add_zero]; omega
      rw [E0] at hu0
      have ev0 : u0 = .int .i64 (z0 : Int) := by
        have h : ∃ z, u0 = .int .i64 z ∧ ∀ q, some z0 = some q → z = (q : Int) := by cases n <;> exact hu0.1
        obtain ⟨z, e1, e2⟩ := h
        rw [e1, e2 _ rfl]
      subst ev0
      have E1 : k + (ns.take (j * 4 + 1)).sum = z1 := by omega
      rw [E1] at hu1
      have ev1 : u1 = .int .i64 (z1 : Int) := by
        have h : ∃ z, u1 = .int .i64 z ∧ ∀ q, some z1 = some q → z = (q : Int) := by cases n <;> exact hu1.1
        obtain ⟨z, e1, e2⟩ := h
        rw [e1, e2 _ rfl]
      subst ev1
      have E2 : k + (ns.take (j * 4 + 2)).sum = z2 := by omega
      rw [E2] at hu2
      have ev2 : u2 = .string (str (markB z2)) := by
        have h : ∃ s, u2 = .string s ∧ ∀ q, some z2 = some q → s = str (markB q) := by cases n <;> exact hu2.1
        obtain ⟨s, e1, e2⟩ := h
        rw [e1, e2 _ rfl]
      subst ev2
      have E3 : k + (ns.take (j * 4 + 3)).sum = z3 := by omega
      rw [E3] at hu3
      have HZ4 : Hid (z4 = z3 + x3) := hz4'
      have EE : Hid (z4 = k + (ns.take ((j + 1) * 4)).sum) := by rw [Hid, show (j + 1) * 4 = j * 4 + 4 by omega]; omega
      have hp0' : 0 < z0 := by omega
      have hq0' : z0 ≤ 100000000000 := by omega
      have hp1' : 0 < z1 := by omega
      have hq1' : z1 ≤ 100000000000 := by omega
      have hp2' : 0 < z2 := by omega
      have hq2' : z2 ≤ 100000000000 := by omega
      have hp3' : 0 < z3 := by omega
      have hq3' : z3 ≤ 100000000000 := by omega
      have hp4' : 0 < z4 := by omega
      have hq4' : z4 ≤ 100000000000 := by omega
      have wp0 : IntKind.i64.wrap ((z0 : Int) + 1) = (z1 : Int) := by rw [IntKind.wrap_i64]; omega
      have wp1 : IntKind.i64.wrap ((z1 : Int) + 1) = (z2 : Int) := by rw [IntKind.wrap_i64]; omega
      have wp2 : IntKind.i64.wrap ((z2 : Int) + 1) = (z3 : Int) := by rw [IntKind.wrap_i64]; omega
      have hs3' : z3 + x3 ≤ 100000000000 := by omega
      rw [Nat.add_zero] at hc0
      obtain ⟨T2, hT2⟩ : ∃ T, T = str (markB z2) := ⟨_, rfl⟩
      rw [← hT2] at hc2
      have HM2 : Hid (∀ W, _) := fun W => mark_any z2 W hp2' (by omega)
      rw [← hT2] at HM2
      obtain ⟨ar3, lr3, cr3, er3⟩ : ∃ a l c, u3 = .slice a l c := by
        obtain ⟨a, l, c, _, _, e, _⟩ := HdR.open (n := n + 0) hu3
        exact ⟨a, l, c, e⟩
      subst er3
      have HC3 : Hid (∀ W, Below wr.heap.size wr W → _) := fun W hW => hhIntS (n := n + 0) (.slice ar3 lr3 cr3) z3 W hp3' hs3' (Hd.ag _ _ _ _ _ _ hu3 (Ag.below hW))
      clear hle hz0' hz1' hz2' hz3' hz4' t0 hz0 hF0 hm0 hp0 E0 hu0 t1 hz1 hF1 hm1 hp1 E1 hu1 t2 hz2 hF2 hm2 hp2 E2 hu2 t3 hz3 hF3 hm3 hp3 E3 hu3 en0 en1 en2 hx3 hT2
      have D0 : Hid (Below wr.heap.size wr wr) := Below.refl _ _
      go_wp2
      go_region_held3 (fun W => W.cell? ⟨g, j * 4 + 2, none⟩ = some (.string T2)) ((first | go_keep | exact cell_keep (W := wr.drew) hc2 hb2))
        ((first | (go_at_call 23; refine (HM2.out _).mono ?_; rintro e v1 ⟨rfl, hb2⟩)))
      have hb2' := bel_of_drew hb2
      have D1 : Hid (Below wr.heap.size wr v1) := D0.out.trans (hb2'.mono D0.out.size)
      have hk3_1 := cell_keep hc3 hb2'
      clear hb2 hb2'
      go_wp2_with fail
      refine (HC3.out _ D1.out).mono ?_
      rintro e v2 ⟨rfl, hb3'⟩
      rw [← HZ4.out]
      have hn3 : ¬ (z4 : Int) < 0 := by omega
      have D2 : Hid (Below wr.heap.size wr v2) := D1.out.trans (hb3'.mono D1.out.size)
      clear hb3'
      have BF : Hid (Below w.heap.size w v2) := B0.out.trans (D2.out.mono B0.out.size)
      go_wp2
      go_roundw
      case rel => exact ⟨j + 1, by go_num, by omega, by rw [← EE.out], BF.out⟩
      case measure => simp [intOf]; omega
    · obtain rfl : j = len := by omega
      have HV : Hid ((ns.take (j * 4)).sum = ns.sum) := by rw [Hid, List.take_of_length_le (by rw [HNl.out]; exact Nat.le_refl _)]
      rw [HV.out]
      have i4 : ¬ (j : Int) < (j : Int) := by omega
      go_wp2
      go_ret
      exact ⟨rfl, B0.out⟩

set_option maxHeartbeats 3200000 in
set_option maxRecDepth 100000 in
theorem hmExprS {n c : Nat} {F : Nat → Prop} (v : Value) (k : Nat) (w : World) (hk0 : 0 < k) (hk : k + c ≤ 100000000000) (h : Hd tau (n + 3) (.row 47) w v c F none) :
    Calls Try.prog 48 #[v, .int .i64 (k : Int)] w fun e w' => e = .returned (.int .i64 ((k + c : Nat) : Int)) ∧ Kp F w w' ∧ Hd tau (n + 3) (.row 47) w' v c F (some k) := by
  obtain ⟨a, len, cap, ns, Fs, rfl, hnl, rfl, hst⟩ := HdR.start (n := n + 2) h
  have H0 : Hid (HdR tau (n + 2) 47 (.slice a len cap) len ns F Fs k (0 * 1) w) := by rw [Hid, Nat.zero_mul]; exact hst k
  have hlen := (hst k).long
  have HNl : Hid (ns.length = len * 1) := hnl
  clear h hst hnl
  go_enter Try.func48, Try.ntmps48
  go_wp2
  go_loopw [1, 5] (fun kv iv wr => ∃ j : Nat, iv = .int .i64 j ∧ j ≤ len ∧ kv = .int .i64 ((k + (ns.take (j * 1)).sum : Nat) : Int) ∧ HdR tau (n + 2) 47 (.slice a len cap) len ns F Fs k (j * 1) wr ∧ Kp F w wr) (fun _ iv _ => len - (intOf iv).toNat)
  case atStart => exact ⟨0, rfl, Nat.zero_le _, by simp, H0.out, Kp.refl⟩
  case round =>
    obtain ⟨j, rfl, hj, rfl, hmr, hkp⟩ := hrel
    have M0 : Hid (HdR tau (n + 2) 47 (.slice a len cap) len ns F Fs k (j * 1) wr) := hmr
    have K0 : Hid (Kp F w wr) := hkp
    clear hmr hkp H0
    by_cases hlt : j < len
    · have i4 : (j : Int) < (len : Int) := by omega
      have hp0 : j * 1 + 0 < len * (tau 47).length := by show j * 1 + 0 < len * 1; omega
      have hm0 : (tau 47)[(j * 1 + 0) % (tau 47).length]? = some (.row 51) := by rw [show (j * 1 + 0) % (tau 47).length = 0 from mod_add j 1 0 (by omega)]; rfl
      obtain ⟨g0, u0, ea0, hF0, hc0, hz0, hu0⟩ := M0.out.at hp0 hm0
      subst ea0
      obtain ⟨g, rfl⟩ : ∃ g, g = g0 := ⟨g0, rfl⟩
      have t0 : (ns.take (j * 1 + 1)).sum = (ns.take (j * 1)).sum + ns.getD (j * 1 + 0) 0 := take_getD ns (j * 1 + 0)
      obtain ⟨x0, hx0⟩ : ∃ x0 : Nat, x0 = ns.getD (j * 1 + 0) 0 := ⟨_, rfl⟩
      rw [← hx0] at t0
      have HX0 : Hid (ns.getD (j * 1 + 0) 0 = x0) := hx0.symm
      have hle : (ns.take ((j + 1) * 1)).sum ≤ ns.sum := tk_le ns _
      rw [show (j + 1) * 1 = j * 1 + 1 by omega] at hle
      obtain ⟨z0, hz0'⟩ : ∃ z0 : Nat, z0 = k + (ns.take (j * 1)).sum := ⟨_, rfl⟩
      rw [← hz0']
      obtain ⟨z1, hz1'⟩ : ∃ z1 : Nat, z1 = z0 + x0 := ⟨_, rfl⟩
      have E0 : Hid (k + (ns.take (j * 1 + 0)).sum = z0) := by rw [Hid]; rw [Nat.add_zero]; omega
      have HZ1 : Hid (z1 = z0 + x0) := hz1'
      have EE : Hid (z1 = k + (ns.take ((j + 1) * 1)).sum) := by rw [Hid, show (j + 1) * 1 = j * 1 + 1 by omega]; omega
      have hp0' : 0 < z0 := by omega
      have hq0' : z0 ≤ 100000000000 := by omega
      have hp1' : 0 < z1 := by omega
      have hq1' : z1 ≤ 100000000000 := by omega
      have hs0' : z0 + x0 ≤ 100000000000 := by omega
      clear hle hz0' hz1' t0 hc0 hz0 hu0 hx0
      obtain ⟨gg0, v0, ea, hFg0, hc0, hz0, hu0⟩ := M0.out.at hp0 hm0
      cases ea
      rw [Nat.add_zero, Nat.mul_one] at hc0 hz0
      rw [if_neg (by omega), HX0.out] at hu0
      obtain ⟨ar0, lr0, cr0, er0⟩ : ∃ a l c, v0 = .slice a l c := by
        obtain ⟨a, l, c, _, _, e, _⟩ := HdR.start (n := n + 1) hu0
        exact ⟨a, l, c, e⟩
      subst er0
      have HC0 : Hid (∀ _ : Unit, _) := fun _ => hmExNodeS (n := n + 0) (.slice ar0 lr0 cr0) z0 wr hp0' hs0' hu0
      have HU0 : Hid (wr.cell? ⟨g, j, none⟩ = some (.slice ar0 lr0 cr0)) := hc0
      clear hu0
      go_wp2_with fail
      refine (HC0.out ()).mono ?_
      rintro e w1 ⟨rfl, hk0, hd0⟩
      rw [← HZ1.out]
      have M1 : Hid (HdR tau (n + 2) 47 (.slice (some ⟨g, 0, none⟩) len cap) len ns F Fs k (j * 1 + 1) w1) := by
        have h := HdR.rowed (g := g) (p := j * 1 + 0) M0.out hm0 (by simpa only [Nat.add_zero, Nat.mul_one] using HU0.out) hk0 (by rw [HX0.out, E0.out]; exact hd0)
        rw [Hid]
        simpa only [Nat.add_zero, Nat.mul_one] using h
      have K1 : Hid (Kp F w w1) := K0.out.trans (hk0.up (M0.out.lay.sub _))
      clear hk0 hd0 HC0 HU0 hc0 hz0
      go_wp2
      go_roundw
      case rel => exact ⟨j + 1, by go_num, by omega, by rw [← EE.out], by have h := M1.out; rwa [show j * 1 + 1 = (j + 1) * 1 by omega] at h, K1.out⟩
      case measure => simp [intOf]; omega
    · obtain rfl : j = len := by omega
      have HV : Hid ((ns.take (j * 1)).sum = ns.sum) := by rw [Hid, List.take_of_length_le (by rw [HNl.out]; exact Nat.le_refl _)]
      rw [HV.out]
      have i4 : ¬ (j : Int) < (j : Int) := by omega
      go_wp2
      go_ret
      exact ⟨rfl, K0.out, HdR.done M0.out⟩

set_option maxHeartbeats 3200000 in
set_option maxRecDepth 100000 in
theorem hhExprS {n c : Nat} {F : Nat → Prop} (v : Value) (k : Nat) (w : World) (hk0 : 0 < k) (hk : k + c ≤ 100000000000) (h : Hd tau (n + 3) (.row 47) w v c F (some k)) :
    Calls Try.prog 49 #[v, .int .i64 (k : Int)] w fun e w' => e = .returned (.int .i64 ((k + c : Nat) : Int)) ∧ Below w.heap.size w w' := by
  obtain ⟨a, len, cap, ns, Fs, rfl, hnl, rfl, hst⟩ := HdR.open (n := n + 2) h
  have H0 : Hid (HdR tau (n + 2) 47 (.slice a len cap) len ns F Fs k (len * 1) w) := hst
  have hlen := hst.long
  have HNl : Hid (ns.length = len * 1) := hnl
  clear h hst hnl
  go_enter Try.func49, Try.ntmps49
  go_wp2
  go_loopw [1, 5] (fun kv iv wr => ∃ j : Nat, iv = .int .i64 j ∧ j ≤ len ∧ kv = .int .i64 ((k + (ns.take (j * 1)).sum : Nat) : Int) ∧ Below w.heap.size w wr) (fun _ iv _ => len - (intOf iv).toNat)
  case atStart => exact ⟨0, rfl, Nat.zero_le _, by simp, Below.refl _ _⟩
  case round =>
    obtain ⟨j, rfl, hj, rfl, hb⟩ := hrel
    have B0 : Hid (Below w.heap.size w wr) := hb
    have M0 : Hid (HdR tau (n + 2) 47 (.slice a len cap) len ns F Fs k (len * 1) wr) := H0.out.ag (Ag.below hb)
    clear hb
    by_cases hlt : j < len
    · have i4 : (j : Int) < (len : Int) := by omega
      have hp0 : j * 1 + 0 < len * (tau 47).length := by show j * 1 + 0 < len * 1; omega
      have hm0 : (tau 47)[(j * 1 + 0) % (tau 47).length]? = some (.row 51) := by rw [show (j * 1 + 0) % (tau 47).length = 0 from mod_add j 1 0 (by omega)]; rfl
      obtain ⟨g0, u0, ea0, hF0, hc0, hz0, hu0⟩ := M0.out.at hp0 hm0
      subst ea0
      obtain ⟨g, rfl⟩ : ∃ g, g = g0 := ⟨g0, rfl⟩
      have t0 : (ns.take (j * 1 + 1)).sum = (ns.take (j * 1)).sum + ns.getD (j * 1 + 0) 0 := take_getD ns (j * 1 + 0)
      rw [if_pos (by omega)] at hu0
      obtain ⟨x0, hx0⟩ : ∃ x0 : Nat, x0 = ns.getD (j * 1 + 0) 0 := ⟨_, rfl⟩
      rw [← hx0] at t0 hu0
      have hle : (ns.take ((j + 1) * 1)).sum ≤ ns.sum := tk_le ns _
      rw [show (j + 1) * 1 = j * 1 + 1 by omega] at hle
      obtain ⟨z0, hz0'⟩ : ∃ z0 : Nat, z0 = k + (ns.take (j * 1)).sum := ⟨_, rfl⟩
      rw [← hz0']
      obtain ⟨z1, hz1'⟩ : ∃ z1 : Nat, z1 = z0 + x0 := ⟨_, rfl⟩
      have E0 : k + (ns.take (j * 1 + 0)).sum = z0 := by rw [Nat.add_zero]; omega
      rw [E0] at hu0
      have HZ1 : Hid (z1 = z0 + x0) := hz1'
      have EE : Hid (z1 = k + (ns.take ((j + 1) * 1)).sum) := by rw [Hid, show (j + 1) * 1 = j * 1 + 1 by omega]; omega
      have hp0' : 0 < z0 := by omega
      have hq0' : z0 ≤ 100000000000 := by omega
      have hp1' : 0 < z1 := by omega
      have hq1' : z1 ≤ 100000000000 := by omega
      have hs0' : z0 + x0 ≤ 100000000000 := by omega
      rw [Nat.add_zero, Nat.mul_one] at hc0
      obtain ⟨ar0, lr0, cr0, er0⟩ : ∃ a l c, u0 = .slice a l c := by
        obtain ⟨a, l, c, _, _, e, _⟩ := HdR.open (n := n + 1) hu0
        exact ⟨a, l, c, e⟩
      subst er0
      have HC0 : Hid (∀ W, Below wr.heap.size wr W → _) := fun W hW => hhExNodeS (n := n + 0) (.slice ar0 lr0 cr0) z0 W hp0' hs0' (Hd.ag _ _ _ _ _ _ hu0 (Ag.below hW))
      clear hle hz0' hz1' t0 hz0 hF0 hm0 hp0 E0 hu0 hx0 
      have D0 : Hid (Below wr.heap.size wr wr) := Below.refl _ _
      go_wp2_with fail
      refine (HC0.out _ D0.out).mono ?_
      rintro e v1 ⟨rfl, hb0'⟩
      rw [← HZ1.out]
      have hn0 : ¬ (z1 : Int) < 0 := by omega
      have D1 : Hid (Below wr.heap.size wr v1) := D0.out.trans (hb0'.mono D0.out.size)
      clear hb0'
      have BF : Hid (Below w.heap.size w v1) := B0.out.trans (D1.out.mono B0.out.size)
      go_wp2
      go_roundw
      case rel => exact ⟨j + 1, by go_num, by omega, by rw [← EE.out], BF.out⟩
      case measure => simp [intOf]; omega
    · obtain rfl : j = len := by omega
      have HV : Hid ((ns.take (j * 1)).sum = ns.sum) := by rw [Hid, List.take_of_length_le (by rw [HNl.out]; exact Nat.le_refl _)]
      rw [HV.out]
      have i4 : ¬ (j : Int) < (j : Int) := by omega
      go_wp2
      go_ret
      exact ⟨rfl, B0.out⟩

end Go.Proofs.Ytbjkfecailnelaa
