/- The laws' marks on rows, written and found again (printed by mk/hd.py). -/
import Derived.Test.YtbjkfecailnelaaHdP
import Derived.Test.YtbjkfecailnelaaMK2
namespace Go.Proofs.Ytbjkfecailnelaa
open Go.RowKit
set_option linter.unusedVariables false

set_option maxHeartbeats 3200000 in
set_option maxRecDepth 100000 in
theorem hmIntS {n c : Nat} {F : Nat → Prop} (v : Value) (k : Nat) (w : World) (hk0 : 0 < k) (hk : k + c ≤ 100000000000) (h : Hd tau (n + 1) (.row 3) w v c F none) :
    Calls Try.prog 59 #[v, .int .i64 (k : Int)] w fun e w' => e = .returned (.int .i64 ((k + c : Nat) : Int)) ∧ Kp F w w' ∧ Hd tau (n + 1) (.row 3) w' v c F (some k) := by
  obtain ⟨a, len, cap, ns, Fs, rfl, hnl, rfl, hst⟩ := HdR.start (n := n + 0) h
  have H0 : Hid (HdR tau (n + 0) 3 (.slice a len cap) len ns F Fs k (0 * 1) w) := by rw [Hid, Nat.zero_mul]; exact hst k
  have hlen := (hst k).long
  have HNl : Hid (ns.length = len * 1) := hnl
  clear h hst hnl
  go_enter Try.func59, Try.ntmps59
  go_wp2
  go_loopw [1, 5] (fun kv iv wr => ∃ j : Nat, iv = .int .i64 j ∧ j ≤ len ∧ kv = .int .i64 ((k + (ns.take (j * 1)).sum : Nat) : Int) ∧ HdR tau (n + 0) 3 (.slice a len cap) len ns F Fs k (j * 1) wr ∧ Kp F w wr) (fun _ iv _ => len - (intOf iv).toNat)
  case atStart => exact ⟨0, rfl, Nat.zero_le _, by simp, H0.out, Kp.refl⟩
  case round =>
    obtain ⟨j, rfl, hj, rfl, hmr, hkp⟩ := hrel
    have M0 : Hid (HdR tau (n + 0) 3 (.slice a len cap) len ns F Fs k (j * 1) wr) := hmr
    have K0 : Hid (Kp F w wr) := hkp
    clear hmr hkp H0
    by_cases hlt : j < len
    · have i4 : (j : Int) < (len : Int) := by omega
      have hp0 : j * 1 + 0 < len * (tau 3).length := by show j * 1 + 0 < len * 1; omega
      have hm0 : (tau 3)[(j * 1 + 0) % (tau 3).length]? = some (.int) := by rw [show (j * 1 + 0) % (tau 3).length = 0 from mod_add j 1 0 (by omega)]; rfl
      obtain ⟨g0, u0, ea0, hF0, hc0, hz0, hu0⟩ := M0.out.at hp0 hm0
      subst ea0
      obtain ⟨g, rfl⟩ : ∃ g, g = g0 := ⟨g0, rfl⟩
      have t0 : (ns.take (j * 1 + 1)).sum = (ns.take (j * 1)).sum + ns.getD (j * 1 + 0) 0 := take_getD ns (j * 1 + 0)
      have en0 : ns.getD (j * 1 + 0) 0 = 1 := by cases n <;> exact hu0.2
      rw [en0] at t0
      have hle : (ns.take ((j + 1) * 1)).sum ≤ ns.sum := tk_le ns _
      rw [show (j + 1) * 1 = j * 1 + 1 by omega] at hle
      obtain ⟨z0, hz0'⟩ : ∃ z0 : Nat, z0 = k + (ns.take (j * 1)).sum := ⟨_, rfl⟩
      rw [← hz0']
      obtain ⟨z1, hz1'⟩ : ∃ z1 : Nat, z1 = z0 + 1 := ⟨_, rfl⟩
      have E0 : Hid (k + (ns.take (j * 1 + 0)).sum = z0) := by rw [Hid]; rw [Nat.add_zero]; omega
      have EN0 : Hid (ns.getD (j * 1 + 0) 0 = 1) := en0
      have EE : Hid (z1 = k + (ns.take ((j + 1) * 1)).sum) := by rw [Hid, show (j + 1) * 1 = j * 1 + 1 by omega]; omega
      have hp0' : 0 < z0 := by omega
      have hq0' : z0 ≤ 100000000000 := by omega
      have hp1' : 0 < z1 := by omega
      have hq1' : z1 ≤ 100000000000 := by omega
      have wp0 : IntKind.i64.wrap ((z0 : Int) + 1) = (z1 : Int) := by rw [IntKind.wrap_i64]; omega
      clear hle hz0' hz1' t0 hc0 hz0 hu0 en0
      obtain ⟨gg0, v0, ea, hFg0, hc0, hz0, hu0⟩ := M0.out.at hp0 hm0
      cases ea
      rw [Nat.add_zero, Nat.mul_one] at hc0 hz0
      have M1 : Hid (HdR tau (n + 0) 3 (.slice (some ⟨g, 0, none⟩) len cap) len ns F Fs k (j * 1 + 1) (wr.setCell ⟨g, j, none⟩ (.int .i64 (z0 : Int)))) := by
        have h := HdR.store (g := g) (p := j * 1 + 0) M0.out hm0 (u := .int .i64 (z0 : Int)) (fun W => by rw [EN0.out, E0.out]; exact Hd.numAt rfl)
        rw [Hid]
        simpa only [Nat.add_zero, Nat.mul_one] using h
      have K1 : Hid (Kp F w (wr.setCell ⟨g, j, none⟩ (.int .i64 (z0 : Int)))) := K0.out.trans (Kp.store hFg0)
      clear hu0
      go_wp2
      go_roundw
      case rel => exact ⟨j + 1, by go_num, by omega, by rw [← EE.out], by have h := M1.out; rwa [show j * 1 + 1 = (j + 1) * 1 by omega] at h, K1.out⟩
      case measure => simp [intOf]; omega
    · obtain rfl : j = len := by omega
      have HV : Hid ((ns.take (j * 1)).sum = ns.sum) := by rw [Hid, List.take_of_length_le (by rw [HNl.out]; exact Nat.le_refl _)]
      rw [HV.out]
      have i4 : ¬ (j : Int) < (j : Int) := by omega
      go_wp2
      go_ret
      exact ⟨rfl, K0.out, HdR.done M0.out⟩

set_option maxHeartbeats 3200000 in
set_option maxRecDepth 100000 in
theorem hhIntS {n c : Nat} {F : Nat → Prop} (v : Value) (k : Nat) (w : World) (hk0 : 0 < k) (hk : k + c ≤ 100000000000) (h : Hd tau (n + 1) (.row 3) w v c F (some k)) :
    Calls Try.prog 60 #[v, .int .i64 (k : Int)] w fun e w' => e = .returned (.int .i64 ((k + c : Nat) : Int)) ∧ Below w.heap.size w w' := by
  obtain ⟨a, len, cap, ns, Fs, rfl, hnl, rfl, hst⟩ := HdR.open (n := n + 0) h
  have H0 : Hid (HdR tau (n + 0) 3 (.slice a len cap) len ns F Fs k (len * 1) w) := hst
  have hlen := hst.long
  have HNl : Hid (ns.length = len * 1) := hnl
  clear h hst hnl
  go_enter Try.func60, Try.ntmps60
  go_wp2
  go_loopw [1, 5] (fun kv iv wr => ∃ j : Nat, iv = .int .i64 j ∧ j ≤ len ∧ kv = .int .i64 ((k + (ns.take (j * 1)).sum : Nat) : Int) ∧ Below w.heap.size w wr) (fun _ iv _ => len - (intOf iv).toNat)
  case atStart => exact ⟨0, rfl, Nat.zero_le _, by simp, Below.refl _ _⟩
  case round =>
    obtain ⟨j, rfl, hj, rfl, hb⟩ := hrel
    have B0 : Hid (Below w.heap.size w wr) := hb
    have M0 : Hid (HdR tau (n + 0) 3 (.slice a len cap) len ns F Fs k (len * 1) wr) := H0.out.ag (Ag.below hb)
    clear hb
    by_cases hlt : j < len
    · have i4 : (j : Int) < (len : Int) := by omega
      have hp0 : j * 1 + 0 < len * (tau 3).length := by show j * 1 + 0 < len * 1; omega
      have hm0 : (tau 3)[(j * 1 + 0) % (tau 3).length]? = some (.int) := by rw [show (j * 1 + 0) % (tau 3).length = 0 from mod_add j 1 0 (by omega)]; rfl
      obtain ⟨g0, u0, ea0, hF0, hc0, hz0, hu0⟩ := M0.out.at hp0 hm0
      subst ea0
      obtain ⟨g, rfl⟩ : ∃ g, g = g0 := ⟨g0, rfl⟩
      have t0 : (ns.take (j * 1 + 1)).sum = (ns.take (j * 1)).sum + ns.getD (j * 1 + 0) 0 := take_getD ns (j * 1 + 0)
      rw [if_pos (by omega)] at hu0
      have en0 : ns.getD (j * 1 + 0) 0 = 1 := by cases n <;> exact hu0.2
      rw [en0] at t0
      have hle : (ns.take ((j + 1) * 1)).sum ≤ ns.sum := tk_le ns _
      rw [show (j + 1) * 1 = j * 1 + 1 by omega] at hle
      obtain ⟨z0, hz0'⟩ : ∃ z0 : Nat, z0 = k + (ns.take (j * 1)).sum := ⟨_, rfl⟩
      rw [← hz0']
      obtain ⟨z1, hz1'⟩ : ∃ z1 : Nat, z1 = z0 + 1 := ⟨_, rfl⟩
      have E0 : k + (ns.take (j * 1 + 0)).sum = z0 := by rw [Nat.add_zero]; omega
      rw [E0] at hu0
      have ev0 : u0 = .int .i64 (z0 : Int) := by
        have h : ∃ z, u0 = .int .i64 z ∧ ∀ q, some z0 = some q → z = (q : Int) := by cases n <;> exact hu0.1
        obtain ⟨z, e1, e2⟩ := h
        rw [e1, e2 _ rfl]
      subst ev0
      have EE : Hid (z1 = k + (ns.take ((j + 1) * 1)).sum) := by rw [Hid, show (j + 1) * 1 = j * 1 + 1 by omega]; omega
      have hp0' : 0 < z0 := by omega
      have hq0' : z0 ≤ 100000000000 := by omega
      have hp1' : 0 < z1 := by omega
      have hq1' : z1 ≤ 100000000000 := by omega
      have wp0 : IntKind.i64.wrap ((z0 : Int) + 1) = (z1 : Int) := by rw [IntKind.wrap_i64]; omega
      rw [Nat.add_zero, Nat.mul_one] at hc0
      clear hle hz0' hz1' t0 hz0 hF0 hm0 hp0 E0 hu0 en0 
      have D0 : Hid (Below wr.heap.size wr wr) := Below.refl _ _
      have BF : Hid (Below w.heap.size w wr) := B0.out.trans (D0.out.mono B0.out.size)
      go_wp2
      go_roundw
      case rel => exact ⟨j + 1, by go_num, by omega, by rw [← EE.out], BF.out⟩
      case measure => simp [intOf]; omega
    · obtain rfl : j = len := by omega
      have HV : Hid ((ns.take (j * 1)).sum = ns.sum) := by rw [Hid, List.take_of_length_le (by rw [HNl.out]; exact Nat.le_refl _)]
      rw [HV.out]
      have i4 : ¬ (j : Int) < (j : Int) := by omega
      go_wp2
      go_ret
      exact ⟨rfl, B0.out⟩

set_option maxHeartbeats 3200000 in
set_option maxRecDepth 100000 in
theorem hmStringS {n c : Nat} {F : Nat → Prop} (v : Value) (k : Nat) (w : World) (hk0 : 0 < k) (hk : k + c ≤ 100000000000) (h : Hd tau (n + 1) (.row 9) w v c F none) :
    Calls Try.prog 35 #[v, .int .i64 (k : Int)] w fun e w' => e = .returned (.int .i64 ((k + c : Nat) : Int)) ∧ Kp F w w' ∧ Hd tau (n + 1) (.row 9) w' v c F (some k) := by
  obtain ⟨a, len, cap, ns, Fs, rfl, hnl, rfl, hst⟩ := HdR.start (n := n + 0) h
  have H0 : Hid (HdR tau (n + 0) 9 (.slice a len cap) len ns F Fs k (0 * 1) w) := by rw [Hid, Nat.zero_mul]; exact hst k
  have hlen := (hst k).long
  have HNl : Hid (ns.length = len * 1) := hnl
  clear h hst hnl
  go_enter Try.func35, Try.ntmps35
  go_wp2
  go_loopw [1, 5] (fun kv iv wr => ∃ j : Nat, iv = .int .i64 j ∧ j ≤ len ∧ kv = .int .i64 ((k + (ns.take (j * 1)).sum : Nat) : Int) ∧ HdR tau (n + 0) 9 (.slice a len cap) len ns F Fs k (j * 1) wr ∧ Kp F w wr) (fun _ iv _ => len - (intOf iv).toNat)
  case atStart => exact ⟨0, rfl, Nat.zero_le _, by simp, H0.out, Kp.refl⟩
  case round =>
    obtain ⟨j, rfl, hj, rfl, hmr, hkp⟩ := hrel
    have M0 : Hid (HdR tau (n + 0) 9 (.slice a len cap) len ns F Fs k (j * 1) wr) := hmr
    have K0 : Hid (Kp F w wr) := hkp
    clear hmr hkp H0
    by_cases hlt : j < len
    · have i4 : (j : Int) < (len : Int) := by omega
      have hp0 : j * 1 + 0 < len * (tau 9).length := by show j * 1 + 0 < len * 1; omega
      have hm0 : (tau 9)[(j * 1 + 0) % (tau 9).length]? = some (.str) := by rw [show (j * 1 + 0) % (tau 9).length = 0 from mod_add j 1 0 (by omega)]; rfl
      obtain ⟨g0, u0, ea0, hF0, hc0, hz0, hu0⟩ := M0.out.at hp0 hm0
      subst ea0
      obtain ⟨g, rfl⟩ : ∃ g, g = g0 := ⟨g0, rfl⟩
      have t0 : (ns.take (j * 1 + 1)).sum = (ns.take (j * 1)).sum + ns.getD (j * 1 + 0) 0 := take_getD ns (j * 1 + 0)
      have en0 : ns.getD (j * 1 + 0) 0 = 1 := by cases n <;> exact hu0.2
      rw [en0] at t0
      have hle : (ns.take ((j + 1) * 1)).sum ≤ ns.sum := tk_le ns _
      rw [show (j + 1) * 1 = j * 1 + 1 by omega] at hle
      obtain ⟨z0, hz0'⟩ : ∃ z0 : Nat, z0 = k + (ns.take (j * 1)).sum := ⟨_, rfl⟩
      rw [← hz0']
      obtain ⟨z1, hz1'⟩ : ∃ z1 : Nat, z1 = z0 + 1 := ⟨_, rfl⟩
      have E0 : Hid (k + (ns.take (j * 1 + 0)).sum = z0) := by rw [Hid]; rw [Nat.add_zero]; omega
      have EN0 : Hid (ns.getD (j * 1 + 0) 0 = 1) := en0
      have EE : Hid (z1 = k + (ns.take ((j + 1) * 1)).sum) := by rw [Hid, show (j + 1) * 1 = j * 1 + 1 by omega]; omega
      have hp0' : 0 < z0 := by omega
      have hq0' : z0 ≤ 100000000000 := by omega
      have hp1' : 0 < z1 := by omega
      have hq1' : z1 ≤ 100000000000 := by omega
      have wp0 : IntKind.i64.wrap ((z0 : Int) + 1) = (z1 : Int) := by rw [IntKind.wrap_i64]; omega
      clear hle hz0' hz1' t0 hc0 hz0 hu0 en0
      go_wp2_with fail
      refine (mark_any z0 _ hp0' (by omega)).mono ?_
      rintro e w1 ⟨rfl, hb0⟩
      have M1 : Hid (HdR tau (n + 0) 9 (.slice (some ⟨g, 0, none⟩) len cap) len ns F Fs k (j * 1 + 0) w1) := M0.out.ag (Ag.below hb0)
      have K1 : Hid (Kp F w w1) := K0.out.trans (Kp.below hb0)
      clear hb0
      obtain ⟨gg0, v0, ea, hFg0, hc0, hz0, hu0⟩ := M1.out.at hp0 hm0
      cases ea
      rw [Nat.add_zero, Nat.mul_one] at hc0 hz0
      have M2 : Hid (HdR tau (n + 0) 9 (.slice (some ⟨g, 0, none⟩) len cap) len ns F Fs k (j * 1 + 1) (w1.setCell ⟨g, j, none⟩ (.string (str (markB z0))))) := by
        have h := HdR.store (g := g) (p := j * 1 + 0) M1.out hm0 (u := .string (str (markB z0))) (fun W => by rw [EN0.out, E0.out]; exact Hd.textAt)
        rw [Hid]
        simpa only [Nat.add_zero, Nat.mul_one] using h
      have K2 : Hid (Kp F w (w1.setCell ⟨g, j, none⟩ (.string (str (markB z0))))) := K1.out.trans (Kp.store hFg0)
      clear hu0
      generalize str (markB z0) = T0 at *
      go_wp2
      go_roundw
      case rel => exact ⟨j + 1, by go_num, by omega, by rw [← EE.out], by have h := M2.out; rwa [show j * 1 + 1 = (j + 1) * 1 by omega] at h, K2.out⟩
      case measure => simp [intOf]; omega
    · obtain rfl : j = len := by omega
      have HV : Hid ((ns.take (j * 1)).sum = ns.sum) := by rw [Hid, List.take_of_length_le (by rw [HNl.out]; exact Nat.le_refl _)]
      rw [HV.out]
      have i4 : ¬ (j : Int) < (j : Int) := by omega
      go_wp2
      go_ret
      exact ⟨rfl, K0.out, HdR.done M0.out⟩

set_option maxHeartbeats 3200000 in
set_option maxRecDepth 100000 in
theorem hhStringS {n c : Nat} {F : Nat → Prop} (v : Value) (k : Nat) (w : World) (hk0 : 0 < k) (hk : k + c ≤ 100000000000) (h : Hd tau (n + 1) (.row 9) w v c F (some k)) :
    Calls Try.prog 37 #[v, .int .i64 (k : Int)] w fun e w' => e = .returned (.int .i64 ((k + c : Nat) : Int)) ∧ Below w.heap.size w w' := by
  obtain ⟨a, len, cap, ns, Fs, rfl, hnl, rfl, hst⟩ := HdR.open (n := n + 0) h
  have H0 : Hid (HdR tau (n + 0) 9 (.slice a len cap) len ns F Fs k (len * 1) w) := hst
  have hlen := hst.long
  have HNl : Hid (ns.length = len * 1) := hnl
  clear h hst hnl
  go_enter Try.func37, Try.ntmps37
  go_wp2
  go_loopw [1, 5] (fun kv iv wr => ∃ j : Nat, iv = .int .i64 j ∧ j ≤ len ∧ kv = .int .i64 ((k + (ns.take (j * 1)).sum : Nat) : Int) ∧ Below w.heap.size w wr) (fun _ iv _ => len - (intOf iv).toNat)
  case atStart => exact ⟨0, rfl, Nat.zero_le _, by simp, Below.refl _ _⟩
  case round =>
    obtain ⟨j, rfl, hj, rfl, hb⟩ := hrel
    have B0 : Hid (Below w.heap.size w wr) := hb
    have M0 : Hid (HdR tau (n + 0) 9 (.slice a len cap) len ns F Fs k (len * 1) wr) := H0.out.ag (Ag.below hb)
    clear hb
    by_cases hlt : j < len
    · have i4 : (j : Int) < (len : Int) := by omega
      have hp0 : j * 1 + 0 < len * (tau 9).length := by show j * 1 + 0 < len * 1; omega
      have hm0 : (tau 9)[(j * 1 + 0) % (tau 9).length]? = some (.str) := by rw [show (j * 1 + 0) % (tau 9).length = 0 from mod_add j 1 0 (by omega)]; rfl
      obtain ⟨g0, u0, ea0, hF0, hc0, hz0, hu0⟩ := M0.out.at hp0 hm0
      subst ea0
      obtain ⟨g, rfl⟩ : ∃ g, g = g0 := ⟨g0, rfl⟩
      have t0 : (ns.take (j * 1 + 1)).sum = (ns.take (j * 1)).sum + ns.getD (j * 1 + 0) 0 := take_getD ns (j * 1 + 0)
      rw [if_pos (by omega)] at hu0
      have en0 : ns.getD (j * 1 + 0) 0 = 1 := by cases n <;> exact hu0.2
      rw [en0] at t0
      have hle : (ns.take ((j + 1) * 1)).sum ≤ ns.sum := tk_le ns _
      rw [show (j + 1) * 1 = j * 1 + 1 by omega] at hle
      obtain ⟨z0, hz0'⟩ : ∃ z0 : Nat, z0 = k + (ns.take (j * 1)).sum := ⟨_, rfl⟩
      rw [← hz0']
      obtain ⟨z1, hz1'⟩ : ∃ z1 : Nat, z1 = z0 + 1 := ⟨_, rfl⟩
      have E0 : k + (ns.take (j * 1 + 0)).sum = z0 := by rw [Nat.add_zero]; omega
      rw [E0] at hu0
      have ev0 : u0 = .string (str (markB z0)) := by
        have h : ∃ s, u0 = .string s ∧ ∀ q, some z0 = some q → s = str (markB q) := by cases n <;> exact hu0.1
        obtain ⟨s, e1, e2⟩ := h
        rw [e1, e2 _ rfl]
      subst ev0
      have EE : Hid (z1 = k + (ns.take ((j + 1) * 1)).sum) := by rw [Hid, show (j + 1) * 1 = j * 1 + 1 by omega]; omega
      have hp0' : 0 < z0 := by omega
      have hq0' : z0 ≤ 100000000000 := by omega
      have hp1' : 0 < z1 := by omega
      have hq1' : z1 ≤ 100000000000 := by omega
      have wp0 : IntKind.i64.wrap ((z0 : Int) + 1) = (z1 : Int) := by rw [IntKind.wrap_i64]; omega
      rw [Nat.add_zero, Nat.mul_one] at hc0
      obtain ⟨T0, hT0⟩ : ∃ T, T = str (markB z0) := ⟨_, rfl⟩
      rw [← hT0] at hc0
      have HM0 : Hid (∀ W, _) := fun W => mark_any z0 W hp0' (by omega)
      rw [← hT0] at HM0
      clear hle hz0' hz1' t0 hz0 hF0 hm0 hp0 E0 hu0 en0 hT0
      have D0 : Hid (Below wr.heap.size wr wr) := Below.refl _ _
      go_wp2
      go_region_held3 (fun W => W.cell? ⟨g, j, none⟩ = some (.string T0)) ((first | go_keep | exact cell_keep (W := wr.drew) hc0 hb0))
        ((first | (go_at_call 23; refine (HM0.out _).mono ?_; rintro e v1 ⟨rfl, hb0⟩)))
      have hb0' := bel_of_drew hb0
      have D1 : Hid (Below wr.heap.size wr v1) := D0.out.trans (hb0'.mono D0.out.size)
      clear hb0 hb0'
      have BF : Hid (Below w.heap.size w v1) := B0.out.trans (D1.out.mono B0.out.size)
      go_wp2
      go_roundw
      case rel => exact ⟨j + 1, by go_num, by omega, by rw [← EE.out], BF.out⟩
      case measure => simp [intOf]; omega
    · obtain rfl : j = len := by omega
      have HV : Hid ((ns.take (j * 1)).sum = ns.sum) := by rw [Hid, List.take_of_length_le (by rw [HNl.out]; exact Nat.le_refl _)]
      rw [HV.out]
      have i4 : ¬ (j : Int) < (j : Int) := by omega
      go_wp2
      go_ret
      exact ⟨rfl, B0.out⟩

end Go.Proofs.Ytbjkfecailnelaa
