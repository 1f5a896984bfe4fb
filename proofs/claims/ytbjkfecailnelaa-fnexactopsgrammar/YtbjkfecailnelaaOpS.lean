/- The specification's OpsOk. -/
import Derived.Test.YtbjkfecailnelaaOpP
import Derived.Test.YtbjkfecailnelaaEnvOk
import Derived.Deep.RegionHeld3
import Derived.BigQuiet
namespace Go.Proofs.Ytbjkfecailnelaa
open Go.RowKit
set_option linter.unusedVariables false

theorem sgn_at (k : Nat) (h : k < 8) : signs13B.extract k (k + 1) = ⟨#[signs13[k]'h]⟩ := by
  match k, h with
  | 0, _ => rfl
  | 1, _ => rfl
  | 2, _ => rfl
  | 3, _ => rfl
  | 4, _ => rfl
  | 5, _ => rfl
  | 6, _ => rfl
  | 7, _ => rfl
def signN (s : ByteArray) (k : Nat) : Bool := (signs13.take k).any fun b => decide (s = ⟨#[b]⟩)
theorem signN_next (s : ByteArray) (k : Nat) (h : k < 8) : signN s (k + 1) = (signN s k || decide (s = signs13B.extract k (k + 1))) := by
  unfold signN
  rw [List.take_succ_eq_append_getElem (show k < signs13.length from h), List.any_append, sgn_at k h]
  simp only [List.any_cons, List.any_nil, Bool.or_false]
  rfl
theorem opsB_no {xs : List OpD} {i : Nat} (hi : i < xs.length) (h : op13 xs i xs[i] = false) : opsB xs = false := by
  unfold opsB
  rw [Bool.and_eq_false_iff]
  refine .inl (List.all_eq_false.2 ⟨i, List.mem_range.2 hi, ?_⟩)
  rw [List.getD_eq_getElem?_getD, List.getElem?_eq_getElem hi]
  show ¬ op13 xs i xs[i] = true
  rw [h]; decide
theorem opsB_yes {xs : List OpD} (h : ∀ i (hi : i < xs.length), op13 xs i xs[i] = true) : opsB xs = decide (1 ≤ xs.length ∧ xs.length ≤ 6) := by
  unfold opsB
  have : ((List.range xs.length).all fun i => op13 xs i (xs.getD i default)) = true := List.all_eq_true.2 fun i hi => by
    have hi' := List.mem_range.1 hi
    rw [List.getD_eq_getElem?_getD, List.getElem?_eq_getElem hi']
    exact h i hi'
  rw [this, Bool.true_and]

set_option maxHeartbeats 6400000 in
set_option maxRecDepth 100000 in
theorem specOpsOk_any (v : Value) (xs : List OpD) (w : World) (hl : xs.length ≤ 1048576) (h : Ops w v xs) :
    Calls Try.prog 14 #[v] w fun e w' => e = .returned (.bool (opsB xs)) ∧ Below w.heap.size w w' := by
  have HR : Hid (Ops w v xs) := h
  obtain ⟨a, cap, rfl⟩ := h.slice
  have HIn : Hid (∀ (n lo hi : Int) (W : World), Calls Try.prog 26 #[.int .i64 n, .int .i64 lo, .int .i64 hi] W fun e w' => e = .returned (.bool (decide (lo ≤ n ∧ n ≤ hi))) ∧ w' = W) := fun n lo hi W => in_any n lo hi W
  clear h
  go_enter Try.func14, Try.ntmps14
  go_wp2
  have HG8 : Hid ((⟨#[43, 45, 42, 94, 60, 62, 61, 44]⟩ : ByteArray).size = 8) := rfl
  have HG : Hid (signs13B = ⟨#[43, 45, 42, 94, 60, 62, 61, 44]⟩) := rfl
  generalize (⟨#[43, 45, 42, 94, 60, 62, 61, 44]⟩ : ByteArray) = G at *
  go_loopw [4] (fun iv wr => ∃ i q : Nat, iv = .int .i64 i ∧ i ≤ xs.length ∧ (∀ j (hj : j < xs.length), j < i → op13 xs j xs[j] = true) ∧ wr = w.drewN q) (fun iv _ => xs.length - (intOf iv).toNat)
  case atStart => exact ⟨0, 0, rfl, Nat.zero_le _, fun j hj h => absurd h (Nat.not_lt_zero _), rfl⟩
  case round =>
    obtain ⟨i, q, rfl, hi0, hall, rfl⟩ := hrel
    have HA : Hid (∀ j (hj : j < xs.length), j < i → op13 xs j xs[j] = true) := hall
    clear hall
    by_cases hi : i < xs.length
    · obtain ⟨b, off, rfl, n0, n1, n2⟩ := HR.out.at hi
      have i1 : (i : Int) < (xs.length : Int) := by omega
      have HO : Hid (op13 xs i xs[i] = (sign13 xs[i].sign && decide (1 ≤ xs[i].level ∧ xs[i].level ≤ 9) && (xs.take i).all fun y => pair13 y xs[i])) := rfl
      go_wp2
      go_loopw [5, 6] (fun fv kv wr => ∃ k p : Nat, kv = .int .i64 k ∧ k ≤ 8 ∧ fv = .bool (signN xs[i].sign k) ∧ wr = w.drewN p) (fun _ kv _ => 8 - (intOf kv).toNat)
      case atStart => exact ⟨0, q, rfl, by omega, rfl, rfl⟩
      case round =>
        obtain ⟨k, p, rfl, hk, rfl, rfl⟩ := hrel
        by_cases hk8 : k < 8
        · have j1 : (k : Int) < 8 := by omega
          have HN : Hid (signN xs[i].sign (k + 1) = _) := signN_next xs[i].sign k hk8
          have w1 : IntKind.i64.wrap ((k : Int) + 1) = ((k + 1 : Nat) : Int) := by rw [IntKind.wrap_i64]; omega
          rw [HG.out] at HN
          have g1 : (k : Int) < (G.size : Int) := by have := HG8.out; omega
          have g2 : (k : Int) + 1 ≤ (G.size : Int) := by have := HG8.out; omega
          have g0 : (0 : Int) ≤ (k : Int) := by omega
          have g4 : (k : Int) ≤ (k : Int) + 1 := by omega
          generalize signN xs[i].sign k = fd at *
          generalize xs[i].sign = s at *
          cases fd
          · rw [Bool.false_or] at HN
            by_cases hs : s = G.extract k (k + 1)
            · have qs := beq_yes hs
              rw [decide_eq_true hs] at HN
              clear hs
              go_wp2
              go_quiet (fail)
              go_wp2
              go_roundw
              case rel => exact ⟨k + 1, _, by go_num, by omega, by rw [HN.out], rfl⟩
              case measure => simp [intOf]; omega
            · have qs := beq_no hs
              rw [decide_eq_false hs] at HN
              clear hs
              go_wp2
              go_quiet (fail)
              go_wp2
              go_roundw
              case rel => exact ⟨k + 1, _, by go_num, by omega, by rw [HN.out], rfl⟩
              case measure => simp [intOf]; omega
          · rw [Bool.true_or] at HN
            go_wp2
            go_quiet (fail)
            go_wp2
            go_roundw
            case rel => exact ⟨k + 1, _, by go_num, by omega, by rw [HN.out], rfl⟩
            case measure => simp [intOf]; omega
        · obtain rfl : k = 8 := by omega
          have g5 : ¬ ((8 : Nat) : Int) < (G.size : Int) := by have := HG8.out; omega
          have HS8 : Hid (signN xs[i].sign 8 = sign13 xs[i].sign) := rfl
          rw [HS8.out]
          clear HS8
          generalize hsg : sign13 xs[i].sign = sg at *
          cases sg
          · have HV : Hid (opsB xs = false) := opsB_no hi (by rw [HO.out]; rfl)
            go_wp2
            go_ret
            rw [HV.out]
            exact ⟨rfl, bel_drewN (Below.refl _ _) p⟩
          · have HI : Hid (∀ W : World, _) := fun W => HIn.out xs[i].level 1 9 W
            by_cases hlv : 1 ≤ xs[i].level ∧ xs[i].level ≤ 9
            · rw [decide_eq_true hlv] at HI HO
              go_wp2_with (go_at_call 26; refine (HI.out _).mono ?_; rintro e wq ⟨rfl, hw⟩; rw [hw]; clear hw)
              go_loopw [7] (fun kv wr => ∃ k p : Nat, kv = .int .i64 k ∧ k ≤ i ∧ (∀ j (hj : j < xs.length), j < k → pair13 xs[j] xs[i] = true) ∧ wr = w.drewN p) (fun kv _ => i - (intOf kv).toNat)
              case atStart => exact ⟨0, p, rfl, Nat.zero_le _, fun j hj h => absurd h (Nat.not_lt_zero _), rfl⟩
              case round =>
                obtain ⟨k, r, rfl, hki, hpr, rfl⟩ := hrel
                have HP : Hid (∀ j (hj : j < xs.length), j < k → pair13 xs[j] xs[i] = true) := hpr
                clear hpr
                by_cases hk2 : k < i
                · have hkl : k < xs.length := by omega
                  obtain ⟨b', off', hbo, m0, m1, m2⟩ := HR.out.at hkl
                  obtain ⟨rfl, rfl⟩ : b = b' ∧ off = off' := by cases hbo; exact ⟨rfl, rfl⟩
                  have k1 : (k : Int) < (xs.length : Int) := by omega
                  have k2 : (k : Int) < (i : Int) := by omega
                  have HPP : Hid (pair13 xs[k] xs[i] = (!(decide (xs[k].sign = xs[i].sign)) && !(decide (xs[k].level = xs[i].level) && (xs[k].right != xs[i].right)))) := rfl
                  have HNo : Hid (pair13 xs[k] xs[i] = false → opsB xs = false) := fun h => opsB_no hi (by
                    rw [HO.out]
                    have : ((xs.take i).all fun y => pair13 y xs[i]) = false := List.all_eq_false.2 ⟨xs[k], List.mem_take_iff_getElem.2 ⟨k, by omega, rfl⟩, by rw [h]; decide⟩
                    rw [this]; rfl)
                  have HYe : Hid (pair13 xs[k] xs[i] = true → ∀ j (hj : j < xs.length), j < k + 1 → pair13 xs[j] xs[i] = true) := fun h j hj hjk => by
                    by_cases c : j = k
                    · subst c; exact h
                    · exact HP.out j hj (by omega)
                  clear hbo HP
                  generalize xs[k].sign = s1 at *
                  generalize xs[i].sign = s2 at *
                  generalize xs[k].level = l1 at *
                  generalize xs[i].level = l2 at *
                  generalize xs[k].right = r1 at *
                  generalize xs[i].right = r2 at *
                  by_cases hs : s1 = s2
                  · have qs := beq_yes hs
                    have HV : Hid (opsB xs = false) := HNo.out (by rw [HPP.out, decide_eq_true hs]; rfl)
                    clear hs
                    go_wp2
                    go_quiet (fail)
                    go_wp2
                    go_ret
                    rw [HV.out]
                    exact ⟨rfl, bel_drewN (bel_drewN (Below.refl _ _) r) _⟩
                  · have qs := beq_no hs
                    rw [decide_eq_false hs] at HPP
                    clear hs
                    by_cases hl2 : l1 = l2
                    · rw [decide_eq_true hl2] at HPP
                      subst hl2
                      cases r1 <;> cases r2
                      · have HV := HYe.out (by rw [HPP.out]; rfl)
                        have HW : Hid _ := HV
                        clear HV
                        go_wp2
                        go_quiet (fail)
                        go_wp2
                        go_roundw
                        case rel => exact ⟨k + 1, _, by go_num, by omega, HW.out, rfl⟩
                        case measure => simp [intOf]; omega
                      · have HV : Hid (opsB xs = false) := HNo.out (by rw [HPP.out]; rfl)
                        go_wp2
                        go_quiet (fail)
                        go_wp2
                        go_ret
                        rw [HV.out]
                        exact ⟨rfl, bel_drewN (bel_drewN (Below.refl _ _) r) _⟩
                      · have HV : Hid (opsB xs = false) := HNo.out (by rw [HPP.out]; rfl)
                        go_wp2
                        go_quiet (fail)
                        go_wp2
                        go_ret
                        rw [HV.out]
                        exact ⟨rfl, bel_drewN (bel_drewN (Below.refl _ _) r) _⟩
                      · have HV := HYe.out (by rw [HPP.out]; rfl)
                        have HW : Hid _ := HV
                        clear HV
                        go_wp2
                        go_quiet (fail)
                        go_wp2
                        go_roundw
                        case rel => exact ⟨k + 1, _, by go_num, by omega, HW.out, rfl⟩
                        case measure => simp [intOf]; omega
                    · have ql : (l1 == l2) = false := by rw [beq_eq_false_iff_ne]; exact hl2
                      have HV := HYe.out (by rw [HPP.out, decide_eq_false hl2]; rfl)
                      have HW : Hid _ := HV
                      clear HV
                      go_wp2
                      go_quiet (fail)
                      go_wp2
                      go_roundw
                      case rel => exact ⟨k + 1, _, by go_num, by omega, HW.out, rfl⟩
                      case measure => simp [intOf]; omega
                · obtain rfl : k = i := by omega
                  have k2 : ¬ (k : Int) < (k : Int) := by omega
                  have HOk : Hid (∀ j (hj : j < xs.length), j < k + 1 → op13 xs j xs[j] = true) := fun j hj hjk => by
                    by_cases c : j = k
                    · subst c
                      rw [HO.out]
                      have : ((xs.take j).all fun y => pair13 y xs[j]) = true := List.all_eq_true.2 fun y hy => by
                        obtain ⟨m, hm, rfl⟩ := List.mem_take_iff_getElem.1 hy
                        exact HP.out m (by omega) (by omega)
                      rw [this]; rfl
                    · exact HA.out j hj (by omega)
                  go_wp2
                  go_roundw
                  case rel => exact ⟨k + 1, r, by go_num, by omega, HOk.out, rfl⟩
                  case measure => simp [intOf]; omega
            · have HV : Hid (opsB xs = false) := opsB_no hi (by rw [HO.out, decide_eq_false hlv]; rfl)
              rw [decide_eq_false hlv] at HI
              go_wp2_with (go_at_call 26; refine (HI.out _).mono ?_; rintro e wq ⟨rfl, hw⟩; rw [hw]; clear hw)
              go_ret
              rw [HV.out]
              exact ⟨rfl, bel_drewN (Below.refl _ _) p⟩
    · obtain rfl : i = xs.length := by omega
      have HV : Hid (opsB xs = decide (1 ≤ xs.length ∧ xs.length ≤ 6)) := opsB_yes fun j hj => HA.out j hj hj
      have HI : Hid (∀ W : World, _) := fun W => HIn.out (xs.length : Int) 1 6 W
      go_wp2_with (go_at_call 26; refine (HI.out _).mono ?_; rintro e wq ⟨rfl, hw⟩; rw [hw]; clear hw)
      go_ret
      rw [HV.out]
      have e : decide ((1 : Int) ≤ (xs.length : Int) ∧ (xs.length : Int) ≤ 6) = decide (1 ≤ xs.length ∧ xs.length ≤ 6) := decide_eq_decide.2 (by omega)
      have e2 : (decide ((1 : Int) ≤ (xs.length : Int)) && decide ((xs.length : Int) ≤ 6)) = decide (1 ≤ xs.length ∧ xs.length ≤ 6) := by rw [← e, Bool.decide_and]
      exact ⟨congrArg (fun b => Ending.returned (Value.bool b)) e2, bel_drewN (Below.refl _ _) q⟩

end Go.Proofs.Ytbjkfecailnelaa
