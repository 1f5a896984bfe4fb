/- The program's rulesMet (printed by mk/f15ti.py). -/
import Derived.Test.YtkmkfpgaehgonaaGreatDoorF15TO
import Derived.Test.YtkmkfpgaehgonaaGreatDoorF15T1
import Derived.Test.YtkmkfpgaehgonaaGreatDoorF15I
import Derived.Test.YtkmkfpgaehgonaaGreatDoorF15C4
import Derived.Test.YtkmkfpgaehgonaaGreatDoorIGram
import Derived.Test.YtkmkfpgaehgonaaGreatDoorEnvImpl
namespace Go.Proofs.YtkmkfpgaehgonaaGreatDoor
open Go.RowKit
set_option linter.unusedVariables false

set_option maxHeartbeats 6400000 in
set_option maxRecDepth 100000 in
theorem rulesMet_any (v : Value) (xs : List RuleD) (w : World) (hgr : gramB xs = true) (hg : grammarTot xs ≤ 1048576) (hv : RowC 3 RuleE w v xs) :
    Calls Tryz.prog 19 #[.agg #[v]] w fun e w' => ∃ (lv : Value) (L : List Nat), e = .returned (.agg #[lv]) ∧ OwnZ w.heap.size lv (zs15 L) w' ∧ L.length ≤ 1048575 ∧ (∀ q, L.contains q = keepT xs q) ∧ Below w.heap.size w w' := by
  have hgl : xs.length ≤ 1048576 := Nat.le_trans (rowTot_len ruleTot xs) hg
  have hn30 : 0 < xs.length ∧ xs.length ≤ 30 := by
    have h := hgr
    rw [gramB, Bool.and_eq_true, Bool.and_eq_true, decide_eq_true_eq] at h
    have := h.1.1
    omega
  have HGr : Hid (gramB xs = true) := hgr
  obtain ⟨a, c, rfl⟩ := hv.slice
  have hBa : Below w.heap.size w (w.alloc (.cells #[.slice a xs.length c] 28)) := (Below.refl _ _).alloc (Nat.le_refl _) _
  have BW : Hid (Below w.heap.size w ((w.alloc (.cells #[.slice a xs.length c] 28)).alloc (.cells #[.slice none 0 0] 46))) := hBa.alloc hBa.size _
  have P1 : Hid (((w.alloc (.cells #[.slice a xs.length c] 28)).alloc (.cells #[.slice none 0 0] 46)).heap[w.heap.size + 1]? = some (.cells #[.slice none 0 0] 46)) := by
    have h := heap_alloc_new (w.alloc (.cells #[.slice a xs.length c] 28)) (.cells #[.slice none 0 0] 46)
    rwa [show (w.alloc (.cells #[.slice a xs.length c] 28)).heap.size = w.heap.size + 1 by simp] at h
  have hE : (((w.alloc (.cells #[.slice a xs.length c] 28)).alloc (.cells #[.slice none 0 0] 46)).alloc (.cells #[.slice none 0 0] 46)).cell? ⟨w.heap.size, 0, none⟩ = some (.slice a xs.length c) := cell_keep (cell_keep (box_at _ _ _ 0 _ rfl) ((Below.refl _ _).alloc (Nat.le_refl _) _)) ((Below.refl _ _).alloc (Nat.le_refl _) _)
  have HS : Hid (((w.alloc (.cells #[.slice a xs.length c] 28)).alloc (.cells #[.slice none 0 0] 46)).heap.size = w.heap.size + 2) := by rw [Hid]; simp
  have HX1 : Hid ((((w.alloc (.cells #[.slice a xs.length c] 28)).alloc (.cells #[.slice none 0 0] 46)).alloc (.cells #[.slice none 0 0] 46)).heap[w.heap.size + 2]? = some (.cells #[.slice none 0 0] 46)) := by
    have h := heap_alloc_new ((w.alloc (.cells #[.slice a xs.length c] 28)).alloc (.cells #[.slice none 0 0] 46)) (.cells #[.slice none 0 0] 46)
    rwa [HS.out] at h
  have HB1 : Hid (Below ((w.alloc (.cells #[.slice a xs.length c] 28)).alloc (.cells #[.slice none 0 0] 46)).heap.size ((w.alloc (.cells #[.slice a xs.length c] 28)).alloc (.cells #[.slice none 0 0] 46)) (((w.alloc (.cells #[.slice a xs.length c] 28)).alloc (.cells #[.slice none 0 0] 46)).alloc (.cells #[.slice none 0 0] 46))) := (Below.refl _ _).alloc (Nat.le_refl _) _
  have HS1 : Hid ((((w.alloc (.cells #[.slice a xs.length c] 28)).alloc (.cells #[.slice none 0 0] 46)).alloc (.cells #[.slice none 0 0] 46)).heap.size = w.heap.size + 3) := by rw [Hid]; simp
  have HSt : Hid (∀ W, Below w.heap.size w W → RowC 3 RuleE W (.slice a xs.length c) xs) := fun W hW => RowC.below RuleE_stable hv hW
  have HAt : Hid (∀ (s : ByteArray) W, Below w.heap.size w W → _) := fun s W hW => implRuleAt_any (.slice a xs.length c) xs s W hgl (HSt.out W hW)
  have HCa : Hid (∀ (r : Nat) W, Below w.heap.size w W → _) := fun r W hW => implCallsOf_any (.slice a xs.length c) xs (r : Int) W hg (HSt.out W hW)
  clear hv hBa hgr
  go_enter Tryz.func19, Tryz.ntmps19
  go_wp2_with fail
  generalize (((w.alloc (.cells #[.slice a xs.length c] 28)).alloc (.cells #[.slice none 0 0] 46)).alloc (.cells #[.slice none 0 0] 46)) = W1 at *
  generalize ((w.alloc (.cells #[.slice a xs.length c] 28)).alloc (.cells #[.slice none 0 0] 46)) = W0 at *
  have HM0 : Hid (Met15 (w.heap.size + 2) W1.heap.size [] (.slice none 0 0) W1) := ⟨HX1.out, by unfold OwnZ; exact ⟨rfl, .inl ⟨rfl, rfl⟩⟩⟩
  have HAdd : Hid (∀ (L : List Nat) (lv : Value) (j : Nat) (W : World), L.length ≤ 30 → W1.heap.size ≤ W.heap.size → Met15 (w.heap.size + 2) W1.heap.size L lv W → _) := fun L lv j W hL hW hm => add15_any (w.heap.size + 2) W1.heap.size W0.heap.size L lv j W (by omega) (by rw [HS.out]; exact Nat.le_refl _) HB1.out.size hW hm
  refine (HAdd.out [] _ 0 W1 (by simp) (Nat.le_refl _) HM0.out).mono ?_
  rintro e w2 ⟨rfl, ⟨l2, hm2⟩, hf2⟩
  have eA0 : addL [] 0 = [0] := by simp [addL]
  rw [eA0] at hm2
  have HM2 : Hid (∃ lv, Met15 (w.heap.size + 2) W1.heap.size [0] lv w2) := ⟨l2, hm2⟩
  have HB2 : Hid (Below W0.heap.size W0 w2) := HB1.out.trans hf2.bel
  have HZ2 : Hid (W1.heap.size ≤ w2.heap.size) := hf2.bel.size
  have HE0 : Hid (W0.cell? ⟨w.heap.size, 0, none⟩ = some (.slice a xs.length c)) := by
    rw [Hid, ← hE]
    exact (World.cell?_of_block (HB1.out.block _ (by rw [HS.out]; show w.heap.size < _; omega))).symm
  clear hm2 hf2 hE HX1 HM0 eA0
  go_wp2
  go_loopw [4] (fun iv wr => ∃ (i : Nat) (L : List Nat), iv = .int .i64 i ∧ i ≤ L.length ∧ MetI (jsG xs) xs.length L i ∧ (∃ lv, Met15 (w.heap.size + 2) W1.heap.size L lv wr) ∧ Below W0.heap.size W0 wr ∧ W1.heap.size ≤ wr.heap.size) (fun iv _ => xs.length - (intOf iv).toNat)
  case atStart => exact ⟨0, [0], rfl, Nat.zero_le _, metI_first hn30.1, HM2.out, HB2.out, HZ2.out⟩
  case round =>
    clear HM2 HB2 HZ2
    obtain ⟨i, L, rfl, hi, hmi, ⟨lv, hm⟩, hb, hz⟩ := hrel
    obtain ⟨wi, rfl⟩ : ∃ W, W = wr := ⟨wr, rfl⟩
    have HMi : Hid (MetI (jsG xs) xs.length L i) := hmi
    obtain ⟨la, lc, rfl⟩ := hm.own.row.slice
    rw [zs15_len] at hm
    have HM : Hid (Met15 (w.heap.size + 2) W1.heap.size L (.slice la L.length lc) wi) := hm
    have HB : Hid (Below W0.heap.size W0 wi) := hb
    have HZ : Hid (W1.heap.size ≤ wi.heap.size) := hz
    have hLn : L.length ≤ xs.length := hmi.len
    have cg := cell_keep HE0.out hb
    have cl : wi.cell? ⟨w.heap.size + 2, 0, none⟩ = some (.slice la L.length lc) := run_cell hm.box rfl
    clear hmi hm hb hz
    by_cases hlt : i < L.length
    · have i4 : (i : Int) < (L.length : Int) := by omega
      obtain ⟨q, hq⟩ : ∃ q, q = L[i] := ⟨_, rfl⟩
      have hqn : q < xs.length := by rw [hq]; exact HMi.out.lt _ (List.getElem_mem hlt)
      have hrow := HM.out.own.row
      have hle : i < (zs15 L).length := by rw [zs15_len]; exact hlt
      obtain ⟨lb, lo, hla, hce⟩ := hrow.at hle
      subst hla
      rw [zs15_at L i hlt, ← hq] at hce
      have HJ0 : Hid (MetJ (jsG xs) xs.length L i 0 q) := ⟨HMi.out, hlt, by rw [List.getElem?_eq_getElem hlt, hq], fun j hj => by simp at hj⟩
      clear hrow hle hq
      go_wp2_with fail
      refine wp_region_K (k := 6) (S := fun V => V.cell? ⟨w.heap.size, 0, none⟩ = some (.slice a xs.length c) ∧ V.cell? ⟨w.heap.size + 2, 0, none⟩ = some (.slice (some ⟨lb, lo, none⟩) L.length lc) ∧ V.cell? ⟨lb, lo + i, none⟩ = some (.int .i64 (q : Int))) (by kernel_rfl) ?_ (fun hHeld hcl => ?_)
      · exact ⟨cg, cl, hce⟩
      refine wpAnyK_take [0] (i := 0) (d := some 16) (v := ?av0) (by assumption) rfl (by kernel_rfl) (by kernel_rfl) (by kernel_rfl) (by kernel_rfl) (by kernel_rfl) (by decide) (by rfl) (fun _ _ _ h => h) (Or.inl ⟨by rfl, ?ah0⟩) (by assumption) (fun hcl0 => ?ar0)
      case ah0 => (intro w hSw; (try dsimp only at hSw); go_simp; first | done | with_reducible rfl)
      case' ar0 => (clear hcl; simp only [Act.put, List.setIfInBounds_toArray, List.set_cons_zero, List.set_cons_succ])
      refine wpAnyK_free (i := 1) (d := some 17) (v := ?av1) (by assumption) rfl (by kernel_rfl) (by kernel_rfl) (by kernel_rfl) (by decide) (by rfl) (fun _ _ _ h => h) (Or.inl ⟨by rfl, ?ah1⟩) (.inr (by assumption)) (fun hcl1 => ?ar1)
      case ah1 => (intro w hSw; (try dsimp only at hSw); go_simp; first | done | with_reducible rfl)
      case' ar1 => (clear hcl0; simp only [Act.put, List.setIfInBounds_toArray, List.set_cons_zero, List.set_cons_succ])
      refine wpAnyK_take [5, 4, 2] (i := 2) (d := some 18) (v := ?av2) (by assumption) rfl (by kernel_rfl) (by kernel_rfl) (by kernel_rfl) (by kernel_rfl) (by kernel_rfl) (by decide) (by rfl) (fun _ _ _ h => h) (Or.inl ⟨by rfl, ?ah2⟩) (by assumption) (fun hcl2 => ?ar2)
      case ah2 => (intro w hSw; (try dsimp only at hSw); go_simp; first | done | with_reducible rfl)
      case' ar2 => (clear hcl1; simp only [Act.put, List.setIfInBounds_toArray, List.set_cons_zero, List.set_cons_succ])
      refine wpAnyK_free (i := 3) (d := some 19) (v := ?av3) (by assumption) rfl (by kernel_rfl) (by kernel_rfl) (by kernel_rfl) (by decide) (by rfl) (fun _ _ _ h => h) (Or.inl ⟨by rfl, ?ah3⟩) (.inr (by assumption)) (fun hcl3 => ?ar3)
      case ah3 => (intro w hSw; (try dsimp only at hSw); go_simp; first | done | with_reducible rfl)
      case' ar3 => (clear hcl2; simp only [Act.put, List.setIfInBounds_toArray, List.set_cons_zero, List.set_cons_succ])
      refine wpAnyK_free (i := 4) (d := some 20) (v := ?av4) (by assumption) rfl (by kernel_rfl) (by kernel_rfl) (by kernel_rfl) (by decide) (by rfl) (fun _ _ _ h => h) (Or.inl ⟨by rfl, ?ah4⟩) (.inr (by assumption)) (fun hcl4 => ?ar4)
      case ah4 => (intro w hSw; (try dsimp only at hSw); go_simp; first | done | with_reducible rfl)
      case' ar4 => (clear hcl3; simp only [Act.put, List.setIfInBounds_toArray, List.set_cons_zero, List.set_cons_succ])
      refine wpAnyK_take [5] (i := 5) (d := some 21) (v := ?av5) (by assumption) rfl (by kernel_rfl) (by kernel_rfl) (by kernel_rfl) (by kernel_rfl) (by kernel_rfl) (by decide) (by rfl) (fun _ _ _ h => h) (Or.inl ⟨by rfl, ?ah5⟩) (by assumption) (fun hcl5 => ?ar5)
      case ah5 => (intro w hSw; (try dsimp only at hSw); go_simp; first | done | with_reducible rfl)
      case' ar5 => (clear hcl4; simp only [Act.put, List.setIfInBounds_toArray, List.set_cons_zero, List.set_cons_succ])
      refine wpAnyK_free (i := 8) (d := some 24) (v := ?av8) (by assumption) rfl (by kernel_rfl) (by kernel_rfl) (by kernel_rfl) (by decide) (by rfl) (fun _ _ _ h => h) (Or.inl ⟨by rfl, ?ah8⟩) (.inr (by assumption)) (fun hcl8 => ?ar8)
      case ah8 => (intro w hSw; (try dsimp only at hSw); go_simp; first | done | with_reducible rfl)
      case' ar8 => (clear hcl5; simp only [Act.put, List.setIfInBounds_toArray, List.set_cons_zero, List.set_cons_succ])
      refine wpAnyK_past (i := 6) (by assumption) (by kernel_rfl) rfl (by kernel_rfl) (fun K hK => ?_)
      go_simp
      go_at_call 36
      refine (HCa.out q _ (BW.out.trans (HB.out.drew.mono BW.out.size))).mono ?_
      rintro e w4 ⟨cv, rfl, hcv, hb4⟩
      have hb4' : Below wi.heap.size wi w4 := bel_of_drew hb4
      obtain ⟨ca, cc, rfl⟩ := hcv.row.slice
      have HQ4 : Hid (OwnB wi.heap.size (.slice ca (callsB xs (q : Int)).length cc) (callsB xs (q : Int)) w4) := hcv
      have HM4 : Hid (Met15 (w.heap.size + 2) W1.heap.size L (.slice (some ⟨lb, lo, none⟩) L.length lc) w4) := HM.out.below hb4'
      have HB4 : Hid (Below W0.heap.size W0 w4) := HB.out.trans (hb4'.mono HB.out.size)
      have HZ4 : Hid (W1.heap.size ≤ w4.heap.size) := Nat.le_trans HZ.out hb4'.size
      have hcl9 : (callsB xs (q : Int)).length ≤ 1048576 := Nat.le_trans (callsB_lenT xs q) hg
      go_simp
      refine hK.out _ _ (fun hcl6 => ?_)
      refine wpAnyK_past (i := 7) (by assumption) (by kernel_rfl) rfl (by kernel_rfl) (fun K hK => ?_)
      go_simp
      refine hK.out _ _ (fun hcl7 => ?_)
      refine wpAnyK_done (by kernel_rfl) ?_
      clear hcl6 hcl7 hHeld hcv hb4 hb4' cg cl hce
      go_wp2
      go_loopw [24] (fun kv wr => ∃ (k : Nat) (M : List Nat), kv = .int .i64 k ∧ k ≤ (callsB xs (q : Int)).length ∧ MetJ (jsG xs) xs.length M i k q ∧ (∃ lv, Met15 (w.heap.size + 2) W1.heap.size M lv wr) ∧ OwnB wi.heap.size (.slice ca (callsB xs (q : Int)).length cc) (callsB xs (q : Int)) wr ∧ Below W0.heap.size W0 wr ∧ W1.heap.size ≤ wr.heap.size) (fun kv _ => (callsB xs (q : Int)).length - (intOf kv).toNat)
      case atStart => exact ⟨0, L, rfl, Nat.zero_le _, HJ0.out, ⟨_, HM4.out⟩, HQ4.out, HB4.out, HZ4.out⟩
      case round =>
        clear HQ4 HM4 HB4 HZ4 HJ0
        obtain ⟨k, M, rfl, hk, hmj, ⟨mv, hm⟩, hq, hb, hz⟩ := hrel
        obtain ⟨wk, rfl⟩ : ∃ W, W = wr := ⟨wr, rfl⟩
        have HJ : Hid (MetJ (jsG xs) xs.length M i k q) := hmj
        have HMk : Hid (Met15 (w.heap.size + 2) W1.heap.size M mv wk) := hm
        have HQk : Hid (OwnB wi.heap.size (.slice ca (callsB xs (q : Int)).length cc) (callsB xs (q : Int)) wk) := hq
        have HBk : Hid (Below W0.heap.size W0 wk) := hb
        have HZk : Hid (W1.heap.size ≤ wk.heap.size) := hz
        have cg := cell_keep HE0.out hb
        have hjl : (jsG xs q).length = (callsB xs (q : Int)).length := by rw [jsG, List.length_map]
        clear hmj hm hq hb hz
        by_cases hlk : k < (callsB xs (q : Int)).length
        · have i6 : (k : Int) < ((callsB xs (q : Int)).length : Int) := by omega
          obtain ⟨nb, no, hca, hnc⟩ := HQk.out.row.at hlk
          subst hca
          obtain ⟨nm, hnm⟩ : ∃ nm, nm = (callsB xs (q : Int))[k] := ⟨_, rfl⟩
          rw [← hnm] at hnc
          have hpl := calls_place HGr.out hqn (nm := nm) (by rw [hnm]; exact List.getElem_mem hlk)
          obtain ⟨j, hj⟩ : ∃ j : Nat, ruleAtI xs nm = (j : Int) := ⟨(ruleAtI xs nm).toNat, by omega⟩
          have HJn : Hid (MetJ (jsG xs) xs.length (addL M j) i (k + 1) q) := by
            have hk2 : k < (jsG xs q).length := by omega
            have e : (jsG xs q)[k] = j := by
              have e1 : (jsG xs q)[k] = (ruleAtI xs (callsB xs (q : Int))[k]).toNat := List.getElem_map ..
              rw [e1, ← hnm, hj]
              rfl
            exact HJ.out.add hk2 e (by omega)
          have HAk : Hid (∀ W, Below w.heap.size w W → Calls Tryz.prog 37 #[.agg #[.slice a xs.length c], .string nm] W fun e w' => e = .returned (.int .i64 (j : Int)) ∧ Below W.heap.size W w') := fun W hW => by
            have h1 := HAt.out nm W hW
            rw [hj] at h1
            exact h1
          clear hpl hj hnm
          go_wp2_with fail
          refine (HAk.out _ (BW.out.trans (HBk.out.mono BW.out.size))).mono ?_
          rintro e w5 ⟨rfl, hb5⟩
          have HM5 : Hid (Met15 (w.heap.size + 2) W1.heap.size M mv w5) := HMk.out.below hb5
          have HB5 : Hid (Below W0.heap.size W0 w5) := HBk.out.trans (hb5.mono HBk.out.size)
          have HZ5 : Hid (W1.heap.size ≤ w5.heap.size) := Nat.le_trans HZk.out hb5.size
          have HQ5 : Hid (OwnB wi.heap.size (.slice (some ⟨nb, no, none⟩) (callsB xs (q : Int)).length cc) (callsB xs (q : Int)) w5) := HQk.out.below hb5
          clear hb5
          go_wp2_with fail
          refine (HAdd.out M mv j w5 (by have := HJ.out.base.len; omega) HZ5.out HM5.out).mono ?_
          rintro e w6 ⟨rfl, hm6, hf6⟩
          have HM6 : Hid (∃ lv, Met15 (w.heap.size + 2) W1.heap.size (addL M j) lv w6) := hm6
          have HB6 : Hid (Below W0.heap.size W0 w6) := HB5.out.trans hf6.bel
          have HZ6 : Hid (W1.heap.size ≤ w6.heap.size) := Nat.le_trans HZ5.out hf6.bel.size
          have HQ6 : Hid (OwnB wi.heap.size (.slice (some ⟨nb, no, none⟩) (callsB xs (q : Int)).length cc) (callsB xs (q : Int)) w6) := own_frT HQ5.out hf6 (by decide)
          clear hm6 hf6
          go_wp2
          go_roundw
          case rel => exact ⟨k + 1, _, by go_num, by omega, HJn.out, HM6.out, HQ6.out, HB6.out, HZ6.out⟩
          case measure => simp [intOf]; omega
        · obtain rfl : k = (callsB xs (q : Int)).length := by omega
          have i6 : ¬ ((callsB xs (q : Int)).length : Int) < ((callsB xs (q : Int)).length : Int) := by omega
          have HNx : Hid (MetI (jsG xs) xs.length M (i + 1)) := HJ.out.next hjl.symm
          have hiM : i < M.length := HJ.out.lt
          go_wp2
          go_roundw
          case rel => exact ⟨i + 1, M, by go_num, by omega, HNx.out, ⟨_, HMk.out⟩, HBk.out, HZk.out⟩
          case measure => simp [intOf]; omega
    · obtain rfl : i = L.length := by omega
      have i4 : ¬ (L.length : Int) < (L.length : Int) := by omega
      have HK : Hid (∀ q, L.contains q = keepT xs q) := fun q => HMi.out.end q
      have h1 : wi.heap[w.heap.size + 1]? = some (.cells #[.slice none 0 0] 46) := (HB.out.block _ (by rw [HS.out]; omega)).trans P1.out
      have y1 : wi.cell? ⟨w.heap.size + 1, 0, none⟩ = some (.slice none 0 0) := cell_block h1 rfl
      have f1 : wi.frozen? ⟨w.heap.size + 1, 0, none⟩ = false := frozen_block h1
      obtain ⟨V', hV'⟩ : ∃ V', V' = wi.setCell ⟨w.heap.size + 1, 0, none⟩ (.slice la L.length lc) := ⟨_, rfl⟩
      have HVe : Hid (V' = _) := hV'
      have z1 : V'.cell? ⟨w.heap.size + 1, 0, none⟩ = some (.slice la L.length lc) := by rw [hV']; exact cell_block (block_set h1) rfl
      have HO : Hid (OwnZ w.heap.size (.slice la L.length lc) (zs15 L) V') := by
        rw [Hid, hV']
        exact own_base15 (own_frT HM.out.own (fr_set (ts := [46]) (B := w.heap.size) _ h1 (by simp) (by omega)) (by decide)) (by have := HS1.out; omega)
      have HBf : Hid (Below w.heap.size w V') := by
        rw [Hid, hV']
        exact (BW.out.trans (HB.out.mono BW.out.size)).setCell (Nat.le_succ _) _
      clear hV' h1
      go_wp2
      rw [← HVe.out]
      refine bodyPost_ret (by simp [results, Tryz.results19, go_sem, z1]; try rfl) rfl ?_
      exact ⟨_, rfl, L, HO.out, by omega, fun q => by have h9 := HK.out q; simpa using h9, HBf.out⟩

end Go.Proofs.YtkmkfpgaehgonaaGreatDoor
