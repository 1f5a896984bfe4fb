/- The specification's l11Shape (printed by mk/sfs.py). -/
import Derived.Test.YtipkbkhnaekceaaSfG
import Derived.BigQuiet
namespace Go.Proofs.Ytipkbkhnaekceaa
open Go.RowKit
set_option linter.unusedVariables false

def kidS (ns : List SNodeD) (i : Nat) (kd k : Int) : Bool := decide (0 ≤ k ∧ k ≤ (i : Int) - 1) && !(decide ((kd = 5 ∧ (nodeS ns k).kind = 5) ∨ (kd = 6 ∧ ¬ (nodeS ns k).kind = 5) ∨ (6 < kd ∧ ¬ (nodeS ns k).kind = 6)))
/-- Within l11Shape: the surface's box, the node's, its kids. -/
structure ShI (ns : List SNodeD) (rs : List SRuleD) (W : World) (an ar : Option Addr) (cn cr : Nat) (kd : Int) (tx bd : ByteArray) (aa : Option Addr) (la ca : Nat) (ka : Option Addr) (ck : Nat) (ks : List Int) (w1 : World) : Prop where
  s : SBox ns rs W an ar cn cr w1
  x : w1.heap[W.heap.size + 1]? = some (.cells #[.int .i64 kd, .string tx, .slice aa la ca, .string bd, .slice ka ks.length ck] 121 (0, 0))
  z : IRow w1 (.slice ka ks.length ck) ks
theorem ShI.drew {ns : List SNodeD} {rs : List SRuleD} {W : World} {an ar : Option Addr} {cn cr : Nat} {kd : Int} {tx bd : ByteArray} {aa : Option Addr} {la ca : Nat} {ka : Option Addr} {ck : Nat} {ks : List Int} {w1 : World} (h : ShI ns rs W an ar cn cr kd tx bd aa la ca ka ck ks w1) (q : Nat) : ShI ns rs W an ar cn cr kd tx bd aa la ca ka ck ks (w1.drewN q) :=
  ⟨h.s.step (bel_drewN (Below.refl _ _) q), h.x, h.z.below (bel_drewN (Below.refl _ _) q)⟩
def inS (n lo hi : Int) : Bool := decide (lo ≤ n ∧ n ≤ hi)
theorem bne_full {s : ByteArray} (h : ¬ s = em) : (s.toList != []) = true := by rw [bne, beq_full h]; rfl
theorem bne_empty {s : ByteArray} (h : s = em) : (s.toList != []) = false := by rw [bne, beq_empty h]; rfl

set_option maxHeartbeats 12800000 in
set_option maxRecDepth 100000 in
theorem shape_any (ns : List SNodeD) (rs : List SRuleD) (nv rv : Value) (W : World) (i : Nat) (hN : SNs W nv ns) (hR : SRs W rv rs) (hi : i < ns.length) (hl : ns.length ≤ 100000) (hkl : ns[i].kids.length ≤ 10000000) (hal : ns[i].args.length ≤ 10000000) :
    Calls Try.prog 71 #[.agg #[nv, rv], .int .i64 i] W fun e w' => e = .returned (.bool (shapeS ns i ns[i])) ∧ Below W.heap.size W w' := by
  obtain ⟨an, cn, rfl⟩ := RowC.slice hN
  obtain ⟨ar, cr, rfl⟩ := RowC.slice hR
  have S1 : Hid (SBox ns rs W an ar cn cr (W.alloc (.cells #[.slice an ns.length cn, .slice ar rs.length cr] 81))) := sbox_of hN hR
  clear hN hR
  obtain ⟨g, off, aa, ca, ka, ck, rfl, m0, m1, m2, m3, m4, _, hZ⟩ := sNs_at S1.out.nod hi
  have c0 := run_cell (j := 0) S1.out.box rfl
  have i1 : (i : Int) < (ns.length : Int) := by omega
  have wi : IntKind.i64.wrap ((i : Int) - 1) = (i : Int) - 1 := by rw [IntKind.wrap_i64]; omega
  have HS0 : Hid (shapeS ns i ns[i] = if ¬ (1 ≤ ns[i].kind ∧ ns[i].kind ≤ 9) then false else if ns[i].kind ≤ 4 then decide (ns[i].kids.length = 0) else if ¬ ns[i].text = em ∨ ¬ ns[i].bind = em ∨ 0 < ns[i].args.length ∨ (ns[i].kind = 5 ∧ 8 < ns[i].kids.length) ∨ (ns[i].kind = 6 ∧ ¬ (1 ≤ ns[i].kids.length ∧ ns[i].kids.length ≤ 8)) ∨ (6 < ns[i].kind ∧ ¬ ns[i].kids.length = 1) then false else ns[i].kids.all (kidS ns i ns[i].kind)) := rfl
  have bal : Below (W.alloc (.cells #[.slice (some ⟨g, off, none⟩) ns.length cn, .slice ar rs.length cr] 81)).heap.size (W.alloc (.cells #[.slice (some ⟨g, off, none⟩) ns.length cn, .slice ar rs.length cr] 81)) ((W.alloc (.cells #[.slice (some ⟨g, off, none⟩) ns.length cn, .slice ar rs.length cr] 81)).alloc (.cells #[.int .i64 ns[i].kind, .string ns[i].text, .slice aa ns[i].args.length ca, .string ns[i].bind, .slice ka ns[i].kids.length ck] 121)) := (Below.refl _ _).alloc (Nat.le_refl _) _
  have X2 := heap_alloc_new (W.alloc (.cells #[.slice (some ⟨g, off, none⟩) ns.length cn, .slice ar rs.length cr] 81)) (.cells #[.int .i64 ns[i].kind, .string ns[i].text, .slice aa ns[i].args.length ca, .string ns[i].bind, .slice ka ns[i].kids.length ck] 121)
  rw [show (W.alloc (.cells #[.slice (some ⟨g, off, none⟩) ns.length cn, .slice ar rs.length cr] 81)).heap.size = W.heap.size + 1 by simp] at X2
  have H2 : Hid (ShI ns rs W (some ⟨g, off, none⟩) ar cn cr ns[i].kind ns[i].text ns[i].bind aa ns[i].args.length ca ka ck ns[i].kids _) := ⟨S1.out.step bal, X2, hZ.below bal⟩
  have HB2 : Hid (Below W.heap.size W _) := H2.out.s.bel
  have c0b := run_cell (j := 0) H2.out.s.box rfl
  have y0 := run_cell (j := 0) X2 rfl
  have y1 := run_cell (j := 1) X2 rfl
  have y2 := run_cell (j := 2) X2 rfl
  have y3 := run_cell (j := 3) X2 rfl
  have y4 := run_cell (j := 4) X2 rfl
  have HIn : Hid (∀ (n lo hi : Int) (W : World), Calls Try.prog 29 #[.int .i64 n, .int .i64 lo, .int .i64 hi] W fun e w' => e = .returned (.bool (inS n lo hi)) ∧ w' = W) := fun n lo hi W => in_any n lo hi W
  have HIa : Hid (inS ns[i].kind 1 9 = decide (1 ≤ ns[i].kind ∧ ns[i].kind ≤ 9)) := rfl
  have HIb : Hid (inS (ns[i].kids.length : Int) 1 8 = decide (1 ≤ (ns[i].kids.length : Int) ∧ (ns[i].kids.length : Int) ≤ 8)) := rfl
  clear hZ bal X2 S1
  obtain ⟨sh, hsh⟩ : ∃ sh, sh = shapeS ns i ns[i] := ⟨_, rfl⟩
  generalize ns[i].kind = kd at *
  generalize ns[i].text = tx at *
  generalize ns[i].bind = bd at *
  generalize ns[i].args.length = la at *
  generalize ns[i].kids = ks at *
  by_cases hk : 1 ≤ kd ∧ kd ≤ 9
  rotate_left
  · rw [decide_eq_false hk] at HIa
    have HV : Hid (shapeS ns i ns[i] = false) := by rw [Hid, HS0.out, if_pos hk]
    clear HS0 hk
    go_enter Try.func71, Try.ntmps71
    go_wp2_with (go_at_call 29; refine (HIn.out _ _ _ _).mono ?_; rintro e wq ⟨rfl, hw⟩; rw [hw, HIa.out]; clear hw)
    go_ret
    rw [HV.out]
    exact ⟨rfl, HB2.out⟩
  · rw [decide_eq_true hk] at HIa
    rw [Hid, if_neg (by omega)] at HS0
    by_cases h4 : kd ≤ 4
    · have e4 : decide (kd ≤ 4) = true := decide_eq_true h4
      rw [if_pos h4] at HS0
      by_cases h0 : ks.length = 0
      · have q0 : ((ks.length : Int) == 0) = true := by simp [h0]
        have HV : Hid (shapeS ns i ns[i] = true) := by rw [Hid, HS0, decide_eq_true h0]
        clear HS0 h0 h4 hk
        go_enter Try.func71, Try.ntmps71
        go_wp2_with (go_at_call 29; refine (HIn.out _ _ _ _).mono ?_; rintro e wq ⟨rfl, hw⟩; rw [hw, HIa.out]; clear hw)
        go_ret
        rw [HV.out]
        exact ⟨rfl, HB2.out⟩
      · have q0 : ((ks.length : Int) == 0) = false := by rw [beq_eq_false_iff_ne]; omega
        have HV : Hid (shapeS ns i ns[i] = false) := by rw [Hid, HS0, decide_eq_false h0]
        clear HS0 h0 h4 hk
        go_enter Try.func71, Try.ntmps71
        go_wp2_with (go_at_call 29; refine (HIn.out _ _ _ _).mono ?_; rintro e wq ⟨rfl, hw⟩; rw [hw, HIa.out]; clear hw)
        go_ret
        rw [HV.out]
        exact ⟨rfl, HB2.out⟩
    · have e4 : decide (kd ≤ 4) = false := decide_eq_false h4
      rw [if_neg h4] at HS0
      have HSe : Hid _ := HS0
      clear HS0
      by_cases ht : tx = em
      rotate_left
      · have qt : tx.toList.isEmpty = false := isE_no ht
        have qt2 : (tx.toList == []) = false := beq_full ht
        have qt3 : (tx.toList != []) = true := bne_full ht
        have HV : Hid (shapeS ns i ns[i] = false) := by rw [Hid, HSe.out, if_pos (.inl ht)]
        clear HSe ht
        go_enter Try.func71, Try.ntmps71
        go_wp2_with (go_at_call 29; refine (HIn.out _ _ _ _).mono ?_; rintro e wq ⟨rfl, hw⟩; rw [hw, HIa.out]; clear hw)
        go_ret
        rw [HV.out]
        exact ⟨rfl, HB2.out⟩
      have qt : tx.toList.isEmpty = true := isE_yes ht
      have qt2 : (tx.toList == []) = true := beq_empty ht
      have qt3 : (tx.toList != []) = false := bne_empty ht
      by_cases hb : bd = em
      rotate_left
      · have qb : bd.toList.isEmpty = false := isE_no hb
        have qb2 : (bd.toList == []) = false := beq_full hb
        have qb3 : (bd.toList != []) = true := bne_full hb
        have HV : Hid (shapeS ns i ns[i] = false) := by rw [Hid, HSe.out, if_pos (.inr (.inl hb))]
        clear HSe hb ht
        go_enter Try.func71, Try.ntmps71
        go_wp2_with (go_at_call 29; refine (HIn.out _ _ _ _).mono ?_; rintro e wq ⟨rfl, hw⟩; rw [hw, HIa.out]; clear hw)
        go_ret
        rw [HV.out]
        exact ⟨rfl, HB2.out⟩
      have qb : bd.toList.isEmpty = true := isE_yes hb
      have qb2 : (bd.toList == []) = true := beq_empty hb
      have qb3 : (bd.toList != []) = false := bne_empty hb
      by_cases ha : 0 < la
      · have qa : decide ((0 : Int) < (la : Int)) = true := decide_eq_true (by omega)
        have qa2 : decide (0 < la) = true := decide_eq_true ha
        have HV : Hid (shapeS ns i ns[i] = false) := by rw [Hid, HSe.out, if_pos (.inr (.inr (.inl ha)))]
        clear HSe ha hb ht
        go_enter Try.func71, Try.ntmps71
        go_wp2_with (go_at_call 29; refine (HIn.out _ _ _ _).mono ?_; rintro e wq ⟨rfl, hw⟩; rw [hw, HIa.out]; clear hw)
        go_ret
        rw [HV.out]
        exact ⟨rfl, HB2.out⟩
      have qa : decide ((0 : Int) < (la : Int)) = false := decide_eq_false (by omega)
      have qa2 : decide (0 < la) = false := decide_eq_false ha
      rw [Hid] at HSe
      have HSf : shapeS ns i ns[i] = if (kd = 5 ∧ 8 < ks.length) ∨ (kd = 6 ∧ ¬ (1 ≤ ks.length ∧ ks.length ≤ 8)) ∨ (6 < kd ∧ ¬ ks.length = 1) then false else ks.all (kidS ns i kd) := by
        rw [HSe]
        simp only [ht, hb, ha, not_true_eq_false, false_or]
      clear HSe ht hb ha
      have HSe : Hid _ := HSf
      clear HSf
      by_cases h5 : kd = 5
      · clear HIb
        have H5 : Hid (kd = 5) := h5
        clear h5
        have e5 : (kd == 5) = true := by have h5 := H5.out; rw [beq_iff_eq]; omega
        have e6 : (kd == 6) = false := by have h5 := H5.out; rw [beq_eq_false_iff_ne]; omega
        have e7 : decide (6 < kd) = false := by have h5 := H5.out; exact decide_eq_false (by omega)
        by_cases hb : 8 < ks.length
        · have qk : decide ((8 : Int) < (ks.length : Int)) = true := decide_eq_true (by omega)
          have qk2 : decide (8 < ks.length) = true := decide_eq_true hb
          have HV : Hid (shapeS ns i ns[i] = false) := by have h5 := H5.out; rw [Hid, HSe.out, if_pos (by omega)]
          clear HSe hb
          go_enter Try.func71, Try.ntmps71
          go_wp2_with (go_at_call 29; refine (HIn.out _ _ _ _).mono ?_; rintro e wq ⟨rfl, hw⟩; rw [hw]; rw [HIa.out]; clear hw)
          go_ret
          rw [HV.out]
          exact ⟨rfl, HB2.out⟩
        · have qk : decide ((8 : Int) < (ks.length : Int)) = false := decide_eq_false (by omega)
          have qk2 : decide (8 < ks.length) = false := decide_eq_false hb
          have HSh : Hid (shapeS ns i ns[i] = ks.all (kidS ns i kd)) := by have h5 := H5.out; rw [Hid, HSe.out, if_neg (by omega)]
          clear HSe
          go_enter Try.func71, Try.ntmps71
          go_wp2_with (go_at_call 29; refine (HIn.out _ _ _ _).mono ?_; rintro e wq ⟨rfl, hw⟩; rw [hw]; rw [HIa.out]; clear hw)
          generalize (W.alloc (.cells #[.slice (some ⟨g, off, none⟩) ns.length cn, .slice ar rs.length cr] 81)).alloc (.cells #[.int .i64 kd, .string tx, .slice aa la ca, .string bd, .slice ka ks.length ck] 121) = W2 at *
          go_loopg [6] ks.length (fun gg kv wr => ∃ j : Nat, kv = .int .i64 j ∧ gg + j = ks.length ∧ (ks.drop j).all (kidS ns i kd) = ks.all (kidS ns i kd) ∧ ShI ns rs W (some ⟨g, off, none⟩) ar cn cr kd tx bd aa la ca ka ck ks wr)
          case atStart => exact ⟨0, rfl, by omega, rfl, H2.out⟩
          case round =>
            obtain ⟨j, rfl, hg, hE, hS⟩ := hrel
            have HE : Hid ((ks.drop j).all (kidS ns i kd) = ks.all (kidS ns i kd)) := hE
            have HS : Hid (ShI ns rs W (some ⟨g, off, none⟩) ar cn cr kd tx bd aa la ca ka ck ks wr) := hS
            clear hE hS H2 y0 y1 y2 y3 y4 c0 c0b HB2
            have y0 := run_cell (j := 0) HS.out.x rfl
            have y4 := run_cell (j := 4) HS.out.x rfl
            have c0 := run_cell (j := 0) HS.out.s.box rfl
            by_cases hj : j < ks.length
            · have i2 : (j : Int) < (ks.length : Int) := by omega
              have d1 : decide ((j : Int) < (ks.length : Int)) = true := decide_eq_true i2
              obtain ⟨kb, ko, rfl, hkc⟩ := HS.out.z.at hj
              have HD : (ks.drop j).all (kidS ns i kd) = (kidS ns i kd ks[j] && (ks.drop (j + 1)).all (kidS ns i kd)) := by rw [List.drop_eq_getElem_cons hj, List.all_cons]
              rw [HE.out] at HD
              have HD2 : Hid (ks.all (kidS ns i kd) = (kidS ns i kd ks[j] && (ks.drop (j + 1)).all (kidS ns i kd))) := HD
              have HIc : Hid (inS ks[j] 0 ((i : Int) - 1) = decide (0 ≤ ks[j] ∧ ks[j] ≤ (i : Int) - 1)) := rfl
              clear HD HE
              by_cases hz : 0 ≤ ks[j] ∧ ks[j] ≤ (i : Int) - 1
              · rw [decide_eq_true hz] at HIc
                obtain ⟨z, hzz⟩ : ∃ z : Nat, ks[j] = (z : Int) := ⟨ks[j].toNat, by omega⟩
                have hzi : z < ns.length := by omega
                obtain ⟨b', off', aa', ca', ka', ck', hv', n0, _, _, _, _, _, _⟩ := sNs_at HS.out.s.nod hzi
                obtain ⟨rfl, rfl⟩ : g = b' ∧ off = off' := by cases hv'; exact ⟨rfl, rfl⟩
                have HKd : Hid (kidS ns i kd ks[j] = !(decide ((kd = 5 ∧ ns[z].kind = 5) ∨ (kd = 6 ∧ ¬ ns[z].kind = 5) ∨ (6 < kd ∧ ¬ ns[z].kind = 6)))) := by rw [Hid, kidS, decide_eq_true hz, Bool.true_and, hzz, nodeS_lt hzi]
                have i3 : (z : Int) < (ns.length : Int) := by omega
                have i4 : (0 : Int) ≤ (z : Int) := by omega
                rw [hzz] at hkc HIc
                have HZZ : Hid (ks[j] = (z : Int)) := hzz
                clear hv' hz hzz
                generalize ns[z].kind = nk at *
                go_wp2_with (go_at_call 29; refine (HIn.out _ _ _ _).mono ?_; rintro e wq ⟨rfl, hw⟩; rw [hw, HIc.out]; clear hw)
                go_quiet (fail)
                have HSd : Hid (ShI ns rs W (some ⟨g, off, none⟩) ar cn cr kd tx bd aa la ca (some ⟨kb, ko, none⟩) ck ks (wr.drewN nq)) := HS.out.drew nq
                have y0d := run_cell (j := 0) HSd.out.x rfl
                have y4d := run_cell (j := 4) HSd.out.x rfl
                clear HS
                generalize wr.drewN nq = wd at *
                by_cases hq : ¬ nk = 5
                · have HNk : Hid (decide (nk = 5) = false) := decide_eq_false hq
                  have HN : Hid ((ks.drop (j + 1)).all (kidS ns i kd) = ks.all (kidS ns i kd)) := by rw [Hid, HD2.out, HKd.out, decide_eq_false (by have h5 := H5.out; omega)]; simp
                  have w1 : IntKind.i64.wrap ((j : Int) + 1) = ((j + 1 : Nat) : Int) := by rw [IntKind.wrap_i64]; omega
                  obtain ⟨f, rfl⟩ : ∃ f, gk = f + 1 := ⟨gk - 1, by omega⟩
                  clear hq
                  go_wp2_with (go_at_call 84; refine (inRow_any nk _).mono ?_; rintro e wq ⟨rfl, hw⟩; rw [hw, HNk.out]; clear hw)
                  go_roundg f
                  case measure => omega
                  case rel => exact ⟨j + 1, by go_num, by omega, HN.out, HSd.out⟩
                · have HNk : Hid (decide (nk = 5) = true) := decide_eq_true (by omega)
                  have HV : Hid (shapeS ns i ns[i] = false) := by rw [Hid, HSh.out, HD2.out, HKd.out, decide_eq_true (by have h5 := H5.out; omega)]; simp
                  clear hq
                  go_wp2_with (go_at_call 84; refine (inRow_any nk _).mono ?_; rintro e wq ⟨rfl, hw⟩; rw [hw, HNk.out]; clear hw)
                  go_ret
                  rw [HV.out]
                  exact ⟨rfl, HSd.out.s.bel⟩
              · rw [decide_eq_false hz] at HIc
                have HV : Hid (shapeS ns i ns[i] = false) := by rw [Hid, HSh.out, HD2.out, kidS, decide_eq_false hz]; rfl
                clear hz
                go_wp2_with (go_at_call 29; refine (HIn.out _ _ _ _).mono ?_; rintro e wq ⟨rfl, hw⟩; rw [hw, HIc.out]; clear hw)
                go_ret
                rw [HV.out]
                exact ⟨rfl, HS.out.s.bel⟩
            · have d1 : decide ((j : Int) < (ks.length : Int)) = false := decide_eq_false (by omega)
              have HV : Hid (shapeS ns i ns[i] = true) := by rw [Hid, HSh.out, ← HE.out, List.drop_of_length_le (by omega)]; rfl
              go_wp2
              go_ret
              rw [HV.out]
              exact ⟨rfl, HS.out.s.bel⟩
      by_cases h6 : kd = 6
      · have H5 : Hid (kd = 6) := h6
        clear h6
        have e5 : (kd == 5) = false := by have h5 := H5.out; rw [beq_eq_false_iff_ne]; omega
        have e6 : (kd == 6) = true := by have h5 := H5.out; rw [beq_iff_eq]; omega
        have e7 : decide (6 < kd) = false := by have h5 := H5.out; exact decide_eq_false (by omega)
        by_cases hb : ¬ (1 ≤ ks.length ∧ ks.length ≤ 8)
        · rw [decide_eq_false (by omega)] at HIb
          have HV : Hid (shapeS ns i ns[i] = false) := by have h5 := H5.out; rw [Hid, HSe.out, if_pos (by omega)]
          clear HSe hb
          go_enter Try.func71, Try.ntmps71
          go_wp2_with (go_at_call 29; refine (HIn.out _ _ _ _).mono ?_; rintro e wq ⟨rfl, hw⟩; rw [hw]; (first | rw [HIa.out] | rw [HIb.out]); clear hw)
          go_ret
          rw [HV.out]
          exact ⟨rfl, HB2.out⟩
        · rw [decide_eq_true (by omega)] at HIb
          have HSh : Hid (shapeS ns i ns[i] = ks.all (kidS ns i kd)) := by have h5 := H5.out; rw [Hid, HSe.out, if_neg (by omega)]
          clear HSe
          go_enter Try.func71, Try.ntmps71
          go_wp2_with (go_at_call 29; refine (HIn.out _ _ _ _).mono ?_; rintro e wq ⟨rfl, hw⟩; rw [hw]; (first | rw [HIa.out] | rw [HIb.out]); clear hw)
          generalize (W.alloc (.cells #[.slice (some ⟨g, off, none⟩) ns.length cn, .slice ar rs.length cr] 81)).alloc (.cells #[.int .i64 kd, .string tx, .slice aa la ca, .string bd, .slice ka ks.length ck] 121) = W2 at *
          go_loopg [6] ks.length (fun gg kv wr => ∃ j : Nat, kv = .int .i64 j ∧ gg + j = ks.length ∧ (ks.drop j).all (kidS ns i kd) = ks.all (kidS ns i kd) ∧ ShI ns rs W (some ⟨g, off, none⟩) ar cn cr kd tx bd aa la ca ka ck ks wr)
          case atStart => exact ⟨0, rfl, by omega, rfl, H2.out⟩
          case round =>
            obtain ⟨j, rfl, hg, hE, hS⟩ := hrel
            have HE : Hid ((ks.drop j).all (kidS ns i kd) = ks.all (kidS ns i kd)) := hE
            have HS : Hid (ShI ns rs W (some ⟨g, off, none⟩) ar cn cr kd tx bd aa la ca ka ck ks wr) := hS
            clear hE hS H2 y0 y1 y2 y3 y4 c0 c0b HB2
            have y0 := run_cell (j := 0) HS.out.x rfl
            have y4 := run_cell (j := 4) HS.out.x rfl
            have c0 := run_cell (j := 0) HS.out.s.box rfl
            by_cases hj : j < ks.length
            · have i2 : (j : Int) < (ks.length : Int) := by omega
              have d1 : decide ((j : Int) < (ks.length : Int)) = true := decide_eq_true i2
              obtain ⟨kb, ko, rfl, hkc⟩ := HS.out.z.at hj
              have HD : (ks.drop j).all (kidS ns i kd) = (kidS ns i kd ks[j] && (ks.drop (j + 1)).all (kidS ns i kd)) := by rw [List.drop_eq_getElem_cons hj, List.all_cons]
              rw [HE.out] at HD
              have HD2 : Hid (ks.all (kidS ns i kd) = (kidS ns i kd ks[j] && (ks.drop (j + 1)).all (kidS ns i kd))) := HD
              have HIc : Hid (inS ks[j] 0 ((i : Int) - 1) = decide (0 ≤ ks[j] ∧ ks[j] ≤ (i : Int) - 1)) := rfl
              clear HD HE
              by_cases hz : 0 ≤ ks[j] ∧ ks[j] ≤ (i : Int) - 1
              · rw [decide_eq_true hz] at HIc
                obtain ⟨z, hzz⟩ : ∃ z : Nat, ks[j] = (z : Int) := ⟨ks[j].toNat, by omega⟩
                have hzi : z < ns.length := by omega
                obtain ⟨b', off', aa', ca', ka', ck', hv', n0, _, _, _, _, _, _⟩ := sNs_at HS.out.s.nod hzi
                obtain ⟨rfl, rfl⟩ : g = b' ∧ off = off' := by cases hv'; exact ⟨rfl, rfl⟩
                have HKd : Hid (kidS ns i kd ks[j] = !(decide ((kd = 5 ∧ ns[z].kind = 5) ∨ (kd = 6 ∧ ¬ ns[z].kind = 5) ∨ (6 < kd ∧ ¬ ns[z].kind = 6)))) := by rw [Hid, kidS, decide_eq_true hz, Bool.true_and, hzz, nodeS_lt hzi]
                have i3 : (z : Int) < (ns.length : Int) := by omega
                have i4 : (0 : Int) ≤ (z : Int) := by omega
                rw [hzz] at hkc HIc
                have HZZ : Hid (ks[j] = (z : Int)) := hzz
                clear hv' hz hzz
                generalize ns[z].kind = nk at *
                go_wp2_with (go_at_call 29; refine (HIn.out _ _ _ _).mono ?_; rintro e wq ⟨rfl, hw⟩; rw [hw, HIc.out]; clear hw)
                go_quiet (fail)
                have HSd : Hid (ShI ns rs W (some ⟨g, off, none⟩) ar cn cr kd tx bd aa la ca (some ⟨kb, ko, none⟩) ck ks (wr.drewN nq)) := HS.out.drew nq
                have y0d := run_cell (j := 0) HSd.out.x rfl
                have y4d := run_cell (j := 4) HSd.out.x rfl
                clear HS
                generalize wr.drewN nq = wd at *
                by_cases hq : nk = 5
                · have q5 : (nk != 5) = false := by simp [hq]
                  have HN : Hid ((ks.drop (j + 1)).all (kidS ns i kd) = ks.all (kidS ns i kd)) := by rw [Hid, HD2.out, HKd.out, decide_eq_false (by have h5 := H5.out; omega)]; simp
                  have w1 : IntKind.i64.wrap ((j : Int) + 1) = ((j + 1 : Nat) : Int) := by rw [IntKind.wrap_i64]; omega
                  obtain ⟨f, rfl⟩ : ∃ f, gk = f + 1 := ⟨gk - 1, by omega⟩
                  clear hq
                  go_wp2
                  go_roundg f
                  case measure => omega
                  case rel => exact ⟨j + 1, by go_num, by omega, HN.out, HSd.out⟩
                · have q5 : (nk != 5) = true := by simp [hq]
                  have HV : Hid (shapeS ns i ns[i] = false) := by rw [Hid, HSh.out, HD2.out, HKd.out, decide_eq_true (by have h5 := H5.out; omega)]; simp
                  clear hq
                  go_wp2
                  go_ret
                  rw [HV.out]
                  exact ⟨rfl, HSd.out.s.bel⟩
              · rw [decide_eq_false hz] at HIc
                have HV : Hid (shapeS ns i ns[i] = false) := by rw [Hid, HSh.out, HD2.out, kidS, decide_eq_false hz]; rfl
                clear hz
                go_wp2_with (go_at_call 29; refine (HIn.out _ _ _ _).mono ?_; rintro e wq ⟨rfl, hw⟩; rw [hw, HIc.out]; clear hw)
                go_ret
                rw [HV.out]
                exact ⟨rfl, HS.out.s.bel⟩
            · have d1 : decide ((j : Int) < (ks.length : Int)) = false := decide_eq_false (by omega)
              have HV : Hid (shapeS ns i ns[i] = true) := by rw [Hid, HSh.out, ← HE.out, List.drop_of_length_le (by omega)]; rfl
              go_wp2
              go_ret
              rw [HV.out]
              exact ⟨rfl, HS.out.s.bel⟩
      · clear HIb
        have e5 : (kd == 5) = false := by rw [beq_eq_false_iff_ne]; omega
        have e6 : (kd == 6) = false := by rw [beq_eq_false_iff_ne]; omega
        have e7 : decide (6 < kd) = true := by exact decide_eq_true (by omega)
        by_cases hb : ¬ ks.length = 1
        · have qk : ((ks.length : Int) != 1) = true := by rw [bne_iff_ne]; omega
          have qk2 : (ks.length != 1) = true := by rw [bne_iff_ne]; omega
          have HV : Hid (shapeS ns i ns[i] = false) := by rw [Hid, HSe.out, if_pos (by omega)]
          clear HSe hb
          go_enter Try.func71, Try.ntmps71
          go_wp2_with (go_at_call 29; refine (HIn.out _ _ _ _).mono ?_; rintro e wq ⟨rfl, hw⟩; rw [hw]; rw [HIa.out]; clear hw)
          go_ret
          rw [HV.out]
          exact ⟨rfl, HB2.out⟩
        · have qk : ((ks.length : Int) != 1) = false := by simp; omega
          have qk2 : (ks.length != 1) = false := by simp; omega
          have HSh : Hid (shapeS ns i ns[i] = ks.all (kidS ns i kd)) := by rw [Hid, HSe.out, if_neg (by omega)]
          clear HSe
          go_enter Try.func71, Try.ntmps71
          go_wp2_with (go_at_call 29; refine (HIn.out _ _ _ _).mono ?_; rintro e wq ⟨rfl, hw⟩; rw [hw]; rw [HIa.out]; clear hw)
          generalize (W.alloc (.cells #[.slice (some ⟨g, off, none⟩) ns.length cn, .slice ar rs.length cr] 81)).alloc (.cells #[.int .i64 kd, .string tx, .slice aa la ca, .string bd, .slice ka ks.length ck] 121) = W2 at *
          go_loopg [6] ks.length (fun gg kv wr => ∃ j : Nat, kv = .int .i64 j ∧ gg + j = ks.length ∧ (ks.drop j).all (kidS ns i kd) = ks.all (kidS ns i kd) ∧ ShI ns rs W (some ⟨g, off, none⟩) ar cn cr kd tx bd aa la ca ka ck ks wr)
          case atStart => exact ⟨0, rfl, by omega, rfl, H2.out⟩
          case round =>
            obtain ⟨j, rfl, hg, hE, hS⟩ := hrel
            have HE : Hid ((ks.drop j).all (kidS ns i kd) = ks.all (kidS ns i kd)) := hE
            have HS : Hid (ShI ns rs W (some ⟨g, off, none⟩) ar cn cr kd tx bd aa la ca ka ck ks wr) := hS
            clear hE hS H2 y0 y1 y2 y3 y4 c0 c0b HB2
            have y0 := run_cell (j := 0) HS.out.x rfl
            have y4 := run_cell (j := 4) HS.out.x rfl
            have c0 := run_cell (j := 0) HS.out.s.box rfl
            by_cases hj : j < ks.length
            · have i2 : (j : Int) < (ks.length : Int) := by omega
              have d1 : decide ((j : Int) < (ks.length : Int)) = true := decide_eq_true i2
              obtain ⟨kb, ko, rfl, hkc⟩ := HS.out.z.at hj
              have HD : (ks.drop j).all (kidS ns i kd) = (kidS ns i kd ks[j] && (ks.drop (j + 1)).all (kidS ns i kd)) := by rw [List.drop_eq_getElem_cons hj, List.all_cons]
              rw [HE.out] at HD
              have HD2 : Hid (ks.all (kidS ns i kd) = (kidS ns i kd ks[j] && (ks.drop (j + 1)).all (kidS ns i kd))) := HD
              have HIc : Hid (inS ks[j] 0 ((i : Int) - 1) = decide (0 ≤ ks[j] ∧ ks[j] ≤ (i : Int) - 1)) := rfl
              clear HD HE
              by_cases hz : 0 ≤ ks[j] ∧ ks[j] ≤ (i : Int) - 1
              · rw [decide_eq_true hz] at HIc
                obtain ⟨z, hzz⟩ : ∃ z : Nat, ks[j] = (z : Int) := ⟨ks[j].toNat, by omega⟩
                have hzi : z < ns.length := by omega
                obtain ⟨b', off', aa', ca', ka', ck', hv', n0, _, _, _, _, _, _⟩ := sNs_at HS.out.s.nod hzi
                obtain ⟨rfl, rfl⟩ : g = b' ∧ off = off' := by cases hv'; exact ⟨rfl, rfl⟩
                have HKd : Hid (kidS ns i kd ks[j] = !(decide ((kd = 5 ∧ ns[z].kind = 5) ∨ (kd = 6 ∧ ¬ ns[z].kind = 5) ∨ (6 < kd ∧ ¬ ns[z].kind = 6)))) := by rw [Hid, kidS, decide_eq_true hz, Bool.true_and, hzz, nodeS_lt hzi]
                have i3 : (z : Int) < (ns.length : Int) := by omega
                have i4 : (0 : Int) ≤ (z : Int) := by omega
                rw [hzz] at hkc HIc
                have HZZ : Hid (ks[j] = (z : Int)) := hzz
                clear hv' hz hzz
                generalize ns[z].kind = nk at *
                go_wp2_with (go_at_call 29; refine (HIn.out _ _ _ _).mono ?_; rintro e wq ⟨rfl, hw⟩; rw [hw, HIc.out]; clear hw)
                go_quiet (fail)
                have HSd : Hid (ShI ns rs W (some ⟨g, off, none⟩) ar cn cr kd tx bd aa la ca (some ⟨kb, ko, none⟩) ck ks (wr.drewN nq)) := HS.out.drew nq
                have y0d := run_cell (j := 0) HSd.out.x rfl
                have y4d := run_cell (j := 4) HSd.out.x rfl
                clear HS
                generalize wr.drewN nq = wd at *
                by_cases hq : nk = 6
                · have q5 : (nk != 6) = false := by simp [hq]
                  have HN : Hid ((ks.drop (j + 1)).all (kidS ns i kd) = ks.all (kidS ns i kd)) := by rw [Hid, HD2.out, HKd.out, decide_eq_false (by omega)]; simp
                  have w1 : IntKind.i64.wrap ((j : Int) + 1) = ((j + 1 : Nat) : Int) := by rw [IntKind.wrap_i64]; omega
                  obtain ⟨f, rfl⟩ : ∃ f, gk = f + 1 := ⟨gk - 1, by omega⟩
                  clear hq
                  go_wp2
                  go_roundg f
                  case measure => omega
                  case rel => exact ⟨j + 1, by go_num, by omega, HN.out, HSd.out⟩
                · have q5 : (nk != 6) = true := by simp [hq]
                  have HV : Hid (shapeS ns i ns[i] = false) := by rw [Hid, HSh.out, HD2.out, HKd.out, decide_eq_true (by omega)]; simp
                  clear hq
                  go_wp2
                  go_ret
                  rw [HV.out]
                  exact ⟨rfl, HSd.out.s.bel⟩
              · rw [decide_eq_false hz] at HIc
                have HV : Hid (shapeS ns i ns[i] = false) := by rw [Hid, HSh.out, HD2.out, kidS, decide_eq_false hz]; rfl
                clear hz
                go_wp2_with (go_at_call 29; refine (HIn.out _ _ _ _).mono ?_; rintro e wq ⟨rfl, hw⟩; rw [hw, HIc.out]; clear hw)
                go_ret
                rw [HV.out]
                exact ⟨rfl, HS.out.s.bel⟩
            · have d1 : decide ((j : Int) < (ks.length : Int)) = false := decide_eq_false (by omega)
              have HV : Hid (shapeS ns i ns[i] = true) := by rw [Hid, HSh.out, ← HE.out, List.drop_of_length_le (by omega)]; rfl
              go_wp2
              go_ret
              rw [HV.out]
              exact ⟨rfl, HS.out.s.bel⟩

end Go.Proofs.Ytipkbkhnaekceaa
