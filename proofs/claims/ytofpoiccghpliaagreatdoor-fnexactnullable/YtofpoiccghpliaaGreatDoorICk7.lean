/- The program's checkGrammar: the heads, then each rule's rows. -/
import Derived.Test.YtofpoiccghpliaaGreatDoorICk6
namespace Go.Proofs.YtofpoiccghpliaaGreatDoor
open Go.RowKit

set_option maxHeartbeats 6400000 in
set_option maxRecDepth 100000 in
theorem checkGrammar_any (gv : Value) (g : List RuleD) (w : World) (hErr : errTy w) (hg : grammarTot g ≤ 1048576) (h : RowC 3 RuleE w gv g) :
    Calls Tryz.prog 43 #[.agg #[gv]] w fun e w' => e = okE (gramB g) ∧ Below w.heap.size w w' := by
  have HErr : Hid (errTy w) := hErr
  have HG : Hid (RowC 3 RuleE w gv g) := h
  have hgl : g.length ≤ 1048576 := Nat.le_trans (rowTot_len ruleTot g) hg
  have HZ : Hid (∀ r ∈ g, r.params.length ≤ 1048576 ∧ r.alts.length ≤ 1048576 ∧ ∀ a ∈ r.alts, altTot a ≤ 1048576) := fun r hr => by
    have h1 := rowTot_mem ruleTot hr
    have e1 : ruleTot r = r.name.size + rowTot ByteArray.size r.params + rowTot altTot r.alts := rfl
    have h2 := rowTot_len ByteArray.size r.params
    have h3 := rowTot_len altTot r.alts
    have e2 : grammarTot g = rowTot ruleTot g := rfl
    exact ⟨by omega, by omega, fun a ha => by have := rowTot_mem altTot ha; omega⟩
  have HH : Hid (∀ W, Below w.heap.size w W → _) := fun W hb => checkHeads_any gv g W hg (RowC.below RuleE_stable HG.out hb)
  have HB : Hid (∀ _ : Unit, gramB g = (headsB g && g.all (bodyB g))) := fun _ => gram_is g
  obtain ⟨ag, cg, rfl⟩ := h.slice
  clear h hg hErr
  have B0 : Hid (Below w.heap.size w (w.alloc (.cells #[.slice ag g.length cg] 30))) := (Below.refl _ _).alloc (Nat.le_refl _) _
  have b0 : (w.alloc (.cells #[.slice ag g.length cg] 30)).cell? ⟨w.heap.size, 0, none⟩ = some (.slice ag g.length cg) := box_at _ _ _ 0 _ rfl
  cases hh : headsB g with
  | false =>
    rw [hh] at HH
    have HV : Hid (gramB g = false) := by rw [Hid, HB.out (), hh]; rfl
    clear hh HB
    go_enter Tryz.func43, Tryz.ntmps43
    go_wp2_with (go_at_call 57; refine (HH.out _ B0.out).mono ?_; rintro e w1 ⟨he, hb1⟩; rw [he, okE_no]; clear he)
    rw [HV.out]
    exact ⟨rfl, rfl, B0.out.trans (hb1.mono B0.out.size)⟩
  | true =>
    rw [hh] at HH
    have HPr : Hid (∀ k (hk : k < g.length), g[k].params.length ≤ 6) := fun k hk => heads_par hh k hk
    have HV0 : Hid (∀ _ : Unit, gramB g = g.all (bodyB g)) := fun _ => by rw [HB.out (), hh, Bool.true_and]
    clear hh HB
    go_enter Tryz.func43, Tryz.ntmps43
    go_wp2_with fail
    refine (HH.out _ B0.out).mono ?_
    rintro e w1 ⟨he, hb1⟩
    rw [he, okE_yes]
    clear he
    have B1 : Hid (Below w.heap.size w w1) := B0.out.trans (hb1.mono B0.out.size)
    have c0 := cell_keep b0 hb1
    have hs1 : w.heap.size + 1 ≤ w1.heap.size := by have := hb1.size; simp at this; omega
    clear hb1 b0 B0 HH
    go_wp2
    go_loopw [11] (fun iv wr => ∃ k : Nat, iv = .int .i64 k ∧ k ≤ g.length ∧ (g.take k).all (bodyB g) = true ∧ Below (w.heap.size + 1) w1 wr) (fun iv _ => g.length - (intOf iv).toNat)
    case atStart => exact ⟨0, rfl, Nat.zero_le _, rfl, Below.refl _ _⟩
    case round =>
      obtain ⟨k, rfl, hk, hto, hbw⟩ := hrel
      have HTo : Hid ((g.take k).all (bodyB g) = true) := hto
      have hsz : w.heap.size + 1 ≤ wr.heap.size := Nat.le_trans hs1 hbw.size
      have BW : Hid (Below w.heap.size w wr) := B1.out.trans (hbw.mono (by omega))
      have cg1 : wr.cell? ⟨w.heap.size, 0, none⟩ = some (.slice ag g.length cg) := (World.cell?_of_block (hbw.block w.heap.size (by omega))).trans c0
      have BV : Hid (Below (w.heap.size + 1) w1 wr) := hbw
      clear hto hbw
      by_cases hlt : k < g.length
      · obtain ⟨b, off, vs, rfl, _, hc, hE⟩ := (RowC.below RuleE_stable HG.out BW.out).at hlt
        obtain ⟨p0, p1, rfl, hps, hal⟩ := hE
        obtain ⟨ap, cp, rfl⟩ := hps.slice
        obtain ⟨aa, ca, rfl⟩ := hal.slice
        have n0 : wr.cell? ⟨b, off + k * 3, none⟩ = some (.string g[k].name) := hc 0 (by simp)
        have n1 : wr.cell? ⟨b, off + k * 3 + 1, none⟩ = some (.slice ap g[k].params.length cp) := hc 1 (by simp)
        have n2 : wr.cell? ⟨b, off + k * 3 + 2, none⟩ = some (.slice aa g[k].alts.length ca) := hc 2 (by simp)
        have i5 : (k : Int) < (g.length : Int) := by omega
        obtain ⟨hz1, hz2, hz3⟩ := HZ.out _ (List.getElem_mem hlt)
        have HZ3 : Hid (∀ a ∈ g[k].alts, altTot a ≤ 1048576) := hz3
        have HPk : Hid (g[k].params.length ≤ 6) := HPr.out k hlt
        have HNx : Hid (bodyB g g[k] = true → (g.take (k + 1)).all (bodyB g) = true) := fun h => all_to hlt HTo.out h
        have HNo : Hid (bodyB g g[k] = false → gramB g = false) := fun h => by rw [HV0.out ()]; exact all_no hlt h
        have B3 : Hid (Below w.heap.size w (wr.alloc (.cells #[.string g[k].name, .slice ap g[k].params.length cp, .slice aa g[k].alts.length ca] 43))) := BW.out.alloc BW.out.size _
        have BV3 : Hid (Below (w.heap.size + 1) w1 (wr.alloc (.cells #[.string g[k].name, .slice ap g[k].params.length cp, .slice aa g[k].alts.length ca] 43))) := BV.out.alloc hsz _
        have s1 : (wr.alloc (.cells #[.string g[k].name, .slice ap g[k].params.length cp, .slice aa g[k].alts.length ca] 43)).cell? ⟨wr.heap.size, 1, none⟩ = some (.slice ap g[k].params.length cp) := box_at _ _ _ 1 _ rfl
        have s2 : (wr.alloc (.cells #[.string g[k].name, .slice ap g[k].params.length cp, .slice aa g[k].alts.length ca] 43)).cell? ⟨wr.heap.size, 2, none⟩ = some (.slice aa g[k].alts.length ca) := box_at _ _ _ 2 _ rfl
        have cg3 : (wr.alloc (.cells #[.string g[k].name, .slice ap g[k].params.length cp, .slice aa g[k].alts.length ca] 43)).cell? ⟨w.heap.size, 0, none⟩ = some (.slice (some ⟨b, off, none⟩) g.length cg) := cell_keep cg1 ((Below.refl _ _).alloc (Nat.le_refl _) _)
        have HSp : Hid (SRow (wr.alloc (.cells #[.string g[k].name, .slice ap g[k].params.length cp, .slice aa g[k].alts.length ca] 43)) (.slice ap g[k].params.length cp) g[k].params) := hps.below ((Below.refl _ _).alloc (Nat.le_refl _) _)
        have HAl : Hid (RowC 1 AltE (wr.alloc (.cells #[.string g[k].name, .slice ap g[k].params.length cp, .slice aa g[k].alts.length ca] 43)) (.slice aa g[k].alts.length ca) g[k].alts) := RowC.below AltE_stable hal ((Below.refl _ _).alloc (Nat.le_refl _) _)
        have hs3 : (wr.alloc (.cells #[.string g[k].name, .slice ap g[k].params.length cp, .slice aa g[k].alts.length ca] 43)).heap.size = wr.heap.size + 1 := by simp
        clear hc hps hal cg1 hz3
        by_cases h1 : g[k].alts.length < 1
        · have d1 : decide ((1 : Int) ≤ (g[k].alts.length : Int)) = false := by rw [decide_eq_false]; omega
          have HV : Hid (gramB g = false) := HNo.out (by rw [bodyB, decide_eq_false (by omega)]; rfl)
          clear HNx HNo HV0
          go_wp2_with (go_at_call 58; refine (want_no _).mono ?_; rintro e wq ⟨rfl, hw⟩; rw [hw]; clear hw)
          rw [HV.out]
          exact ⟨rfl, rfl, B3.out⟩
        have d1 : decide ((1 : Int) ≤ (g[k].alts.length : Int)) = true := by rw [decide_eq_true]; omega
        by_cases h8 : 8 < g[k].alts.length
        · have d2 : decide ((g[k].alts.length : Int) ≤ 8) = false := by rw [decide_eq_false]; omega
          have HV : Hid (gramB g = false) := HNo.out (by rw [bodyB, decide_eq_false (by omega)]; rfl)
          clear HNx HNo HV0
          go_wp2_with (go_at_call 58; refine (want_no _).mono ?_; rintro e wq ⟨rfl, hw⟩; rw [hw]; clear hw)
          rw [HV.out]
          exact ⟨rfl, rfl, B3.out⟩
        have d2 : decide ((g[k].alts.length : Int) ≤ 8) = true := by rw [decide_eq_true]; omega
        have HBd : Hid (∀ _ : Unit, bodyB g g[k] = g[k].alts.all (altB g g[k].params)) := fun _ => by rw [bodyB, decide_eq_true (by omega), Bool.true_and]
        go_wp2_with (go_at_call 58; refine (want_yes _).mono ?_; rintro e wq ⟨rfl, hw⟩; rw [hw]; clear hw)
        clear n0 n1 n2
        obtain ⟨W3, hW3⟩ : ∃ W3, W3 = (wr.alloc (.cells #[.string g[k].name, .slice ap g[k].params.length cp, .slice aa g[k].alts.length ca] 43)) := ⟨_, rfl⟩
        rw [← hW3] at B3 BV3 s1 s2 cg3 HSp HAl hs3 ⊢
        obtain ⟨q, hq⟩ : ∃ q, q = wr.heap.size := ⟨_, rfl⟩
        rw [← hq] at s1 s2 hs3 hsz ⊢
        clear hW3 hq BW BV
        go_loopw [29] (fun iv wr => ∃ j : Nat, iv = .int .i64 j ∧ j ≤ g[k].alts.length ∧ (g[k].alts.take j).all (altB g g[k].params) = true ∧ Below (q + 1) W3 wr) (fun iv _ => g[k].alts.length - (intOf iv).toNat)
        case atStart => exact ⟨0, rfl, Nat.zero_le _, rfl, Below.refl _ _⟩
        case round =>
          obtain ⟨j, rfl, hj, hto, hbw⟩ := hrel
          have HTj : Hid ((g[k].alts.take j).all (altB g g[k].params) = true) := hto
          have hszj : q + 1 ≤ wr.heap.size := by have := hbw.size; omega
          have BJ : Hid (Below W3.heap.size W3 wr) := by rw [Hid, hs3]; exact hbw
          have BWj : Hid (Below w.heap.size w wr) := B3.out.trans (hbw.mono (by omega))
          have BVj : Hid (Below (w.heap.size + 1) w1 wr) := BV3.out.trans (hbw.mono (by omega))
          have u1 := cell_keep s1 BJ.out
          have cg4 := cell_keep cg3 BJ.out
          clear hto hbw
          by_cases hltj : j < g[k].alts.length
          · obtain ⟨b', off', vs, rfl, _, hc, hE⟩ := (RowC.below AltE_stable HAl.out BJ.out).at hltj
            obtain ⟨r0, rfl, hS⟩ := hE
            obtain ⟨ax, cx, rfl⟩ := hS.slice
            have n0 : wr.cell? ⟨b', off' + j, none⟩ = some (.slice ax g[k].alts[j].length cx) := by have := hc 0 (by simp); simpa using this
            have i6 : (j : Int) < (g[k].alts.length : Int) := by omega
            have BA : Hid (Below (q + 1) W3 (wr.alloc (.cells #[.slice ax g[k].alts[j].length cx] 63))) := by
              have := BJ.out.alloc (by omega) (.cells #[.slice ax g[k].alts[j].length cx] 63)
              rw [hs3] at this
              exact this
            have BA0 : Hid (Below w.heap.size w (wr.alloc (.cells #[.slice ax g[k].alts[j].length cx] 63))) := BWj.out.alloc (by omega) _
            have e0 : (wr.alloc (.cells #[.slice ax g[k].alts[j].length cx] 63)).cell? ⟨wr.heap.size, 0, none⟩ = some (.slice ax g[k].alts[j].length cx) := box_at _ _ _ 0 _ rfl
            have e1 : (wr.alloc (.cells #[.slice ax g[k].alts[j].length cx] 63)).cell? ⟨q, 1, none⟩ = some (.slice ap g[k].params.length cp) := cell_keep u1 ((Below.refl _ _).alloc (Nat.le_refl _) _)
            have e2 : (wr.alloc (.cells #[.slice ax g[k].alts[j].length cx] 63)).cell? ⟨w.heap.size, 0, none⟩ = some (.slice (some ⟨b, off, none⟩) g.length cg) := cell_keep cg4 ((Below.refl _ _).alloc (Nat.le_refl _) _)
            have HC : Hid (∀ _ : Unit, _) := fun _ => checkAlt_any (.slice (some ⟨b, off, none⟩) g.length cg) g (.slice ax g[k].alts[j].length cx) g[k].alts[j] (.slice ap g[k].params.length cp) g[k].params (wr.alloc (.cells #[.slice ax g[k].alts[j].length cx] 63)) (HErr.out.below BA0.out) hgl (HZ3.out _ (List.getElem_mem hltj)) HPk.out (RowC.below RuleE_stable HG.out BA0.out) (fun r hr => (HZ.out r hr).1) (RowC.below SymE_stable hS ((Below.refl _ _).alloc (Nat.le_refl _) _)) (HSp.out.below (by rw [hs3]; exact BA.out))
            clear hc hS u1 cg4
            cases hin : altB g g[k].params g[k].alts[j] with
            | false =>
              rw [hin] at HC
              have HV : Hid (gramB g = false) := HNo.out (by rw [HBd.out ()]; exact all_no hltj hin)
              clear hin HNo HNx HBd HV0
              go_wp2_with (go_at_call 59; refine (HC.out ()).mono ?_; rintro e w4 ⟨he, hb4⟩; rw [he, okE_no]; clear he)
              rw [HV.out]
              exact ⟨rfl, rfl, BA0.out.trans (hb4.mono BA0.out.size)⟩
            | true =>
              rw [hin] at HC
              have HN : Hid ((g[k].alts.take (j + 1)).all (altB g g[k].params) = true) := all_to hltj HTj.out hin
              clear hin
              go_wp2_with (go_at_call 59; refine (HC.out ()).mono ?_; rintro e w4 ⟨he, hb4⟩; rw [he, okE_yes]; clear he)
              go_roundw
              case rel => exact ⟨j + 1, by go_num, by omega, HN.out, BA.out.trans (hb4.mono (by simp; omega))⟩
              case measure => simp [intOf]; omega
          · obtain rfl : j = g[k].alts.length := by omega
            have HY : Hid (bodyB g g[k] = true) := by
              have := HTj.out
              rw [List.take_of_length_le (Nat.le_refl _)] at this
              rw [Hid, HBd.out (), this]
            clear HBd
            go_wp2
            go_roundw
            case rel => exact ⟨k + 1, by go_num, by omega, HNx.out HY.out, BVj.out⟩
            case measure => simp [intOf]; omega
      · obtain rfl : k = g.length := by omega
        have HV : Hid (gramB g = true) := by
          have := HTo.out
          rw [List.take_of_length_le (Nat.le_refl _)] at this
          rw [Hid, HV0.out (), this]
        clear HV0
        go_wp2
        go_end0
        rw [HV.out]
        exact ⟨rfl, BW.out⟩

end Go.Proofs.YtofpoiccghpliaaGreatDoor
