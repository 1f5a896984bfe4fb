/- The program's checkGrammar: the heads, then each rule's rows. -/
/- The program's GrammarOk: a check that may panic, under a deferred recover. -/
/- The program's GrammarText, as it landed at b9bd698 (its limit counts the sum's four bytes). -/
/- Texts held against one another (no program). -/
import Derived.Test.YtokidlklkgghkaaGreatDoorICk6
import Derived.Test.YtokidlklkgghkaaGreatDoorE16J
import Derived.Test.YtokidlklkgghkaaGreatDoorSealImpl
import Derived.Test.YtokidlklkgghkaaGreatDoorGRuleOk
import Derived.Test.YtokidlklkgghkaaGreatDoorEnvGet
import Derived.Defers
import Derived.Recover
namespace Go.Proofs.YtokidlklkgghkaaGreatDoor
open Go.RowKit

set_option maxHeartbeats 6400000 in
set_option maxRecDepth 100000 in
theorem checkGrammar_any (gv : Value) (g : List RuleD) (w : World) (hErr : errTy w) (hg : grammarTot g ≤ 1048576) (h : RowC 3 RuleE w gv g) :
    Calls Tryz.prog 67 #[.agg #[gv]] w fun e w' => e = okE (gramB g) ∧ Below w.heap.size w w' := by
  have HErr : Hid (errTy w) := hErr
  have HG : Hid (RowC 3 RuleE w gv g) := h
  have hgl : g.length ≤ 1048576 := Nat.le_trans (rowTot_len ruleTot g) hg
  have HZ : Hid (∀ r ∈ g, r.params.length ≤ 1048576 ∧ r.alts.length ≤ 1048576 ∧ ∀ a ∈ r.alts, altTot a ≤ 1048576) := fun r hr => by
    have h1 := rowTot_mem ruleTot hr
    have e1 : ruleTot r = r.name.size + rowTot ByteArray.size r.params + rowTot altTot r.alts := rfl
    have h2 := rowTot_len ByteArray.size r.params
    have h3 := rowTot_len altTot r.alts
    have e2 : grammarTot g = rowTot ruleTot g := rfl
    exact ⟨by omega, by omega, fun a ha => by have := rowTot_mem altTot ha; omega⟩
  have HH : Hid (∀ W, Below w.heap.size w W → _) := fun W hb => checkHeads_any gv g W hg (RowC.below RuleE_stable HG.out hb)
  have HB : Hid (∀ _ : Unit, gramB g = (headsB g && g.all (bodyB g))) := fun _ => gram_is g
  obtain ⟨ag, cg, rfl⟩ := h.slice
  clear h hg hErr
  have B0 : Hid (Below w.heap.size w (w.alloc (.cells #[.slice ag g.length cg] 24))) := (Below.refl _ _).alloc (Nat.le_refl _) _
  have b0 : (w.alloc (.cells #[.slice ag g.length cg] 24)).cell? ⟨w.heap.size, 0, none⟩ = some (.slice ag g.length cg) := box_at _ _ _ 0 _ rfl
  cases hh : headsB g with
  | false =>
    rw [hh] at HH
    have HV : Hid (gramB g = false) := by rw [Hid, HB.out (), hh]; rfl
    clear hh HB
    go_enter Tryz.func67, Tryz.ntmps67
    go_wp2_with (go_at_call 85; refine (HH.out _ B0.out).mono ?_; rintro e w1 ⟨he, hb1⟩; rw [he, okE_no]; clear he)
    rw [HV.out]
    exact ⟨rfl, rfl, B0.out.trans (hb1.mono B0.out.size)⟩
  | true =>
    rw [hh] at HH
    have HPr : Hid (∀ k (hk : k < g.length), g[k].params.length ≤ 6) := fun k hk => heads_par hh k hk
    have HV0 : Hid (∀ _ : Unit, gramB g = g.all (bodyB g)) := fun _ => by rw [HB.out (), hh, Bool.true_and]
    clear hh HB
    go_enter Tryz.func67, Tryz.ntmps67
    go_wp2_with fail
    refine (HH.out _ B0.out).mono ?_
    rintro e w1 ⟨he, hb1⟩
    rw [he, okE_yes]
    clear he
    have B1 : Hid (Below w.heap.size w w1) := B0.out.trans (hb1.mono B0.out.size)
    have c0 := cell_keep b0 hb1
    have hs1 : w.heap.size + 1 ≤ w1.heap.size := by have := hb1.size; simp at this; omega
    clear hb1 b0 B0 HH
    go_wp2
    go_loopw [11] (fun iv wr => ∃ k : Nat, iv = .int .i64 k ∧ k ≤ g.length ∧ (g.take k).all (bodyB g) = true ∧ Below (w.heap.size + 1) w1 wr) (fun iv _ => g.length - (intOf iv).toNat)
    case atStart => exact ⟨0, rfl, Nat.zero_le _, rfl, Below.refl _ _⟩
    case round =>
      obtain ⟨k, rfl, hk, hto, hbw⟩ := hrel
      have HTo : Hid ((g.take k).all (bodyB g) = true) := hto
      have hsz : w.heap.size + 1 ≤ wr.heap.size := Nat.le_trans hs1 hbw.size
      have BW : Hid (Below w.heap.size w wr) := B1.out.trans (hbw.mono (by omega))
      have cg1 : wr.cell? ⟨w.heap.size, 0, none⟩ = some (.slice ag g.length cg) := (World.cell?_of_block (hbw.block w.heap.size (by omega))).trans c0
      have BV : Hid (Below (w.heap.size + 1) w1 wr) := hbw
      clear hto hbw
      by_cases hlt : k < g.length
      · obtain ⟨b, off, vs, rfl, _, hc, hE⟩ := (RowC.below RuleE_stable HG.out BW.out).at hlt
        obtain ⟨p0, p1, rfl, hps, hal⟩ := hE
        obtain ⟨ap, cp, rfl⟩ := hps.slice
        obtain ⟨aa, ca, rfl⟩ := hal.slice
        have n0 : wr.cell? ⟨b, off + k * 3, none⟩ = some (.string g[k].name) := hc 0 (by simp)
        have n1 : wr.cell? ⟨b, off + k * 3 + 1, none⟩ = some (.slice ap g[k].params.length cp) := hc 1 (by simp)
        have n2 : wr.cell? ⟨b, off + k * 3 + 2, none⟩ = some (.slice aa g[k].alts.length ca) := hc 2 (by simp)
        have i5 : (k : Int) < (g.length : Int) := by omega
        obtain ⟨hz1, hz2, hz3⟩ := HZ.out _ (List.getElem_mem hlt)
        have HZ3 : Hid (∀ a ∈ g[k].alts, altTot a ≤ 1048576) := hz3
        have HPk : Hid (g[k].params.length ≤ 6) := HPr.out k hlt
        have HNx : Hid (bodyB g g[k] = true → (g.take (k + 1)).all (bodyB g) = true) := fun h => all_to hlt HTo.out h
        have HNo : Hid (bodyB g g[k] = false → gramB g = false) := fun h => by rw [HV0.out ()]; exact all_no hlt h
        have B3 : Hid (Below w.heap.size w (wr.alloc (.cells #[.string g[k].name, .slice ap g[k].params.length cp, .slice aa g[k].alts.length ca] 40))) := BW.out.alloc BW.out.size _
        have BV3 : Hid (Below (w.heap.size + 1) w1 (wr.alloc (.cells #[.string g[k].name, .slice ap g[k].params.length cp, .slice aa g[k].alts.length ca] 40))) := BV.out.alloc hsz _
        have s1 : (wr.alloc (.cells #[.string g[k].name, .slice ap g[k].params.length cp, .slice aa g[k].alts.length ca] 40)).cell? ⟨wr.heap.size, 1, none⟩ = some (.slice ap g[k].params.length cp) := box_at _ _ _ 1 _ rfl
        have s2 : (wr.alloc (.cells #[.string g[k].name, .slice ap g[k].params.length cp, .slice aa g[k].alts.length ca] 40)).cell? ⟨wr.heap.size, 2, none⟩ = some (.slice aa g[k].alts.length ca) := box_at _ _ _ 2 _ rfl
        have cg3 : (wr.alloc (.cells #[.string g[k].name, .slice ap g[k].params.length cp, .slice aa g[k].alts.length ca] 40)).cell? ⟨w.heap.size, 0, none⟩ = some (.slice (some ⟨b, off, none⟩) g.length cg) := cell_keep cg1 ((Below.refl _ _).alloc (Nat.le_refl _) _)
        have HSp : Hid (SRow (wr.alloc (.cells #[.string g[k].name, .slice ap g[k].params.length cp, .slice aa g[k].alts.length ca] 40)) (.slice ap g[k].params.length cp) g[k].params) := hps.below ((Below.refl _ _).alloc (Nat.le_refl _) _)
        have HAl : Hid (RowC 1 AltE (wr.alloc (.cells #[.string g[k].name, .slice ap g[k].params.length cp, .slice aa g[k].alts.length ca] 40)) (.slice aa g[k].alts.length ca) g[k].alts) := RowC.below AltE_stable hal ((Below.refl _ _).alloc (Nat.le_refl _) _)
        have hs3 : (wr.alloc (.cells #[.string g[k].name, .slice ap g[k].params.length cp, .slice aa g[k].alts.length ca] 40)).heap.size = wr.heap.size + 1 := by simp
        clear hc hps hal cg1 hz3
        by_cases h1 : g[k].alts.length < 1
        · have d1 : decide ((1 : Int) ≤ (g[k].alts.length : Int)) = false := by rw [decide_eq_false]; omega
          have HV : Hid (gramB g = false) := HNo.out (by rw [bodyB, decide_eq_false (by omega)]; rfl)
          clear HNx HNo HV0
          go_wp2_with (go_at_call 62; refine (want_no _).mono ?_; rintro e wq ⟨rfl, hw⟩; rw [hw]; clear hw)
          rw [HV.out]
          exact ⟨rfl, rfl, B3.out⟩
        have d1 : decide ((1 : Int) ≤ (g[k].alts.length : Int)) = true := by rw [decide_eq_true]; omega
        by_cases h8 : 8 < g[k].alts.length
        · have d2 : decide ((g[k].alts.length : Int) ≤ 8) = false := by rw [decide_eq_false]; omega
          have HV : Hid (gramB g = false) := HNo.out (by rw [bodyB, decide_eq_false (by omega)]; rfl)
          clear HNx HNo HV0
          go_wp2_with (go_at_call 62; refine (want_no _).mono ?_; rintro e wq ⟨rfl, hw⟩; rw [hw]; clear hw)
          rw [HV.out]
          exact ⟨rfl, rfl, B3.out⟩
        have d2 : decide ((g[k].alts.length : Int) ≤ 8) = true := by rw [decide_eq_true]; omega
        have HBd : Hid (∀ _ : Unit, bodyB g g[k] = g[k].alts.all (altB g g[k].params)) := fun _ => by rw [bodyB, decide_eq_true (by omega), Bool.true_and]
        go_wp2_with (go_at_call 62; refine (want_yes _).mono ?_; rintro e wq ⟨rfl, hw⟩; rw [hw]; clear hw)
        clear n0 n1 n2
        obtain ⟨W3, hW3⟩ : ∃ W3, W3 = (wr.alloc (.cells #[.string g[k].name, .slice ap g[k].params.length cp, .slice aa g[k].alts.length ca] 40)) := ⟨_, rfl⟩
        rw [← hW3] at B3 BV3 s1 s2 cg3 HSp HAl hs3 ⊢
        obtain ⟨q, hq⟩ : ∃ q, q = wr.heap.size := ⟨_, rfl⟩
        rw [← hq] at s1 s2 hs3 hsz ⊢
        clear hW3 hq BW BV
        go_loopw [29] (fun iv wr => ∃ j : Nat, iv = .int .i64 j ∧ j ≤ g[k].alts.length ∧ (g[k].alts.take j).all (altB g g[k].params) = true ∧ Below (q + 1) W3 wr) (fun iv _ => g[k].alts.length - (intOf iv).toNat)
        case atStart => exact ⟨0, rfl, Nat.zero_le _, rfl, Below.refl _ _⟩
        case round =>
          obtain ⟨j, rfl, hj, hto, hbw⟩ := hrel
          have HTj : Hid ((g[k].alts.take j).all (altB g g[k].params) = true) := hto
          have hszj : q + 1 ≤ wr.heap.size := by have := hbw.size; omega
          have BJ : Hid (Below W3.heap.size W3 wr) := by rw [Hid, hs3]; exact hbw
          have BWj : Hid (Below w.heap.size w wr) := B3.out.trans (hbw.mono (by omega))
          have BVj : Hid (Below (w.heap.size + 1) w1 wr) := BV3.out.trans (hbw.mono (by omega))
          have u1 := cell_keep s1 BJ.out
          have cg4 := cell_keep cg3 BJ.out
          clear hto hbw
          by_cases hltj : j < g[k].alts.length
          · obtain ⟨b', off', vs, rfl, _, hc, hE⟩ := (RowC.below AltE_stable HAl.out BJ.out).at hltj
            obtain ⟨r0, rfl, hS⟩ := hE
            obtain ⟨ax, cx, rfl⟩ := hS.slice
            have n0 : wr.cell? ⟨b', off' + j, none⟩ = some (.slice ax g[k].alts[j].length cx) := by have := hc 0 (by simp); simpa using this
            have i6 : (j : Int) < (g[k].alts.length : Int) := by omega
            have BA : Hid (Below (q + 1) W3 (wr.alloc (.cells #[.slice ax g[k].alts[j].length cx] 43))) := by
              have := BJ.out.alloc (by omega) (.cells #[.slice ax g[k].alts[j].length cx] 43)
              rw [hs3] at this
              exact this
            have BA0 : Hid (Below w.heap.size w (wr.alloc (.cells #[.slice ax g[k].alts[j].length cx] 43))) := BWj.out.alloc (by omega) _
            have e0 : (wr.alloc (.cells #[.slice ax g[k].alts[j].length cx] 43)).cell? ⟨wr.heap.size, 0, none⟩ = some (.slice ax g[k].alts[j].length cx) := box_at _ _ _ 0 _ rfl
            have e1 : (wr.alloc (.cells #[.slice ax g[k].alts[j].length cx] 43)).cell? ⟨q, 1, none⟩ = some (.slice ap g[k].params.length cp) := cell_keep u1 ((Below.refl _ _).alloc (Nat.le_refl _) _)
            have e2 : (wr.alloc (.cells #[.slice ax g[k].alts[j].length cx] 43)).cell? ⟨w.heap.size, 0, none⟩ = some (.slice (some ⟨b, off, none⟩) g.length cg) := cell_keep cg4 ((Below.refl _ _).alloc (Nat.le_refl _) _)
            have HC : Hid (∀ _ : Unit, _) := fun _ => checkAlt_any (.slice (some ⟨b, off, none⟩) g.length cg) g (.slice ax g[k].alts[j].length cx) g[k].alts[j] (.slice ap g[k].params.length cp) g[k].params (wr.alloc (.cells #[.slice ax g[k].alts[j].length cx] 43)) (HErr.out.below BA0.out) hgl (HZ3.out _ (List.getElem_mem hltj)) HPk.out (RowC.below RuleE_stable HG.out BA0.out) (fun r hr => (HZ.out r hr).1) (RowC.below SymE_stable hS ((Below.refl _ _).alloc (Nat.le_refl _) _)) (HSp.out.below (by rw [hs3]; exact BA.out))
            clear hc hS u1 cg4
            cases hin : altB g g[k].params g[k].alts[j] with
            | false =>
              rw [hin] at HC
              have HV : Hid (gramB g = false) := HNo.out (by rw [HBd.out ()]; exact all_no hltj hin)
              clear hin HNo HNx HBd HV0
              go_wp2_with (go_at_call 86; refine (HC.out ()).mono ?_; rintro e w4 ⟨he, hb4⟩; rw [he, okE_no]; clear he)
              rw [HV.out]
              exact ⟨rfl, rfl, BA0.out.trans (hb4.mono BA0.out.size)⟩
            | true =>
              rw [hin] at HC
              have HN : Hid ((g[k].alts.take (j + 1)).all (altB g g[k].params) = true) := all_to hltj HTj.out hin
              clear hin
              go_wp2_with (go_at_call 86; refine (HC.out ()).mono ?_; rintro e w4 ⟨he, hb4⟩; rw [he, okE_yes]; clear he)
              go_roundw
              case rel => exact ⟨j + 1, by go_num, by omega, HN.out, BA.out.trans (hb4.mono (by simp; omega))⟩
              case measure => simp [intOf]; omega
          · obtain rfl : j = g[k].alts.length := by omega
            have HY : Hid (bodyB g g[k] = true) := by
              have := HTj.out
              rw [List.take_of_length_le (Nat.le_refl _)] at this
              rw [Hid, HBd.out (), this]
            clear HBd
            go_wp2
            go_roundw
            case rel => exact ⟨k + 1, by go_num, by omega, HNx.out HY.out, BVj.out⟩
            case measure => simp [intOf]; omega
      · obtain rfl : k = g.length := by omega
        have HV : Hid (gramB g = true) := by
          have := HTo.out
          rw [List.take_of_length_le (Nat.le_refl _)] at this
          rw [Hid, HV0.out (), this]
        clear HV0
        go_wp2
        go_end0
        rw [HV.out]
        exact ⟨rfl, BW.out⟩

end Go.Proofs.YtokidlklkgghkaaGreatDoor

namespace Go.Proofs.YtokidlklkgghkaaGreatDoor
open Go.RowKit

theorem check1_any (gv : Value) (g : List RuleD) (B : Nat) (w : World) (hErr : errTy w) (hg : grammarTot g ≤ 1048576) (h : RowC 3 RuleE w gv g) (hB : w.cell? ⟨B, 0, none⟩ = some gv) :
    Calls Tryz.prog 66 #[.pointer (some ⟨B, 0, none⟩)] w fun e w' => e = okE (gramB g) ∧ Below w.heap.size w w' := by
  have HC : Hid (∀ _ : Unit, _) := fun _ => checkGrammar_any gv g w hErr hg h
  obtain ⟨ag, cg, rfl⟩ := h.slice
  clear h
  cases hb : gramB g with
  | false =>
    rw [hb] at HC
    clear hb
    go_enter Tryz.func66, Tryz.ntmps66
    go_wp2_with (go_at_call 67; refine (HC.out ()).mono ?_; rintro e w4 ⟨he, hb4⟩; rw [he, okE_no]; clear he)
    exact ⟨rfl, rfl, hb4⟩
  | true =>
    rw [hb] at HC
    clear hb
    go_enter Tryz.func66, Tryz.ntmps66
    go_wp2_with (go_at_call 67; refine (HC.out ()).mono ?_; rintro e w4 ⟨he, hb4⟩; rw [he, okE_yes]; clear he)
    go_end0
    exact ⟨rfl, hb4⟩

theorem catch_panicking (p : Addr) (x : Bool) (w : World) (hc : w.cell? p = some (.bool x)) (hz : w.frozen? p = false) :
    CallsD Tryz.prog 37 #[.pointer (some p)] (.panicking nrC) w fun e u' w' =>
      e = .returned (.tuple #[]) ∧ u' = .panicking [{ v := .iface 116 (.agg #[]), recovered := true }] ∧ w' = w.setCell p (.bool false) := by
  refine callsD_of_wpS Tryz.func37 rfl fun c₀ cs hu => ?_
  apply wpS_region
  simp [wpOpsS, go_sem, recoverD, hu, nrC, Tryz.ntmps37, hc, hz, bodyPostS, results, Tryz.results37]

theorem catch_idle (p : Addr) (x : Bool) (w : World) (hc : w.cell? p = some (.bool x)) (hz : w.frozen? p = false) :
    CallsD Tryz.prog 37 #[.pointer (some p)] .returning w fun e u' w' => e = .returned (.tuple #[]) ∧ u' = .returning ∧ w' = w.setCell p (.bool true) := by
  refine callsD_of_wpS Tryz.func37 rfl fun c₀ cs hu => ?_
  apply wpS_region
  simp [wpOpsS, go_sem, recoverD, hu, Tryz.ntmps37, hc, hz, bodyPostS, results, Tryz.results37]
  cases c₀
  simp_all

theorem frozen_kept {W W' : World} {a : Addr} {v : Value} (hc : W.cell? a = some v) (h : W.frozen? a = false) (hb : Below W.heap.size W W') : W'.frozen? a = false := by
  have hlt := World.block_lt_of_cell? W _ hc
  unfold World.frozen? at h ⊢
  rw [hb.block a.block hlt]
  exact h

set_option maxHeartbeats 1600000 in
theorem passes_any (b : Bool) (B : Nat) (w : World) (hC : ∀ W, Below w.heap.size w W → Calls Tryz.prog 66 #[.pointer (some ⟨B, 0, none⟩)] W fun e w' => e = okE b ∧ Below W.heap.size W w') :
    Calls Tryz.prog 15 #[.func (.func 66) #[] #[.pointer (some ⟨B, 0, none⟩)]] w fun e w' => e = .returned (.bool b) ∧ Below w.heap.size w w' := by
  have hmf : ∀ (fn : Fn) (first cap : Array Value) (w : World), (Instr.makeFunc fn first cap).run Tryz.prog w = .ok (.func fn first cap) w := fun _ _ _ _ => rfl
  have HC : Hid (∀ W, Below w.heap.size w W → Calls Tryz.prog 66 #[.pointer (some ⟨B, 0, none⟩)] W fun e w' => e = okE b ∧ Below W.heap.size W w') := hC
  clear hC
  have B0 : Hid (Below w.heap.size w (w.alloc (.cells #[.bool false] 4))) := (Below.refl _ _).alloc (Nat.le_refl _) _
  have b0 : (w.alloc (.cells #[.bool false] 4)).cell? ⟨w.heap.size, 0, none⟩ = some (.bool false) := box_at _ _ _ 0 _ rfl
  have z0 : (w.alloc (.cells #[.bool false] 4)).frozen? ⟨w.heap.size, 0, none⟩ = false := by simp
  cases b with
  | true =>
    go_enter_defers Tryz.func15, Tryz.ntmps15
    go_wp2_with (go_at_call 66; refine (HC.out _ B0.out).mono ?_; rintro e w1 ⟨he, hb1⟩; rw [he, okE_yes]; clear he; have c1 := cell_keep b0 hb1; have z1 := frozen_kept b0 z0 hb1)
    have B1 : Hid (Below w.heap.size w w1) := B0.out.trans (hb1.mono B0.out.size)
    refine leaves_cons (f := 37) (args := #[.pointer (some ⟨w.heap.size, 0, none⟩)]) (by simp) (by simp [go_sem]) ?_
    refine (catch_idle ⟨w.heap.size, 0, none⟩ true _ ?_ ?_).mono ?_
    · exact World.cell?_setCell_same' _ _ _ (by rw [c1]; rfl)
    · simpa using z1
    rintro e u' w'' ⟨rfl, rfl, rfl⟩
    have cf : ((w1.setCell ⟨w.heap.size, 0, none⟩ (.bool true)).setCell ⟨w.heap.size, 0, none⟩ (.bool true)).cell? ⟨w.heap.size, 0, none⟩ = some (.bool true) := World.cell?_setCell_same' _ _ _ (by rw [World.cell?_setCell_same' _ _ _ (by rw [c1]; rfl)]; rfl)
    have BF : Below w.heap.size w ((w1.setCell ⟨w.heap.size, 0, none⟩ (.bool true)).setCell ⟨w.heap.size, 0, none⟩ (.bool true)) := (B1.out.setCell (Nat.le_refl _) _).setCell (Nat.le_refl _) _
    simp only [Leaves, settle]
    exact ⟨.bool true, by simp [results, Tryz.results15, go_sem, cf], rfl, BF⟩
  | false =>
    go_enter_defers Tryz.func15, Tryz.ntmps15
    go_wp2_with (go_at_call 66; refine (HC.out _ B0.out).mono ?_; rintro e w1 ⟨he, hb1⟩; rw [he, okE_no]; clear he; have c1 := cell_keep b0 hb1; have z1 := frozen_kept b0 z0 hb1)
    have B1 : Hid (Below w.heap.size w w1) := B0.out.trans (hb1.mono B0.out.size)
    refine leaves_cons (f := 37) (args := #[.pointer (some ⟨w.heap.size, 0, none⟩)]) (by simp) (by simp [go_sem]) ?_
    refine (catch_panicking ⟨w.heap.size, 0, none⟩ false _ c1 z1).mono ?_
    rintro e u' w'' ⟨rfl, rfl, rfl⟩
    have cf : (w1.setCell ⟨w.heap.size, 0, none⟩ (.bool false)).cell? ⟨w.heap.size, 0, none⟩ = some (.bool false) := World.cell?_setCell_same' _ _ _ (by rw [c1]; rfl)
    have BF : Below w.heap.size w (w1.setCell ⟨w.heap.size, 0, none⟩ (.bool false)) := B1.out.setCell (Nat.le_refl _) _
    simp only [Leaves, settle, List.dropWhile_nil]
    exact ⟨.bool false, by simp [results, Tryz.results15, go_sem, cf], rfl, BF⟩

theorem implGrammarOk_any (gv : Value) (g : List RuleD) (w : World) (hErr : errTy w) (hg : grammarTot g ≤ 1048576) (h : RowC 3 RuleE w gv g) :
    Calls Tryz.prog 43 #[.agg #[gv]] w fun e w' => e = .returned (.bool (gramB g)) ∧ Below w.heap.size w w' := by
  have hmf : ∀ (fn : Fn) (first cap : Array Value) (w : World), (Instr.makeFunc fn first cap).run Tryz.prog w = .ok (.func fn first cap) w := fun _ _ _ _ => rfl
  obtain ⟨ag, cg, rfl⟩ := h.slice
  have B0 : Hid (Below w.heap.size w (w.alloc (.cells #[.slice ag g.length cg] 24))) := (Below.refl _ _).alloc (Nat.le_refl _) _
  have b0 : (w.alloc (.cells #[.slice ag g.length cg] 24)).cell? ⟨w.heap.size, 0, none⟩ = some (.slice ag g.length cg) := box_at _ _ _ 0 _ rfl
  have HP : Hid (∀ _ : Unit, _) := fun _ => passes_any (gramB g) w.heap.size (w.alloc (.cells #[.slice ag g.length cg] 24)) (fun W hb => check1_any (.slice ag g.length cg) g w.heap.size W (hErr.below (B0.out.trans (hb.mono B0.out.size))) hg (RowC.below RuleE_stable h (B0.out.trans (hb.mono B0.out.size))) (cell_keep b0 hb))
  clear h hErr
  go_enter Tryz.func43, Tryz.ntmps43
  go_wp2_with (go_at_call 15; refine (HP.out ()).mono ?_; rintro e w1 ⟨rfl, hb1⟩)
  go_ret
  exact ⟨rfl, B0.out.trans (hb1.mono B0.out.size)⟩

end Go.Proofs.YtokidlklkgghkaaGreatDoor

namespace Go.Proofs.YtokidlklkgghkaaGreatDoor
open Go.RowKit
set_option linter.unusedVariables false

theorem ruleP_of {r : RuleD} (hz : RuleZ r) (hin : RuleIn r) (ht : ruleTot r ≤ 1048576) : RuleP r := by
  have h1 : rowTot ByteArray.size r.params ≤ 1048576 := by unfold ruleTot at ht; omega
  have h2 : rowTot altTot r.alts ≤ 1048576 := by unfold ruleTot at ht; omega
  refine ⟨hz.name, hz.params, Nat.le_trans (rowTot_len _ _) h1, fun a ha => ?_, Nat.le_trans (rowTot_len _ _) h2⟩
  have h3 := rowTot_mem altTot ha
  have h4 : rowTot symTot a ≤ 1048576 := by have e : altTot a = rowTot symTot a := rfl; omega
  refine ⟨fun s hs => ?_, Nat.le_trans (rowTot_len _ _) h4⟩
  have h5 := rowTot_mem symTot hs
  refine ⟨hz.alts a ha s hs, symIn_args (by omega) ((hin.2.2.2 a ha).2 s hs), ?_⟩
  have h6 : rowTot exprTot s.args ≤ symTot s := by unfold symTot; omega
  exact Nat.le_trans (rowTot_len exprTot s.args) (by omega)
theorem sealB_size (l : List UInt8) : (str (sealB l)).size = l.length + 4 := by
  rw [str_size]
  show (l ++ four (sumB 4294967295 l)).length = l.length + 4
  rw [List.length_append]
  rfl

set_option maxHeartbeats 3200000 in
set_option maxRecDepth 100000 in
theorem implGrammarText_any (v : Value) (g : List RuleD) (w : World) (hErr : errTy w) (T : Turns w) (hz : grammarTot g ≤ 1048576) (hin : GrammarIn g) (h : RowC 3 RuleE w v g) :
    Calls Tryz.prog 19 #[.agg #[v]] w fun e w' => e = .returned (.tuple #[.string (str (gramT g)), .bool (gramO g)]) ∧ Below w.heap.size w w' := by
  have HR : Hid (RowC 3 RuleE w v g) := h
  have HZ : Hid (grammarTot g ≤ 1048576) := hz
  have HI : Hid (GrammarIn g) := hin
  have HG : Hid (errTy w) := hErr
  have HT0 : Hid (Turns w) := T
  have hgl : g.length ≤ 1048576 := Nat.le_trans (rowTot_len ruleTot g) hz
  obtain ⟨a, cap, rfl⟩ := h.slice
  clear h hz hin hErr T
  have B0 : Hid (Below w.heap.size w (w.alloc (.cells #[.slice a g.length cap] 24))) := (Below.refl _ _).alloc (Nat.le_refl _) _
  have E0 : (w.alloc (.cells #[.slice a g.length cap] 24)).cell? ⟨w.heap.size, 0, none⟩ = some (.slice a g.length cap) := box_at _ _ _ 0 _ rfl
  go_enter Tryz.func19, Tryz.ntmps19
  go_wp2_with fail
  generalize w.alloc (.cells #[.slice a g.length cap] 24) = w0 at *
  refine (implGrammarOk_any _ g _ (HG.out.below B0.out) HZ.out (RowC.below RuleE_stable HR.out B0.out)).mono ?_
  rintro e w1 ⟨rfl, hb1⟩
  have B1 : Hid (Below w.heap.size w w1) := B0.out.trans (hb1.mono B0.out.size)
  by_cases hb : gramB g = true
  · have HP : Hid (∀ r ∈ g, RuleP r) := fun r hr => ruleP_of (gram_z hb r hr) (HI.out.2 r hr) (by have h1 := rowTot_mem ruleTot hr; have h2 : rowTot ruleTot g ≤ 1048576 := HZ.out; omega)
    have HO : Hid (gramO g = decide ((gramW g).length + 4 ≤ 20000)) := by rw [Hid, gramO, hb, Bool.true_and]
    have HGl : Hid ((gramW g).length ≤ 500000000) := by have h1 := gramW_le g; have h2 := HZ.out; rw [Hid]; omega
    have e1 := cell_keep E0 hb1
    rw [hb]
    clear hb hb1 E0
    have HB2 : Hid (Below w1.heap.size w1 (w1.alloc (.cells #[.slice none 0 0] 82))) := (Below.refl _ _).alloc (Nat.le_refl _) _
    have e2 := cell_keep e1 HB2.out
    have hs1 := B1.out.size
    have HW2 : Hid (WrB w.heap.size w1.heap.size [] (w1.alloc (.cells #[.slice none 0 0] 82))) := ⟨hs1, .slice none 0 0, heap_alloc_new w1 _, World.ownsRow_nil _ _ _ _⟩
    have BW2 : Hid (Below w.heap.size w (w1.alloc (.cells #[.slice none 0 0] 82))) := B1.out.trans (HB2.out.mono hs1)
    go_wp2_with fail
    generalize w1.alloc (.cells #[.slice none 0 0] 82) = w2 at *
    refine (wrsRule_any w w.heap.size w1.heap.size [] (.slice a g.length cap) g _ rfl HW2.out HR.out BW2.out HG.out HP.out hgl (by have h1 := HGl.out; unfold gramW at h1; simp only [List.length_nil]; omega)).mono ?_
    rintro e w3 ⟨rfl, h3, hb3, hk3⟩
    rw [List.nil_append] at h3
    obtain ⟨_, v3, hv3, hown⟩ := h3
    have c3 : w3.cell? ⟨w1.heap.size, 0, none⟩ = some v3 := by rw [Lib.cell_of_heap hv3]; rfl
    have hcv := own_string (P := Tryz.prog) (src := 72) (dst := 9) (listW ruleW g) Tryz.underlying72 Tryz.underlying5 Tryz.underlying9 hown
    have B3 : Hid (Below w.heap.size w w3) := BW2.out.trans hb3
    obtain ⟨ao, n', cap', rfl⟩ : ∃ ao n' cap, v3 = .slice ao n' cap := by
      rcases hown.2 with ⟨hv, _⟩ | ⟨g, cap, cur, hv, _⟩
      · exact ⟨_, _, _, hv⟩
      · exact ⟨_, _, _, hv⟩
    have HsS : Hid ((str (listW ruleW g)).size = (gramW g).length) := by rw [Hid, str_size]; rfl
    have HsD : Hid ((str (listW ruleW g)).data.toList = gramW g) := by rw [Hid]; simp [str, gramW]
    clear hb3 hk3 hown hv3 HB2 e2 e1
    go_wp2_with fail
    have HLs : Hid ((str (sealB (gramW g))).size = (gramW g).length + 4) := sealB_size (gramW g)
    by_cases hl : (gramW g).length ≤ 20000
    · refine (sealed_yes _ w3 (by rw [HsS.out]; exact hl) (tab_below HT0.out B3.out)).mono ?_
      rintro e w4 ⟨rfl, hb4⟩
      rw [HsD.out]
      have B4 : Hid (Below w.heap.size w w4) := B3.out.trans (hb4.mono B3.out.size)
      clear hb4
      by_cases hl4 : (gramW g).length + 4 ≤ 20000
      · have HT : Hid (str (gramT g) = str (sealB (gramW g)) ∧ gramO g = true) := by
          have e : gramO g = true := by rw [HO.out]; exact decide_eq_true hl4
          exact ⟨by rw [gramT, if_pos e]; rfl, e⟩
        have hls : ¬ (20000 : Int) < (str (sealB (gramW g))).size := by rw [HLs.out]; omega
        generalize str (sealB (gramW g)) = st at *
        go_wp2
        go_ret2
        rw [HT.out.1, HT.out.2]
        exact ⟨rfl, B4.out⟩
      · have HT : Hid (gramT g = [] ∧ gramO g = false) := by
          have e : gramO g = false := by rw [HO.out]; exact decide_eq_false hl4
          exact ⟨by rw [gramT, if_neg (by rw [e]; decide)], e⟩
        have hls : (20000 : Int) < (str (sealB (gramW g))).size := by rw [HLs.out]; omega
        generalize str (sealB (gramW g)) = st at *
        go_wp2
        go_ret2
        rw [HT.out.1, HT.out.2]
        exact ⟨rfl, B4.out⟩
    · have HT : Hid (gramT g = [] ∧ gramO g = false) := by
        have e : gramO g = false := by rw [HO.out]; exact decide_eq_false (by omega)
        exact ⟨by rw [gramT, if_neg (by rw [e]; decide)], e⟩
      refine (sealed_no _ w3 (by rw [HsS.out]; omega)).mono ?_
      rintro e w4 ⟨rfl, rfl⟩
      go_wp2
      go_ret2
      rw [HT.out.1, HT.out.2]
      exact ⟨rfl, B3.out⟩
  · have hb' : gramB g = false := by simpa using hb
    have HO : Hid (gramO g = false) := by rw [Hid, gramO, hb']; rfl
    have HT : Hid (gramT g = []) := by rw [Hid, gramT, if_neg (by rw [HO.out]; decide)]
    rw [hb']
    clear hb hb' hb1 E0
    go_wp2
    go_ret2
    rw [HT.out, HO.out]
    exact ⟨rfl, B1.out⟩

end Go.Proofs.YtokidlklkgghkaaGreatDoor

namespace Go.Proofs.YtokidlklkgghkaaGreatDoor
open Go.RowKit

theorem str_bne {l : List UInt8} {s : ByteArray} : (str l = s) ↔ l = s.data.toList := by
  constructor
  · intro h; rw [← h, str_list]
  · intro h; rw [h]; exact ByteArray.ext (by simp [str])
theorem toList_injR {a b : ByteArray} (h : a.toList = b.toList) : a = b := by
  rw [ByteArray.toList_eq, ByteArray.toList_eq] at h
  exact ByteArray.ext (Array.toList_inj.1 h)
end Go.Proofs.YtokidlklkgghkaaGreatDoor
