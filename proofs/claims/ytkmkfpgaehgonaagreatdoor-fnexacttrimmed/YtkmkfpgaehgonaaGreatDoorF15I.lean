/- The program's CallsOf: names collected, sorted, each once. -/
import Derived.Test.YtkmkfpgaehgonaaGreatDoorF15P
import Derived.Test.YtkmkfpgaehgonaaGreatDoorINam
namespace Go.Proofs.YtkmkfpgaehgonaaGreatDoor
open Go.RowKit
set_option linter.unusedVariables false

theorem isPlace15 (p : Int) (a : Option Addr) (n c : Nat) (w : World) :
    Calls Tryz.prog 60 #[.int .i64 p, .slice a n c] w fun e w' => e = .returned (.bool (decide (0 ≤ p ∧ p < (n : Int)))) ∧ w' = w := by
  by_cases h0 : 0 ≤ p
  · by_cases h1 : p < (n : Int)
    · rw [decide_eq_true ⟨h0, h1⟩]
      go_enter Tryz.func60, Tryz.ntmps60
      go_wp2
      go_ret
      exact ⟨rfl, rfl⟩
    · rw [decide_eq_false (by omega)]
      go_enter Tryz.func60, Tryz.ntmps60
      go_wp2
      go_ret
      exact ⟨rfl, rfl⟩
  · rw [decide_eq_false (by omega)]
    go_enter Tryz.func60, Tryz.ntmps60
    go_wp2
    go_ret
    exact ⟨rfl, rfl⟩

open Go.Sort
set_option maxHeartbeats 6400000 in
set_option maxRecDepth 100000 in
theorem implCallsOf_any (v : Value) (g : List RuleD) (r : Int) (w : World) (hn : grammarTot g ≤ 1048576) (h : RowC 3 RuleE w v g) :
    Calls Tryz.prog 36 #[.agg #[v], .int .i64 r] w fun e w' => ∃ o, e = .returned o ∧ OwnB w.heap.size o (callsB g r) w' ∧ Below w.heap.size w w' := by
  obtain ⟨i0, hi, hz0, hz1, hz2⟩ := info_parts Tryz.infoStr
  obtain ⟨a, cap, rfl⟩ := h.slice
  have B0 : Hid (Below w.heap.size w (w.alloc (.cells #[.slice a g.length cap] 28))) := (Below.refl _ _).alloc (Nat.le_refl _) _
  have HR : Hid (RowC 3 RuleE (w.alloc (.cells #[.slice a g.length cap] 28)) (.slice a g.length cap) g) := RowC.below RuleE_stable h B0.out
  have hE0 : (w.alloc (.cells #[.slice a g.length cap] 28)).cell? ⟨w.heap.size, 0, none⟩ = some (.slice a g.length cap) := box_at _ _ _ 0 _ rfl
  have HS0 : Hid ((w.alloc (.cells #[.slice a g.length cap] 28)).heap.size = w.heap.size + 1) := by rw [Hid]; simp
  have HIn : Hid (∀ W, _) := fun W => isPlace15 r a g.length cap W
  have HN : Hid (grammarTot g ≤ 1048576) := hn
  have HO0 : Hid (OwnB (w.heap.size + 1) (.slice (some ⟨w.heap.size + 1, 0, none⟩) 0 0) [] ((w.alloc (.cells #[.slice a g.length cap] 28)).alloc (.cells #[] 9))) := by
    have := World.ownsRow_made (base := (w.alloc (.cells #[.slice a g.length cap] 28)).heap.size) (w.alloc (.cells #[.slice a g.length cap] 28)) #[] 0 (e := 9) (size := 1) (Nat.le_refl _) (by decide) rfl
    rw [HS0.out] at this
    exact this
  have HB0 : Hid (Below (w.heap.size + 1) (w.alloc (.cells #[.slice a g.length cap] 28)) ((w.alloc (.cells #[.slice a g.length cap] 28)).alloc (.cells #[] 9))) := (Below.refl _ _).alloc (by rw [HS0.out]; exact Nat.le_refl _) _
  clear h hn
  by_cases hr : 0 ≤ r ∧ r < (g.length : Int)
  · obtain ⟨q, rfl⟩ : ∃ q : Nat, r = (q : Int) := ⟨r.toNat, by omega⟩
    have hq : q < g.length := by omega
    rw [decide_eq_true hr] at HIn
    have HV : Hid (callsB g (q : Int) = callsA [] g[q].alts) := by
      rw [Hid, callsB, if_pos ⟨by omega, by omega⟩, Int.toNat_natCast, List.getD_eq_getElem?_getD, List.getElem?_eq_getElem hq]
      rfl
    have HCp : Hid (_ = _) := calls_compact g[q].alts
    have HNl : Hid ((namesA g[q].alts).length ≤ (g[q].alts.map List.length).sum) := namesA_len _
    have hat : rowTot altTot g[q].alts ≤ 1048576 := by
      have h1 := rowTot_mem ruleTot (List.getElem_mem hq)
      have h2 : rowTot altTot g[q].alts ≤ ruleTot g[q] := by unfold ruleTot; omega
      have h3 : rowTot ruleTot g ≤ 1048576 := HN.out
      omega
    obtain ⟨b, off, vs, rfl, _, hc, hEl⟩ := HR.out.at hq
    obtain ⟨r0, r1, rfl, hp, ha⟩ := hEl
    have n2 : (w.alloc (.cells #[.slice (some ⟨b, off, none⟩) g.length cap] 28)).cell? ⟨b, off + q * 3 + 2, none⟩ = some r1 := hc 2 (by simp)
    obtain ⟨aa, ca, rfl⟩ := ha.slice
    have n2k := cell_keep n2 ((Below.refl _ _).alloc (Nat.le_refl _) (.cells #[] 9))
    have HA : Hid (RowC 1 AltE (w.alloc (.cells #[.slice (some ⟨b, off, none⟩) g.length cap] 28)) (.slice aa g[q].alts.length ca) g[q].alts) := ha
    have hal : g[q].alts.length ≤ 1048576 := Nat.le_trans (rowTot_len altTot _) hat
    have HAt : Hid (rowTot altTot g[q].alts ≤ 1048576) := hat
    have HSum : Hid ((g[q].alts.map List.length).sum ≤ 1048576) := by
      have h3 : ∀ l : List (List SymD), (l.map List.length).sum ≤ (l.map altTot).sum := by
        intro l
        induction l with
        | nil => simp
        | cons e l ih =>
          simp only [List.map_cons, List.sum_cons]
          have : e.length ≤ altTot e := rowTot_len symTot e
          omega
      have h4 := h3 g[q].alts
      unfold rowTot at hat
      rw [Hid]
      omega
    have i2 : (q : Int) < (g.length : Int) := by omega
    clear hr hc hp ha hat
    generalize g[q].alts = es at *
    have O00 : Hid (OwnB (w.heap.size + 1) (.slice (some ⟨w.heap.size + 1, 0, none⟩) 0 0) (namesA (es.take 0)) ((w.alloc (.cells #[.slice (some ⟨b, off, none⟩) g.length cap] 28)).alloc (.cells #[] 9))) := HO0.out
    go_enter Tryz.func36, Tryz.ntmps36
    go_wp2_with (go_at_call 60; refine (HIn.out _).mono ?_; rintro e wq ⟨rfl, hw⟩; rw [hw]; clear hw)
    generalize (w.alloc (.cells #[.slice (some ⟨b, off, none⟩) g.length cap] 28)) = w0 at *
    go_loopw [5, 24] (fun ov iv wr => ∃ i : Nat, iv = .int .i64 i ∧ i ≤ es.length ∧ OwnB (w.heap.size + 1) ov (namesA (es.take i)) wr ∧ Below w0.heap.size w0 wr) (fun _ iv _ => es.length - (intOf iv).toNat)
    case atStart => exact ⟨0, rfl, Nat.zero_le _, O00.out, by rw [HS0.out]; exact HB0.out⟩
    case round =>
      clear O00 HO0 HB0
      obtain ⟨i, rfl, hil, hown, hbw⟩ := hrel
      obtain ⟨wa, rfl⟩ : ∃ W, W = wr := ⟨wr, rfl⟩
      have HO : Hid (OwnB (w.heap.size + 1) u5 (namesA (es.take i)) wa) := hown
      have HB : Hid (Below w0.heap.size w0 wa) := hbw
      clear hown hbw
      by_cases hlt : i < es.length
      · obtain ⟨be, oe, vse, rfl, _, hce, hEe⟩ := HA.out.at hlt
        obtain ⟨re, rfl, hsy⟩ := hEe
        have m0 : w0.cell? ⟨be, oe + i * 1 + 0, none⟩ = some re := hce 0 (by simp)
        rw [Nat.mul_one, Nat.add_zero] at m0
        have m0a := cell_keep m0 HB.out
        obtain ⟨as9, cs9, rfl⟩ := hsy.slice
        have HSy : Hid (RowC 4 SymE w0 (.slice as9 es[i].length cs9) es[i]) := hsy
        have hsm := sum_take15 es i hlt
        have HNx : Hid (namesA (es.take (i + 1)) = namesA (es.take i) ++ namesC es[i]) := namesA_next es i hlt
        have HLn : Hid ((namesA (es.take i)).length + es[i].length ≤ 1048576) := by
          have h1 := namesA_len (es.take i)
          rw [List.map_take] at h1
          have h2 := HAt.out
          have h3 : ((es.map List.length).take i).sum = ((es.take i).map List.length).sum := by rw [List.map_take]
          rw [Hid]
          omega
        have hyl : es[i].length ≤ 1048576 := by have := HLn.out; omega
        have HT : Hid (∀ y ∈ es[i], symTot y ≤ 1048576) := fun y hy => by
          have h1 := rowTot_mem altTot (List.getElem_mem hlt)
          have h2 : symTot y ≤ altTot es[i] := rowTot_mem symTot hy
          have h3 := HAt.out
          omega
        have i4 : (i : Int) < (es.length : Int) := by omega
        clear hce hsy hsm
        generalize namesA (es.take i) = zs at *
        generalize es[i] = ys at *
        have BA : Hid (Below w0.heap.size w0 (wa.alloc (.cells #[.slice as9 ys.length cs9] 60))) := HB.out.alloc HB.out.size _
        have OA : Hid (OwnB (w.heap.size + 1) u5 (zs ++ namesC (ys.take 0)) (wa.alloc (.cells #[.slice as9 ys.length cs9] 60))) := by
          rw [Hid, show zs ++ namesC (ys.take 0) = zs from List.append_nil zs]
          exact World.ownsRow.alloc HO.out _
        go_wp2
        go_loopw [5, 31] (fun ov kv wr => ∃ k : Nat, kv = .int .i64 k ∧ k ≤ ys.length ∧ OwnB (w.heap.size + 1) ov (zs ++ namesC (ys.take k)) wr ∧ Below w0.heap.size w0 wr) (fun _ kv _ => ys.length - (intOf kv).toNat)
        case atStart => exact ⟨0, rfl, Nat.zero_le _, OA.out, BA.out⟩
        case round =>
          clear HO HB m0a OA BA
          obtain ⟨k, rfl, hk, hown, hbw⟩ := hrel
          obtain ⟨wb, rfl⟩ : ∃ W, W = wr := ⟨wr, rfl⟩
          have HO : Hid (OwnB (w.heap.size + 1) u5 (zs ++ namesC (ys.take k)) wb) := hown
          have HB : Hid (Below w0.heap.size w0 wb) := hbw
          clear hown hbw
          by_cases hkl : k < ys.length
          · obtain ⟨bs, os, vss, rfl, _, hcs, hEs⟩ := HSy.out.at hkl
            obtain ⟨rs, rfl, hxs⟩ := hEs
            obtain ⟨ar, cr, rfl⟩ := hxs.slice
            have s0 : w0.cell? ⟨bs, os + k * 4, none⟩ = some (.int .i64 ys[k].kind) := hcs 0 (by simp)
            have s1 : w0.cell? ⟨bs, os + k * 4 + 1, none⟩ = some (.string ys[k].text) := hcs 1 (by simp)
            have s2 : w0.cell? ⟨bs, os + k * 4 + 2, none⟩ = some (.slice ar ys[k].args.length cr) := hcs 2 (by simp)
            have s3 : w0.cell? ⟨bs, os + k * 4 + 3, none⟩ = some (.string ys[k].bind) := hcs 3 (by simp)
            have s0b := cell_keep s0 HB.out
            have s1b := cell_keep s1 HB.out
            have s2b := cell_keep s2 HB.out
            have s3b := cell_keep s3 HB.out
            have HNk : Hid (namesC (ys.take (k + 1)) = namesC (ys.take k) ++ (if ys[k].kind = 3 then [ys[k].text] else [])) := namesC_next ys k hkl
            have hnl : (zs ++ namesC (ys.take k)).length ≤ 1048576 := by
              have h1 := namesC_len (ys.take k)
              have h2 := HLn.out
              rw [List.length_take] at h1
              rw [List.length_append]
              omega
            have i6 : (k : Int) < (ys.length : Int) := by omega
            have hts : ys[k].text.size ≤ 1048576 := by
              have h1 := HT.out _ (List.getElem_mem hkl)
              have h2 : ys[k].text.size ≤ symTot ys[k] := by unfold symTot; omega
              omega
            have HC : Hid (∀ W, _) := fun W => cloneS ys[k].text W hts
            clear hcs hxs s0 s1 s2 s3
            have B1 : Hid (Below w0.heap.size w0 (wb.alloc (.cells #[.int .i64 ys[k].kind, .string ys[k].text, .slice ar ys[k].args.length cr, .string ys[k].bind] 63))) := HB.out.alloc HB.out.size _
            have O1 : Hid (OwnB (w.heap.size + 1) u5 (zs ++ namesC (ys.take k)) (wb.alloc (.cells #[.int .i64 ys[k].kind, .string ys[k].text, .slice ar ys[k].args.length cr, .string ys[k].bind] 63))) := World.ownsRow.alloc HO.out _
            by_cases h3 : ys[k].kind = 3
            · rw [if_pos h3] at HNk
              rw [h3] at s0b B1 O1
              clear h3
              generalize ys[k].text = tx at *
              generalize ys[k].bind = bx at *
              generalize ys[k].args.length = na at *
              generalize hcz : namesC (ys.take k) = cz at *
              go_wp2_with fail
              refine (HC.out _).mono ?_
              rintro e w3 ⟨rfl, hb3⟩
              have B3 : Hid (Below w0.heap.size w0 w3) := B1.out.trans (hb3.mono B1.out.size)
              have O3 : Hid (OwnB (w.heap.size + 1) u5 (zs ++ cz) w3) := O1.out.below hb3
              clear hb3 B1 O1 HO HB HC s0b s1b s2b s3b
              go_wp2_with (at_builtin; refine wpList_append_own _ rfl _ _ 37 rfl (w.heap.size + 1) 9 i0 _ 1 16 Tryz.underlying37 hi hz0 hz1 hz2 rfl (by decide) _ _ _ rfl (World.ownsRow.alloc O3.out _) ⟨_, 0, none⟩ 1 1 [.string tx] rfl rfl (cell_one_new _ _ _) (one_cellF _) (by unfold maxLen; omega) (by omega) (by have h8 := B3.out.size; rw [HS0.out] at h8; simp; omega) ?_)
              intro v' w4 hown4 hgrow _
              have R := ownB_snoc (by rw [List.length_append]; exact hown4) O3.out hgrow HS0.out.symm B3.out
              clear hown4 hgrow
              go_wp2
              go_roundw
              case rel => exact ⟨k + 1, by go_num, by omega, by rw [HNk.out, ← List.append_assoc]; exact R.1, R.2⟩
              case measure => simp [intOf]; omega
            · rw [if_neg h3, List.append_nil] at HNk
              have b3 : (ys[k].kind == 3) = false := beq_eq_false_iff_ne.2 h3
              clear h3
              generalize ys[k].kind = kk at *
              generalize ys[k].text = tx at *
              generalize ys[k].bind = bx at *
              generalize ys[k].args.length = na at *
              go_wp2
              go_roundw
              case rel => exact ⟨k + 1, by go_num, by omega, by rw [HNk.out]; exact O1.out, B1.out⟩
              case measure => simp [intOf]; omega
          · obtain rfl : k = ys.length := by omega
            rw [List.take_of_length_le (Nat.le_refl _)] at HO
            have i6 : ¬ (ys.length : Int) < (ys.length : Int) := by omega
            go_wp2
            go_roundw
            case rel => exact ⟨i + 1, by go_num, by omega, by rw [HNx.out]; exact HO.out, HB.out⟩
            case measure => simp [intOf]; omega
      · obtain rfl : i = es.length := by omega
        rw [List.take_of_length_le (Nat.le_refl _)] at HO
        have i4 : ¬ (es.length : Int) < (es.length : Int) := by omega
        have HL : Hid ((namesA es).length ≤ 1048576) := Nat.le_trans HNl.out HSum.out
        have B3 : Hid (Below w.heap.size w wa) := B0.out.trans (HB.out.mono B0.out.size)
        clear HNl HSum HAt HA HB
        generalize callsA [] es = fs at *
        generalize namesA es = zs at *
        obtain ⟨w3, rfl⟩ : ∃ W, W = wa := ⟨wa, rfl⟩
        obtain ⟨o3, rfl⟩ : ∃ o, o = u5 := ⟨u5, rfl⟩
        have hnl := HL.out
        by_cases h0 : zs.length = 0
        · have HFe : Hid (fs = []) := by
            have h1 := HCp.out
            rw [List.eq_nil_of_length_eq_zero h0] at h1
            have h2 : (fs.map fun s => s.data.toList) = [] := by
              rw [← h1]
              refine List.eq_nil_of_length_eq_zero ?_
              have h3 := compact_len ((List.map (fun s : ByteArray => s.data.toList) []).mergeSort leL)
              rw [List.length_mergeSort, List.map_nil, List.length_nil] at h3
              exact Nat.le_zero.1 h3
            exact List.map_eq_nil_iff.1 h2
          obtain ⟨a3, c3, ho⟩ := HO.out.row.slice
          rw [h0] at ho
          subst ho
          have HOF : Hid (OwnB w.heap.size (.slice a3 0 c3) fs w3) := by
            have h1 := HO.out
            rw [List.eq_nil_of_length_eq_zero h0] at h1
            rw [Hid, HFe.out]
            exact World.ownsRow.mono h1 (Nat.le_succ _)
          clear h0 hnl
          go_wp2_with fail
          refine (Tryz.slices_Sort_string_none a3 c3 _).mono ?_
          rintro e wq ⟨rfl, hw⟩
          rw [hw]
          clear hw wq
          go_wp2_with fail
          refine (Tryz.slices_Compact_string_empty a3 c3 _).mono ?_
          rintro e wq ⟨rfl, hw⟩
          rw [hw]
          clear hw wq
          go_wp2
          go_ret
          rw [HV.out]
          exact ⟨_, rfl, HOF.out, B3.out⟩
        · rcases HO.out.2 with ⟨_, hn0⟩ | ⟨g1, c3, cur, ho, hgb, hblk, h1, h2, h3, h4⟩
          · exact absurd hn0 h0
          subst ho
          obtain ⟨ss, hss⟩ : ∃ ss, (zs.map fun s => s.data.toList) = ss := ⟨_, rfl⟩
          have hsl : ss.length = zs.length := by rw [← hss, List.length_map]
          rw [hss] at HCp
          have h4' : cur.toList.take ss.length = ss.map encStr := by
            rw [sb_enc, hss, Nat.mul_one] at h4
            rw [hsl]; exact h4
          rw [← hsl] at h1 hnl
          have hgl : g1 < w3.heap.size := (Array.getElem?_eq_some_iff.1 hblk).1
          have HS : Hid (_) := Tryz.slices_Sort_string g1 0 c3 ss w3 (holds_of_block hblk h4') hgl (by omega)
          have HML : Hid ((ss.mergeSort leL).length = ss.length) := List.length_mergeSort ss
          rw [← hsl]
          clear h0 h4 hsl hss
          go_wp2_with fail
          refine Calls.mono HS.out ?_
          rintro e w4 ⟨rfl, n4, os4, hw4⟩
          have hb4 : w4.heap[g1]? = some (.cells (putCells encStr 0 (ss.mergeSort leL).toArray cur) 9 (0, 0)) := by rw [hw4]; exact heap_sorted _ hblk
          have hg4 : w3.grownBy w4 (some g1) := by rw [hw4]; exact grownBy_sorted _
          have B4 : Hid (Below w.heap.size w w4) := B3.out.grown hg4 B3.out.size (fun k hk => by cases hk; omega)
          have hsz4 : (putCells encStr 0 (ss.mergeSort leL).toArray cur).size = c3 * 1 := by simp [putCells, h3]
          have ht4 := take_putCells cur (ss.mergeSort leL) (by rw [HML.out]; omega)
          have HC : Hid (_) := Tryz.slices_Compact_string g1 0 c3 (ss.mergeSort leL) w4 (holds_of_block hb4 ht4) (by rw [HML.out]; omega) (by rw [HML.out]; omega)
          rw [HML.out] at HC
          have HOC : Hid (∀ q, _) := fun q => own_compact (w := w4) (base := w.heap.size) (q := q) (zs := ss.mergeSort leL) (by omega) hb4 (by rw [HML.out]; omega) h2 hsz4
          clear hw4 hg4 hsz4 ht4 hb4
          go_wp2_with fail
          refine Calls.mono HC.out ?_
          rintro e w5 ⟨rfl, q2, hw5⟩
          have HOF : Hid (OwnB w.heap.size (.slice (some ⟨g1, 0, none⟩) (Lib.compact (ss.mergeSort leL)).length c3) fs w5) := by
            have h1 := HOC.out q2
            rw [HML.out] at h1
            rw [hw5]
            exact own_names h1 rfl HCp.out
          have B5 : Hid (Below w.heap.size w w5) := by
            have hg5 : w4.grownBy w5 (some g1) := by rw [hw5, ← grow_none (putRow encStr _ _ _ _)]; exact grownBy_sorted _
            exact B4.out.grown hg5 B4.out.size (fun k hk => by cases hk; omega)
          clear hw5
          go_wp2
          go_ret
          rw [HV.out]
          exact ⟨_, rfl, HOF.out, B5.out⟩
  · rw [decide_eq_false hr] at HIn
    have HV : Hid (callsB g r = []) := by rw [Hid, callsB, if_neg hr]
    have HBf : Hid (Below w.heap.size w ((w.alloc (.cells #[.slice a g.length cap] 28)).alloc (.cells #[] 9))) := B0.out.trans ((Below.refl _ _).alloc (by simp) _)
    have HOf : Hid (OwnB w.heap.size (.slice (some ⟨w.heap.size + 1, 0, none⟩) 0 0) [] ((w.alloc (.cells #[.slice a g.length cap] 28)).alloc (.cells #[] 9))) := World.ownsRow.mono HO0.out (Nat.le_succ _)
    clear hr
    go_enter Tryz.func36, Tryz.ntmps36
    go_wp2_with (go_at_call 60; refine (HIn.out _).mono ?_; rintro e wq ⟨rfl, hw⟩; rw [hw]; clear hw)
    go_ret
    rw [HV.out]
    exact ⟨_, rfl, HOf.out, HBf.out⟩

end Go.Proofs.YtkmkfpgaehgonaaGreatDoor
