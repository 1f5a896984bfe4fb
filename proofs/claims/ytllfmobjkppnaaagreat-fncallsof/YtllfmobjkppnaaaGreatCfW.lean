/- The program's CallsOf: names collected, sorted, each once. -/
/- FnCallsOf, walked whole. -/
import Derived.Test.YtllfmobjkppnaaaGreatF15P
import Derived.Test.YtllfmobjkppnaaaGreatSortS
import Derived.Test.YtllfmobjkppnaaaGreatDrR
import Derived.Test.YtllfmobjkppnaaaGreatAyW
namespace Go.Proofs.YtllfmobjkppnaaaGreat
open Go.RowKit
set_option linter.unusedVariables false

theorem isPlace15 (p : Int) (a : Option Addr) (n c : Nat) (w : World) :
    Calls Tryz.prog 14 #[.int .i64 p, .slice a n c] w fun e w' => e = .returned (.bool (decide (0 ≤ p ∧ p < (n : Int)))) ∧ w' = w := by
  by_cases h0 : 0 ≤ p
  · by_cases h1 : p < (n : Int)
    · rw [decide_eq_true ⟨h0, h1⟩]
      go_enter Tryz.func14, Tryz.ntmps14
      go_wp2
      go_ret
      exact ⟨rfl, rfl⟩
    · rw [decide_eq_false (by omega)]
      go_enter Tryz.func14, Tryz.ntmps14
      go_wp2
      go_ret
      exact ⟨rfl, rfl⟩
  · rw [decide_eq_false (by omega)]
    go_enter Tryz.func14, Tryz.ntmps14
    go_wp2
    go_ret
    exact ⟨rfl, rfl⟩

open Go.Sort
set_option maxHeartbeats 6400000 in
set_option maxRecDepth 100000 in
theorem implCallsOf_any (v : Value) (g : List RuleD) (r : Int) (w : World) (hn : grammarTot g ≤ 1048576) (h : RowC 3 RuleE w v g) :
    Calls Tryz.prog 6 #[.agg #[v], .int .i64 r] w fun e w' => ∃ o, e = .returned o ∧ OwnB w.heap.size o (callsB g r) w' ∧ Below w.heap.size w w' := by
  obtain ⟨i0, hi, hz0, hz1, hz2⟩ := info_parts Tryz.infoStr
  obtain ⟨a, cap, rfl⟩ := h.slice
  have B0 : Hid (Below w.heap.size w (w.alloc (.cells #[.slice a g.length cap] 26))) := (Below.refl _ _).alloc (Nat.le_refl _) _
  have HR : Hid (RowC 3 RuleE (w.alloc (.cells #[.slice a g.length cap] 26)) (.slice a g.length cap) g) := RowC.below RuleE_stable h B0.out
  have hE0 : (w.alloc (.cells #[.slice a g.length cap] 26)).cell? ⟨w.heap.size, 0, none⟩ = some (.slice a g.length cap) := box_at _ _ _ 0 _ rfl
  have HS0 : Hid ((w.alloc (.cells #[.slice a g.length cap] 26)).heap.size = w.heap.size + 1) := by rw [Hid]; simp
  have HIn : Hid (∀ W, _) := fun W => isPlace15 r a g.length cap W
  have HN : Hid (grammarTot g ≤ 1048576) := hn
  have HO0 : Hid (OwnB (w.heap.size + 1) (.slice (some ⟨w.heap.size + 1, 0, none⟩) 0 0) [] ((w.alloc (.cells #[.slice a g.length cap] 26)).alloc (.cells #[] 9))) := by
    have := World.ownsRow_made (base := (w.alloc (.cells #[.slice a g.length cap] 26)).heap.size) (w.alloc (.cells #[.slice a g.length cap] 26)) #[] 0 (e := 9) (size := 1) (Nat.le_refl _) (by decide) rfl
    rw [HS0.out] at this
    exact this
  have HB0 : Hid (Below (w.heap.size + 1) (w.alloc (.cells #[.slice a g.length cap] 26)) ((w.alloc (.cells #[.slice a g.length cap] 26)).alloc (.cells #[] 9))) := (Below.refl _ _).alloc (by rw [HS0.out]; exact Nat.le_refl _) _
  clear h hn
  by_cases hr : 0 ≤ r ∧ r < (g.length : Int)
  · obtain ⟨q, rfl⟩ : ∃ q : Nat, r = (q : Int) := ⟨r.toNat, by omega⟩
    have hq : q < g.length := by omega
    rw [decide_eq_true hr] at HIn
    have HV : Hid (callsB g (q : Int) = callsA [] g[q].alts) := by
      rw [Hid, callsB, if_pos ⟨by omega, by omega⟩, Int.toNat_natCast, List.getD_eq_getElem?_getD, List.getElem?_eq_getElem hq]
      rfl
    have HCp : Hid (_ = _) := calls_compact g[q].alts
    have HNl : Hid ((namesA g[q].alts).length ≤ (g[q].alts.map List.length).sum) := namesA_len _
    have hat : rowTot altTot g[q].alts ≤ 1048576 := by
      have h1 := rowTot_mem ruleTot (List.getElem_mem hq)
      have h2 : rowTot altTot g[q].alts ≤ ruleTot g[q] := by unfold ruleTot; omega
      have h3 : rowTot ruleTot g ≤ 1048576 := HN.out
      omega
    obtain ⟨b, off, vs, rfl, _, hc, hEl⟩ := HR.out.at hq
    obtain ⟨r0, r1, rfl, hp, ha⟩ := hEl
    have n2 : (w.alloc (.cells #[.slice (some ⟨b, off, none⟩) g.length cap] 26)).cell? ⟨b, off + q * 3 + 2, none⟩ = some r1 := hc 2 (by simp)
    obtain ⟨aa, ca, rfl⟩ := ha.slice
    have n2k := cell_keep n2 ((Below.refl _ _).alloc (Nat.le_refl _) (.cells #[] 9))
    have HA : Hid (RowC 1 AltE (w.alloc (.cells #[.slice (some ⟨b, off, none⟩) g.length cap] 26)) (.slice aa g[q].alts.length ca) g[q].alts) := ha
    have hal : g[q].alts.length ≤ 1048576 := Nat.le_trans (rowTot_len altTot _) hat
    have HAt : Hid (rowTot altTot g[q].alts ≤ 1048576) := hat
    have HSum : Hid ((g[q].alts.map List.length).sum ≤ 1048576) := by
      have h3 : ∀ l : List (List SymD), (l.map List.length).sum ≤ (l.map altTot).sum := by
        intro l
        induction l with
        | nil => simp
        | cons e l ih =>
          simp only [List.map_cons, List.sum_cons]
          have : e.length ≤ altTot e := rowTot_len symTot e
          omega
      have h4 := h3 g[q].alts
      unfold rowTot at hat
      rw [Hid]
      omega
    have i2 : (q : Int) < (g.length : Int) := by omega
    clear hr hc hp ha hat
    generalize g[q].alts = es at *
    have O00 : Hid (OwnB (w.heap.size + 1) (.slice (some ⟨w.heap.size + 1, 0, none⟩) 0 0) (namesA (es.take 0)) ((w.alloc (.cells #[.slice (some ⟨b, off, none⟩) g.length cap] 26)).alloc (.cells #[] 9))) := HO0.out
    go_enter Tryz.func6, Tryz.ntmps6
    go_wp2_with (go_at_call 14; refine (HIn.out _).mono ?_; rintro e wq ⟨rfl, hw⟩; rw [hw]; clear hw)
    generalize (w.alloc (.cells #[.slice (some ⟨b, off, none⟩) g.length cap] 26)) = w0 at *
    go_loopw [5, 24] (fun ov iv wr => ∃ i : Nat, iv = .int .i64 i ∧ i ≤ es.length ∧ OwnB (w.heap.size + 1) ov (namesA (es.take i)) wr ∧ Below w0.heap.size w0 wr) (fun _ iv _ => es.length - (intOf iv).toNat)
    case atStart => exact ⟨0, rfl, Nat.zero_le _, O00.out, by rw [HS0.out]; exact HB0.out⟩
    case round =>
      clear O00 HO0 HB0
      obtain ⟨i, rfl, hil, hown, hbw⟩ := hrel
      obtain ⟨wa, rfl⟩ : ∃ W, W = wr := ⟨wr, rfl⟩
      have HO : Hid (OwnB (w.heap.size + 1) u5 (namesA (es.take i)) wa) := hown
      have HB : Hid (Below w0.heap.size w0 wa) := hbw
      clear hown hbw
      by_cases hlt : i < es.length
      · obtain ⟨be, oe, vse, rfl, _, hce, hEe⟩ := HA.out.at hlt
        obtain ⟨re, rfl, hsy⟩ := hEe
        have m0 : w0.cell? ⟨be, oe + i * 1 + 0, none⟩ = some re := hce 0 (by simp)
        rw [Nat.mul_one, Nat.add_zero] at m0
        have m0a := cell_keep m0 HB.out
        obtain ⟨as9, cs9, rfl⟩ := hsy.slice
        have HSy : Hid (RowC 4 SymE w0 (.slice as9 es[i].length cs9) es[i]) := hsy
        have hsm := sum_take15 es i hlt
        have HNx : Hid (namesA (es.take (i + 1)) = namesA (es.take i) ++ namesC es[i]) := namesA_next es i hlt
        have HLn : Hid ((namesA (es.take i)).length + es[i].length ≤ 1048576) := by
          have h1 := namesA_len (es.take i)
          rw [List.map_take] at h1
          have h2 := HAt.out
          have h3 : ((es.map List.length).take i).sum = ((es.take i).map List.length).sum := by rw [List.map_take]
          rw [Hid]
          omega
        have hyl : es[i].length ≤ 1048576 := by have := HLn.out; omega
        have HT : Hid (∀ y ∈ es[i], symTot y ≤ 1048576) := fun y hy => by
          have h1 := rowTot_mem altTot (List.getElem_mem hlt)
          have h2 : symTot y ≤ altTot es[i] := rowTot_mem symTot hy
          have h3 := HAt.out
          omega
        have i4 : (i : Int) < (es.length : Int) := by omega
        clear hce hsy hsm
        generalize namesA (es.take i) = zs at *
        generalize es[i] = ys at *
        have BA : Hid (Below w0.heap.size w0 (wa.alloc (.cells #[.slice as9 ys.length cs9] 45))) := HB.out.alloc HB.out.size _
        have OA : Hid (OwnB (w.heap.size + 1) u5 (zs ++ namesC (ys.take 0)) (wa.alloc (.cells #[.slice as9 ys.length cs9] 45))) := by
          rw [Hid, show zs ++ namesC (ys.take 0) = zs from List.append_nil zs]
          exact World.ownsRow.alloc HO.out _
        go_wp2
        go_loopw [5, 31] (fun ov kv wr => ∃ k : Nat, kv = .int .i64 k ∧ k ≤ ys.length ∧ OwnB (w.heap.size + 1) ov (zs ++ namesC (ys.take k)) wr ∧ Below w0.heap.size w0 wr) (fun _ kv _ => ys.length - (intOf kv).toNat)
        case atStart => exact ⟨0, rfl, Nat.zero_le _, OA.out, BA.out⟩
        case round =>
          clear HO HB m0a OA BA
          obtain ⟨k, rfl, hk, hown, hbw⟩ := hrel
          obtain ⟨wb, rfl⟩ : ∃ W, W = wr := ⟨wr, rfl⟩
          have HO : Hid (OwnB (w.heap.size + 1) u5 (zs ++ namesC (ys.take k)) wb) := hown
          have HB : Hid (Below w0.heap.size w0 wb) := hbw
          clear hown hbw
          by_cases hkl : k < ys.length
          · obtain ⟨bs, os, vss, rfl, _, hcs, hEs⟩ := HSy.out.at hkl
            obtain ⟨rs, rfl, hxs⟩ := hEs
            obtain ⟨ar, cr, rfl⟩ := hxs.slice
            have s0 : w0.cell? ⟨bs, os + k * 4, none⟩ = some (.int .i64 ys[k].kind) := hcs 0 (by simp)
            have s1 : w0.cell? ⟨bs, os + k * 4 + 1, none⟩ = some (.string ys[k].text) := hcs 1 (by simp)
            have s2 : w0.cell? ⟨bs, os + k * 4 + 2, none⟩ = some (.slice ar ys[k].args.length cr) := hcs 2 (by simp)
            have s3 : w0.cell? ⟨bs, os + k * 4 + 3, none⟩ = some (.string ys[k].bind) := hcs 3 (by simp)
            have s0b := cell_keep s0 HB.out
            have s1b := cell_keep s1 HB.out
            have s2b := cell_keep s2 HB.out
            have s3b := cell_keep s3 HB.out
            have HNk : Hid (namesC (ys.take (k + 1)) = namesC (ys.take k) ++ (if ys[k].kind = 3 then [ys[k].text] else [])) := namesC_next ys k hkl
            have hnl : (zs ++ namesC (ys.take k)).length ≤ 1048576 := by
              have h1 := namesC_len (ys.take k)
              have h2 := HLn.out
              rw [List.length_take] at h1
              rw [List.length_append]
              omega
            have i6 : (k : Int) < (ys.length : Int) := by omega
            have hts : ys[k].text.size ≤ 1048576 := by
              have h1 := HT.out _ (List.getElem_mem hkl)
              have h2 : ys[k].text.size ≤ symTot ys[k] := by unfold symTot; omega
              omega
            have HC : Hid (∀ W, _) := fun W => cloneS ys[k].text W hts
            clear hcs hxs s0 s1 s2 s3
            have B1 : Hid (Below w0.heap.size w0 (wb.alloc (.cells #[.int .i64 ys[k].kind, .string ys[k].text, .slice ar ys[k].args.length cr, .string ys[k].bind] 48))) := HB.out.alloc HB.out.size _
            have O1 : Hid (OwnB (w.heap.size + 1) u5 (zs ++ namesC (ys.take k)) (wb.alloc (.cells #[.int .i64 ys[k].kind, .string ys[k].text, .slice ar ys[k].args.length cr, .string ys[k].bind] 48))) := World.ownsRow.alloc HO.out _
            by_cases h3 : ys[k].kind = 3
            · rw [if_pos h3] at HNk
              rw [h3] at s0b B1 O1
              clear h3
              generalize ys[k].text = tx at *
              generalize ys[k].bind = bx at *
              generalize ys[k].args.length = na at *
              generalize hcz : namesC (ys.take k) = cz at *
              go_wp2_with fail
              refine (HC.out _).mono ?_
              rintro e w3 ⟨rfl, hb3⟩
              have B3 : Hid (Below w0.heap.size w0 w3) := B1.out.trans (hb3.mono B1.out.size)
              have O3 : Hid (OwnB (w.heap.size + 1) u5 (zs ++ cz) w3) := O1.out.below hb3
              clear hb3 B1 O1 HO HB HC s0b s1b s2b s3b
              go_wp2_with (at_builtin; refine wpList_append_own _ rfl _ _ 29 rfl (w.heap.size + 1) 9 i0 _ 1 16 Tryz.underlying29 hi hz0 hz1 hz2 rfl (by decide) _ _ _ rfl (World.ownsRow.alloc O3.out _) ⟨_, 0, none⟩ 1 1 [.string tx] rfl rfl (cell_one_new _ _ _) (one_cellF _) (by unfold maxLen; omega) (by omega) (by have h8 := B3.out.size; rw [HS0.out] at h8; simp; omega) ?_)
              intro v' w4 hown4 hgrow _
              have R := ownB_snoc (by rw [List.length_append]; exact hown4) O3.out hgrow HS0.out.symm B3.out
              clear hown4 hgrow
              go_wp2
              go_roundw
              case rel => exact ⟨k + 1, by go_num, by omega, by rw [HNk.out, ← List.append_assoc]; exact R.1, R.2⟩
              case measure => simp [intOf]; omega
            · rw [if_neg h3, List.append_nil] at HNk
              have b3 : (ys[k].kind == 3) = false := beq_eq_false_iff_ne.2 h3
              clear h3
              generalize ys[k].kind = kk at *
              generalize ys[k].text = tx at *
              generalize ys[k].bind = bx at *
              generalize ys[k].args.length = na at *
              go_wp2
              go_roundw
              case rel => exact ⟨k + 1, by go_num, by omega, by rw [HNk.out]; exact O1.out, B1.out⟩
              case measure => simp [intOf]; omega
          · obtain rfl : k = ys.length := by omega
            rw [List.take_of_length_le (Nat.le_refl _)] at HO
            have i6 : ¬ (ys.length : Int) < (ys.length : Int) := by omega
            go_wp2
            go_roundw
            case rel => exact ⟨i + 1, by go_num, by omega, by rw [HNx.out]; exact HO.out, HB.out⟩
            case measure => simp [intOf]; omega
      · obtain rfl : i = es.length := by omega
        rw [List.take_of_length_le (Nat.le_refl _)] at HO
        have i4 : ¬ (es.length : Int) < (es.length : Int) := by omega
        have HL : Hid ((namesA es).length ≤ 1048576) := Nat.le_trans HNl.out HSum.out
        have B3 : Hid (Below w.heap.size w wa) := B0.out.trans (HB.out.mono B0.out.size)
        clear HNl HSum HAt HA HB
        generalize callsA [] es = fs at *
        generalize namesA es = zs at *
        obtain ⟨w3, rfl⟩ : ∃ W, W = wa := ⟨wa, rfl⟩
        obtain ⟨o3, rfl⟩ : ∃ o, o = u5 := ⟨u5, rfl⟩
        have hnl := HL.out
        by_cases h0 : zs.length = 0
        · have HFe : Hid (fs = []) := by
            have h1 := HCp.out
            rw [List.eq_nil_of_length_eq_zero h0] at h1
            have h2 : (fs.map fun s => s.data.toList) = [] := by
              rw [← h1]
              refine List.eq_nil_of_length_eq_zero ?_
              have h3 := compact_len ((List.map (fun s : ByteArray => s.data.toList) []).mergeSort leL)
              rw [List.length_mergeSort, List.map_nil, List.length_nil] at h3
              exact Nat.le_zero.1 h3
            exact List.map_eq_nil_iff.1 h2
          obtain ⟨a3, c3, ho⟩ := HO.out.row.slice
          rw [h0] at ho
          subst ho
          have HOF : Hid (OwnB w.heap.size (.slice a3 0 c3) fs w3) := by
            have h1 := HO.out
            rw [List.eq_nil_of_length_eq_zero h0] at h1
            rw [Hid, HFe.out]
            exact World.ownsRow.mono h1 (Nat.le_succ _)
          clear h0 hnl
          go_wp2_with fail
          refine (Tryz.slices_Sort_string_none a3 c3 _).mono ?_
          rintro e wq ⟨rfl, hw⟩
          rw [hw]
          clear hw wq
          go_wp2_with fail
          refine (Tryz.slices_Compact_string_empty a3 c3 _).mono ?_
          rintro e wq ⟨rfl, hw⟩
          rw [hw]
          clear hw wq
          go_wp2
          go_ret
          rw [HV.out]
          exact ⟨_, rfl, HOF.out, B3.out⟩
        · rcases HO.out.2 with ⟨_, hn0⟩ | ⟨g1, c3, cur, ho, hgb, hblk, h1, h2, h3, h4⟩
          · exact absurd hn0 h0
          subst ho
          obtain ⟨ss, hss⟩ : ∃ ss, (zs.map fun s => s.data.toList) = ss := ⟨_, rfl⟩
          have hsl : ss.length = zs.length := by rw [← hss, List.length_map]
          rw [hss] at HCp
          have h4' : cur.toList.take ss.length = ss.map encStr := by
            rw [sb_enc, hss, Nat.mul_one] at h4
            rw [hsl]; exact h4
          rw [← hsl] at h1 hnl
          have hgl : g1 < w3.heap.size := (Array.getElem?_eq_some_iff.1 hblk).1
          have HS : Hid (_) := Tryz.slices_Sort_string g1 0 c3 ss w3 (holds_of_block hblk h4') hgl (by omega)
          have HML : Hid ((ss.mergeSort leL).length = ss.length) := List.length_mergeSort ss
          rw [← hsl]
          clear h0 h4 hsl hss
          go_wp2_with fail
          refine Calls.mono HS.out ?_
          rintro e w4 ⟨rfl, n4, os4, hw4⟩
          have hb4 : w4.heap[g1]? = some (.cells (putCells encStr 0 (ss.mergeSort leL).toArray cur) 9 (0, 0)) := by rw [hw4]; exact heap_sorted _ hblk
          have hg4 : w3.grownBy w4 (some g1) := by rw [hw4]; exact grownBy_sorted _
          have B4 : Hid (Below w.heap.size w w4) := B3.out.grown hg4 B3.out.size (fun k hk => by cases hk; omega)
          have hsz4 : (putCells encStr 0 (ss.mergeSort leL).toArray cur).size = c3 * 1 := by simp [putCells, h3]
          have ht4 := take_putCells cur (ss.mergeSort leL) (by rw [HML.out]; omega)
          have HC : Hid (_) := Tryz.slices_Compact_string g1 0 c3 (ss.mergeSort leL) w4 (holds_of_block hb4 ht4) (by rw [HML.out]; omega) (by rw [HML.out]; omega)
          rw [HML.out] at HC
          have HOC : Hid (∀ q, _) := fun q => own_compact (w := w4) (base := w.heap.size) (q := q) (zs := ss.mergeSort leL) (by omega) hb4 (by rw [HML.out]; omega) h2 hsz4
          clear hw4 hg4 hsz4 ht4 hb4
          go_wp2_with fail
          refine Calls.mono HC.out ?_
          rintro e w5 ⟨rfl, q2, hw5⟩
          have HOF : Hid (OwnB w.heap.size (.slice (some ⟨g1, 0, none⟩) (Lib.compact (ss.mergeSort leL)).length c3) fs w5) := by
            have h1 := HOC.out q2
            rw [HML.out] at h1
            rw [hw5]
            exact own_names h1 rfl HCp.out
          have B5 : Hid (Below w.heap.size w w5) := by
            have hg5 : w4.grownBy w5 (some g1) := by rw [hw5, ← grow_none (putRow encStr _ _ _ _)]; exact grownBy_sorted _
            exact B4.out.grown hg5 B4.out.size (fun k hk => by cases hk; omega)
          clear hw5
          go_wp2
          go_ret
          rw [HV.out]
          exact ⟨_, rfl, HOF.out, B5.out⟩
  · rw [decide_eq_false hr] at HIn
    have HV : Hid (callsB g r = []) := by rw [Hid, callsB, if_neg hr]
    have HBf : Hid (Below w.heap.size w ((w.alloc (.cells #[.slice a g.length cap] 26)).alloc (.cells #[] 9))) := B0.out.trans ((Below.refl _ _).alloc (by simp) _)
    have HOf : Hid (OwnB w.heap.size (.slice (some ⟨w.heap.size + 1, 0, none⟩) 0 0) [] ((w.alloc (.cells #[.slice a g.length cap] 26)).alloc (.cells #[] 9))) := World.ownsRow.mono HO0.out (Nat.le_succ _)
    clear hr
    go_enter Tryz.func6, Tryz.ntmps6
    go_wp2_with (go_at_call 14; refine (HIn.out _).mono ?_; rintro e wq ⟨rfl, hw⟩; rw [hw]; clear hw)
    go_ret
    rw [HV.out]
    exact ⟨_, rfl, HOf.out, HBf.out⟩

end Go.Proofs.YtllfmobjkppnaaaGreat

namespace Go.Proofs.YtllfmobjkppnaaaGreat
open Go.RowKit
set_option linter.unusedVariables false

theorem bigC_any (a : Option Addr) (n cap : Nat) (w : World) :
    Calls Tryz.prog 4 #[.slice a n cap] w fun e w' => e = .returned (.bool (decide (1048576 < (n : Int)))) ∧ w' = w := by
  go_enter Tryz.func4, Tryz.ntmps4
  go_wp2
  go_ret
  exact ⟨rfl, rfl⟩
theorem two_row (W : World) : SRow (W.alloc (.cells #[.string ⟨#[65]⟩, .string ⟨#[66]⟩] 9)) (.slice (some ⟨W.heap.size, 0, none⟩) 2 2) twoN := by
  refine ⟨some ⟨W.heap.size, 0, none⟩, 2, rfl, fun h => (by cases h), fun _ => ⟨W.heap.size, 0, rfl, by simp, fun i hi => ?_⟩⟩
  have hi2 : i < 2 := hi
  match i, hi2 with
  | 0, _ => exact box_at _ _ _ 0 _ rfl
  | 1, _ => exact box_at _ _ _ 1 _ rfl
theorem keep3C {W W' : World} {a b c : Addr} {x y z : Value} (h : W.cell? a = some x ∧ W.cell? b = some y ∧ W.cell? c = some z) (hb : Below W.heap.size W W') : W'.cell? a = some x ∧ W'.cell? b = some y ∧ W'.cell? c = some z := ⟨cell_keep h.1 hb, cell_keep h.2.1 hb, cell_keep h.2.2 hb⟩
theorem keep2C {W W' : World} {a b : Addr} {x y : Value} (h : W.cell? a = some x ∧ W.cell? b = some y) (hb : Below W.heap.size W W') : W'.cell? a = some x ∧ W'.cell? b = some y := ⟨cell_keep h.1 hb, cell_keep h.2 hb⟩
theorem calls_short (g : List RuleD) (r : Int) (h : grammarTot g ≤ 1048576) : (callsB g r).length ≤ 1048576 := by
  unfold callsB
  split
  · rename_i hr
    obtain ⟨q, rfl⟩ : ∃ q : Nat, r = (q : Int) := ⟨r.toNat, by omega⟩
    have hq : q < g.length := by omega
    rw [Int.toNat_natCast, List.getD_eq_getElem?_getD, List.getElem?_eq_getElem hq]
    show (callsA [] g[q].alts).length ≤ _
    have h1 : ∀ (es : List (List SymD)) (out : List ByteArray), (callsA out es).length ≤ out.length + (es.map List.length).sum := by
      have h2 : ∀ (ys : List SymD) (out : List ByteArray), (callsS out ys).length ≤ out.length + ys.length := by
        intro ys
        induction ys with
        | nil => intro out; exact Nat.le_refl _
        | cons y ys ih =>
          intro out
          have h3 := ih (if y.kind = 3 then putS out y.text else out)
          have h4 := putS_one15 out y.text
          rw [callsS]
          by_cases e : y.kind = 3
          · rw [if_pos e] at h3 ⊢
            simp only [List.length_cons]
            omega
          · rw [if_neg e] at h3 ⊢
            simp only [List.length_cons]
            omega
      intro es
      induction es with
      | nil => intro out; exact Nat.le_refl _
      | cons e es ih =>
        intro out
        have h3 := ih (callsS out e)
        have h4 := h2 e out
        rw [callsA]
        simp only [List.map_cons, List.sum_cons]
        omega
    have h5 := h1 g[q].alts []
    have h6 := sum_take15 (g[q].alts ++ [[]]) g[q].alts.length (by simp)
    have h7 := rowTot_mem ruleTot (List.getElem_mem hq)
    have h8 : rowTot altTot g[q].alts ≤ ruleTot g[q] := by unfold ruleTot; omega
    have h9 : rowTot ruleTot g ≤ 1048576 := h
    have h10 : ∀ l : List (List SymD), (l.map List.length).sum ≤ rowTot altTot l := by
      intro l
      unfold rowTot
      induction l with
      | nil => simp
      | cons e l ih =>
        simp only [List.map_cons, List.sum_cons, List.length_cons]
        have : e.length ≤ altTot e := rowTot_len symTot e
        omega
    have h11 := h10 g[q].alts
    simp only [List.length_nil] at h5
    omega
  · exact Nat.zero_le _

set_option maxHeartbeats 6400000 in
set_option maxRecDepth 100000 in
theorem fnCallsOf_walk (a : Option Addr) (n cap : Nat) (w : World) (hcode : CodeRow w (.slice a n cap) n) :
    Calls Tryz.prog 3 #[.slice a n cap] w fun e w' => e = .returned (.bool true) ∧ Below w.heap.size w w' := by
  have HC : Hid (CodeRow w (.slice a n cap) n) := hcode
  have HAn : Hid (AnyC (fun G => cfB G = true)) := any06_of _ (fun _ hG => cp_of (cf_of hG).1) hG13c
  have HBig : Hid (∀ _ : Unit, _) := fun _ => bigC_any a n cap w
  clear hcode
  by_cases hbig : (1048576 : Int) < (n : Int)
  · have hd : decide ((1048576 : Int) < (n : Int)) = true := decide_eq_true hbig
    go_enter Tryz.func3, Tryz.ntmps3
    go_wp2_with fail
    refine (HBig.out ()).mono ?_
    rintro e w1 ⟨rfl, rfl⟩
    rw [hd]
    go_wp2
    go_ret
    exact ⟨rfl, Below.refl _ _⟩
  have hd : decide ((1048576 : Int) < (n : Int)) = false := decide_eq_false hbig
  have hn : n ≤ 1000000000000 := by omega
  go_enter Tryz.func3, Tryz.ntmps3
  go_wp2_with fail
  refine (HBig.out ()).mono ?_
  rintro e w1 ⟨rfl, rfl⟩
  rw [hd]
  go_wp2_with fail
  refine (drawPair_of (fun G => cfB G = true) hG13c w1 (.slice a n cap) n w1 hn HC.out (Below.refl _ _)).mono ?_
  rintro e w2 ⟨G, o, t, hP, rfl, ht, hh, hb2⟩
  obtain ⟨hcp, htot, _⟩ := cf_of hP
  obtain ⟨hG0, hCI, _⟩ := cp_of hcp
  obtain ⟨ao, co, rfl⟩ := RowC.slice hh.here
  have hGl : G.length ≤ 1048576 := hCI.1
  have HT : Hid (grammarTot G ≤ 1048576) := by rw [Hid]; omega
  have HFit : Hid (∀ i (hi : i < G.length), AscS (callsB G (i : Int)) ∧ ∀ s ∈ callsB G (i : Int), 0 ≤ ruleAtI G s) := calls_fit hP
  have HR2 : Hid (RowC 3 RuleE w2 (.slice ao G.length co) G) := hh.here
  have B2 : Hid (Below w1.heap.size w1 w2) := hb2
  clear hP hcp hCI hh hb2 htot hbig
  have bal : Below w2.heap.size w2 (w2.alloc (.cells #[.slice ao G.length co] 26)) := (Below.refl _ _).alloc (Nat.le_refl _) _
  have c0 : (w2.alloc (.cells #[.slice ao G.length co] 26)).cell? ⟨w2.heap.size, 0, none⟩ = some (.slice ao G.length co) := box_at _ _ _ 0 _ rfl
  have HR3 : Hid (RowC 3 RuleE (w2.alloc (.cells #[.slice ao G.length co] 26)) (.slice ao G.length co) G) := RowC.below RuleE_stable HR2.out bal
  have B3 : Hid (Below w1.heap.size w1 (w2.alloc (.cells #[.slice ao G.length co] 26))) := B2.out.trans (bal.mono B2.out.size)
  clear bal HR2 B2
  go_upto_region 5 with fail
  generalize w2.alloc (.cells #[.slice ao G.length co] 26) = W3 at *
  generalize w2.heap.size = bx at *
  have HIm : Hid (∀ (r : Int) (W : World), Below W3.heap.size W3 W → _) := fun r W hW => implCallsOf_any (.slice ao G.length co) G r W HT.out (RowC.below RuleE_stable HR3.out hW)
  have HSp : Hid (∀ (r : Int) (W : World), Below W3.heap.size W3 W → _) := fun r W hW => specCallsOf_any (.slice ao G.length co) G r W HT.out (RowC.below RuleE_stable HR3.out hW)
  have HRA : Hid (∀ (name : ByteArray) (W : World), Below W3.heap.size W3 W → _) := fun name W hW => specRuleAt_any (.slice ao G.length co) G name W hGl (RowC.below RuleE_stable HR3.out hW)
  go_loopw [5] (fun iv wr => ∃ k : Nat, iv = .int .i64 k ∧ k ≤ G.length ∧ Below W3.heap.size W3 wr) (fun iv _ => G.length - (intOf iv).toNat)
  case atStart => exact ⟨0, rfl, Nat.zero_le _, Below.refl _ _⟩
  case round =>
    obtain ⟨k, rfl, hk, hbr⟩ := hrel
    obtain ⟨wa, rfl⟩ : ∃ W, W = wr := ⟨wr, rfl⟩
    have BR : Hid (Below W3.heap.size W3 wa) := hbr
    have c1 := cell_keep c0 hbr
    clear hbr
    by_cases hlt : k < G.length
    · have i4 : (k : Int) < (G.length : Int) := by omega
      obtain ⟨hasc, hat⟩ := HFit.out k hlt
      have HAsc : Hid (AscS (callsB G (k : Int))) := hasc
      have HAt : Hid (∀ s ∈ callsB G (k : Int), 0 ≤ ruleAtI G s) := hat
      have hLs := calls_short G (k : Int) HT.out
      have HI1 : Hid (_) := HIm.out (k : Int) wa BR.out
      have HS1 : Hid (∀ W : World, Below W3.heap.size W3 W → _) := fun W hW => HSp.out (k : Int) W hW
      clear hasc hat
      generalize callsB G (k : Int) = L at *
      go_wp2_with fail
      refine Calls.mono HI1.out ?_
      rintro e w5 ⟨lv, rfl, hlv, hb5⟩
      obtain ⟨la, lc, rfl⟩ := hlv.row.slice
      have B5 : Hid (Below W3.heap.size W3 w5) := BR.out.trans (hb5.mono BR.out.size)
      have L5 : Hid (OwnB wa.heap.size (.slice la L.length lc) L w5) := hlv
      clear hlv hb5 HI1 c1
      go_wp2
      go_loopw [7] (fun jv ws => ∃ j : Nat, jv = .int .i64 j ∧ j ≤ L.length ∧ Below w5.heap.size w5 ws) (fun jv _ => L.length - (intOf jv).toNat)
      case atStart => exact ⟨0, rfl, Nat.zero_le _, Below.refl _ _⟩
      case round =>
        obtain ⟨j, rfl, hj, hbs⟩ := hrel
        obtain ⟨ws, rfl⟩ : ∃ W, W = wr := ⟨wr, rfl⟩
        have BS : Hid (Below w5.heap.size w5 ws) := hbs
        have B3s : Hid (Below W3.heap.size W3 ws) := B5.out.trans (hbs.mono B5.out.size)
        have cs := cell_keep c0 B3s.out
        clear hbs
        by_cases hjl : j < L.length
        · obtain ⟨lb, lo, rfl, hcj⟩ := (L5.out.row.below BS.out).at (k := j) hjl
          have j4 : (j : Int) < (L.length : Int) := by omega
          have HRJ : Hid (∀ _ : Unit, _) := fun _ => HRA.out L[j] ws.drew (bel_drewS B3s.out)
          have hz := HAt.out L[j] (List.getElem_mem hjl)
          have hzd : decide (ruleAtI G L[j] < 0) = false := decide_eq_false (by omega)
          clear hz
          by_cases h0 : j = 0
          · have g0 : decide ((0 : Int) < (j : Int)) = false := decide_eq_false (by omega)
            have g1 : decide (0 < j) = false := decide_eq_false (by omega)
            clear h0
            generalize ruleAtI G L[j] = z at *
            generalize L[j] = nm at *
            go_wp2
            refine wp_region_held_drew (S := fun W => W.cell? ⟨bx, 0, none⟩ = some (.slice ao G.length co) ∧ W.cell? ⟨lb, lo + j, none⟩ = some (.string nm)) (by kernel_rfl) ?_ (fun hHeld => ?_)
            · (try dsimp only)
              go_keep
            refine wpAnyH_take (i := 0) (oi := { dst := some 34, op := Op.load 26 (Operand.tmp 3), type := 26, pos := "laws.go:1233", after := #[], guard := none }) (v := ?_) rfl (by kernel_rfl) (by kernel_rfl) (by kernel_rfl) (fun _ _ _ h => h) (Or.inl ⟨by rfl, ?_⟩) hHeld ?_
            rotate_left
            · intro w hSw
              (try dsimp only at hSw)
              go_simp
              (try with_reducible rfl)
            (try simp only [Act.put, List.setIfInBounds_toArray, List.set_cons_zero, List.set_cons_succ])
            refine wpAnyH_take (i := 1) (oi := { dst := some 35, op := Op.move (Operand.tmp 6), type := 29, pos := "laws.go:1233", after := #[], guard := none }) (v := ?_) rfl (by kernel_rfl) (by kernel_rfl) (by kernel_rfl) (fun _ _ _ h => h) (Or.inl ⟨by rfl, ?_⟩) hHeld ?_
            rotate_left
            · intro w hSw
              (try dsimp only at hSw)
              go_simp
              (try with_reducible rfl)
            (try simp only [Act.put, List.setIfInBounds_toArray, List.set_cons_zero, List.set_cons_succ])
            refine wpAnyH_take (i := 2) (oi := { dst := some 36, op := Op.move (Operand.tmp 7), type := 3, pos := "laws.go:1233", after := #[], guard := none }) (v := ?_) rfl (by kernel_rfl) (by kernel_rfl) (by kernel_rfl) (fun _ _ _ h => h) (Or.inl ⟨by rfl, ?_⟩) hHeld ?_
            rotate_left
            · intro w hSw
              (try dsimp only at hSw)
              go_simp
              (try with_reducible rfl)
            (try simp only [Act.put, List.setIfInBounds_toArray, List.set_cons_zero, List.set_cons_succ])
            refine wpAnyH_take (i := 3) (oi := { dst := some 37, op := Op.indexAddr 29 (Operand.tmp 35) (Operand.tmp 36), type := 0, pos := "laws.go:1233", after := #[{ on := 1, ground := Ground.data }, { on := 2, ground := Ground.data }], guard := none }) (v := ?_) rfl (by kernel_rfl) (by kernel_rfl) (by kernel_rfl) (fun _ _ _ h => h) (Or.inl ⟨by rfl, ?_⟩) hHeld ?_
            rotate_left
            · intro w hSw
              (try dsimp only at hSw)
              go_simp
              (try with_reducible rfl)
            (try simp only [Act.put, List.setIfInBounds_toArray, List.set_cons_zero, List.set_cons_succ])
            refine wpAnyH_take (i := 4) (oi := { dst := some 38, op := Op.load 9 (Operand.tmp 37), type := 9, pos := "laws.go:1233", after := #[{ on := 3, ground := Ground.data }], guard := none }) (v := ?_) rfl (by kernel_rfl) (by kernel_rfl) (by kernel_rfl) (fun _ _ _ h => h) (Or.inl ⟨by rfl, ?_⟩) hHeld ?_
            rotate_left
            · intro w hSw
              (try dsimp only at hSw)
              go_simp
              (try with_reducible rfl)
            (try simp only [Act.put, List.setIfInBounds_toArray, List.set_cons_zero, List.set_cons_succ])
            refine wpAnyH_ready (rs := [5]) (by kernel_rfl) (by simp) ?_
            refine AllReadyH.cons rfl (fun K hK => ?_) AllReadyH.nil
            go_simp
            refine Calls.mono (HRJ.out ()) ?_
            rintro e w6 ⟨rfl, hb6⟩
            (try dsimp only)
            refine hK.out _ _ ?_ (fun hHeld => ?_)
            · (try dsimp only)
              exact keep2C hHeld hb6
            clear hK K
            refine wpAnyH_take (i := 6) (oi := { dst := some 40, op := Op.binOp BinOp.lss 3 (Operand.tmp 39) (Operand.const (Value.int IntKind.i64 0)) 3, type := 4, pos := "laws.go:1233", after := #[{ on := 5, ground := Ground.data }], guard := none }) (v := ?_) rfl (by kernel_rfl) (by kernel_rfl) (by kernel_rfl) (fun _ _ _ h => h) (Or.inl ⟨by rfl, ?_⟩) hHeld ?_
            rotate_left
            · intro w hSw
              (try dsimp only at hSw)
              go_simp
              (try with_reducible rfl)
            (try simp only [Act.put, List.setIfInBounds_toArray, List.set_cons_zero, List.set_cons_succ])
            refine wpAnyH_take (i := 7) (oi := { dst := some 41, op := Op.move (Operand.tmp 40), type := 4, pos := "laws.go:1233", after := #[{ on := 6, ground := Ground.data }, { on := 5, ground := Ground.chain }], guard := none }) (v := ?_) rfl (by kernel_rfl) (by kernel_rfl) (by kernel_rfl) (fun _ _ _ h => h) (Or.inl ⟨by rfl, ?_⟩) hHeld ?_
            rotate_left
            · intro w hSw
              (try dsimp only at hSw)
              go_simp
              (try with_reducible rfl)
            (try simp only [Act.put, List.setIfInBounds_toArray, List.set_cons_zero, List.set_cons_succ])
            refine wpAnyH_take (i := 8) (oi := { dst := some 42, op := Op.move (Operand.tmp 7), type := 3, pos := "laws.go:1233", after := #[{ on := 7, ground := Ground.guard }], guard := some (7, false) }) (v := ?_) rfl (by kernel_rfl) (by kernel_rfl) (by kernel_rfl) (fun _ _ _ h => h) (Or.inl ⟨by rfl, ?_⟩) hHeld ?_
            rotate_left
            · intro w hSw
              (try dsimp only at hSw)
              go_simp
              (try with_reducible rfl)
            (try simp only [Act.put, List.setIfInBounds_toArray, List.set_cons_zero, List.set_cons_succ])
            refine wpAnyH_take (i := 9) (oi := { dst := some 43, op := Op.binOp BinOp.gtr 3 (Operand.tmp 42) (Operand.const (Value.int IntKind.i64 0)) 3, type := 4, pos := "laws.go:1233", after := #[{ on := 8, ground := Ground.data }, { on := 7, ground := Ground.guard }], guard := some (7, false) }) (v := ?_) rfl (by kernel_rfl) (by kernel_rfl) (by kernel_rfl) (fun _ _ _ h => h) (Or.inl ⟨by rfl, ?_⟩) hHeld ?_
            rotate_left
            · intro w hSw
              (try dsimp only at hSw)
              go_simp
              (try with_reducible rfl)
            (try simp only [Act.put, List.setIfInBounds_toArray, List.set_cons_zero, List.set_cons_succ])
            refine wpAnyH_take (i := 10) (oi := { dst := some 44, op := Op.move (Operand.tmp 43), type := 4, pos := "laws.go:1233", after := #[{ on := 9, ground := Ground.data }, { on := 7, ground := Ground.chain }, { on := 7, ground := Ground.guard }], guard := some (7, false) }) (v := ?_) rfl (by kernel_rfl) (by kernel_rfl) (by kernel_rfl) (fun _ _ _ h => h) (Or.inl ⟨by rfl, ?_⟩) hHeld ?_
            rotate_left
            · intro w hSw
              (try dsimp only at hSw)
              go_simp
              (try with_reducible rfl)
            (try simp only [Act.put, List.setIfInBounds_toArray, List.set_cons_zero, List.set_cons_succ])
            refine wpAnyH_take (i := 11) (oi := { dst := some 45, op := Op.move (Operand.tmp 6), type := 29, pos := "laws.go:1233", after := #[{ on := 10, ground := Ground.guard }], guard := some (10, true) }) (v := undef) rfl (by kernel_rfl) (by kernel_rfl) (by kernel_rfl) (fun _ _ _ h => h) (Or.inr ⟨by rfl, rfl⟩) hHeld ?_
            (try simp only [Act.put, List.setIfInBounds_toArray, List.set_cons_zero, List.set_cons_succ])
            refine wpAnyH_take (i := 12) (oi := { dst := some 46, op := Op.move (Operand.tmp 7), type := 3, pos := "laws.go:1233", after := #[{ on := 10, ground := Ground.guard }], guard := some (10, true) }) (v := undef) rfl (by kernel_rfl) (by kernel_rfl) (by kernel_rfl) (fun _ _ _ h => h) (Or.inr ⟨by rfl, rfl⟩) hHeld ?_
            (try simp only [Act.put, List.setIfInBounds_toArray, List.set_cons_zero, List.set_cons_succ])
            refine wpAnyH_take (i := 13) (oi := { dst := some 47, op := Op.binOp BinOp.sub 3 (Operand.tmp 46) (Operand.const (Value.int IntKind.i64 1)) 3, type := 3, pos := "laws.go:1233", after := #[{ on := 12, ground := Ground.data }, { on := 10, ground := Ground.guard }], guard := some (10, true) }) (v := undef) rfl (by kernel_rfl) (by kernel_rfl) (by kernel_rfl) (fun _ _ _ h => h) (Or.inr ⟨by rfl, rfl⟩) hHeld ?_
            (try simp only [Act.put, List.setIfInBounds_toArray, List.set_cons_zero, List.set_cons_succ])
            refine wpAnyH_take (i := 14) (oi := { dst := some 48, op := Op.indexAddr 29 (Operand.tmp 45) (Operand.tmp 47), type := 0, pos := "laws.go:1233", after := #[{ on := 11, ground := Ground.data }, { on := 13, ground := Ground.data }, { on := 10, ground := Ground.guard }], guard := some (10, true) }) (v := undef) rfl (by kernel_rfl) (by kernel_rfl) (by kernel_rfl) (fun _ _ _ h => h) (Or.inr ⟨by rfl, rfl⟩) hHeld ?_
            (try simp only [Act.put, List.setIfInBounds_toArray, List.set_cons_zero, List.set_cons_succ])
            refine wpAnyH_take (i := 15) (oi := { dst := some 49, op := Op.load 9 (Operand.tmp 48), type := 9, pos := "laws.go:1233", after := #[{ on := 14, ground := Ground.data }, { on := 10, ground := Ground.guard }], guard := some (10, true) }) (v := undef) rfl (by kernel_rfl) (by kernel_rfl) (by kernel_rfl) (fun _ _ _ h => h) (Or.inr ⟨by rfl, rfl⟩) hHeld ?_
            (try simp only [Act.put, List.setIfInBounds_toArray, List.set_cons_zero, List.set_cons_succ])
            refine wpAnyH_take (i := 16) (oi := { dst := some 50, op := Op.move (Operand.tmp 6), type := 29, pos := "laws.go:1233", after := #[{ on := 10, ground := Ground.guard }], guard := some (10, true) }) (v := undef) rfl (by kernel_rfl) (by kernel_rfl) (by kernel_rfl) (fun _ _ _ h => h) (Or.inr ⟨by rfl, rfl⟩) hHeld ?_
            (try simp only [Act.put, List.setIfInBounds_toArray, List.set_cons_zero, List.set_cons_succ])
            refine wpAnyH_take (i := 17) (oi := { dst := some 51, op := Op.move (Operand.tmp 7), type := 3, pos := "laws.go:1233", after := #[{ on := 10, ground := Ground.guard }], guard := some (10, true) }) (v := undef) rfl (by kernel_rfl) (by kernel_rfl) (by kernel_rfl) (fun _ _ _ h => h) (Or.inr ⟨by rfl, rfl⟩) hHeld ?_
            (try simp only [Act.put, List.setIfInBounds_toArray, List.set_cons_zero, List.set_cons_succ])
            refine wpAnyH_take (i := 18) (oi := { dst := some 52, op := Op.indexAddr 29 (Operand.tmp 50) (Operand.tmp 51), type := 0, pos := "laws.go:1233", after := #[{ on := 16, ground := Ground.data }, { on := 17, ground := Ground.data }, { on := 10, ground := Ground.guard }], guard := some (10, true) }) (v := undef) rfl (by kernel_rfl) (by kernel_rfl) (by kernel_rfl) (fun _ _ _ h => h) (Or.inr ⟨by rfl, rfl⟩) hHeld ?_
            (try simp only [Act.put, List.setIfInBounds_toArray, List.set_cons_zero, List.set_cons_succ])
            refine wpAnyH_take (i := 19) (oi := { dst := some 53, op := Op.load 9 (Operand.tmp 52), type := 9, pos := "laws.go:1233", after := #[{ on := 18, ground := Ground.data }, { on := 10, ground := Ground.guard }], guard := some (10, true) }) (v := undef) rfl (by kernel_rfl) (by kernel_rfl) (by kernel_rfl) (fun _ _ _ h => h) (Or.inr ⟨by rfl, rfl⟩) hHeld ?_
            (try simp only [Act.put, List.setIfInBounds_toArray, List.set_cons_zero, List.set_cons_succ])
            refine wpAnyH_take (i := 20) (oi := { dst := some 54, op := Op.binOp BinOp.geq 9 (Operand.tmp 49) (Operand.tmp 53) 9, type := 4, pos := "laws.go:1233", after := #[{ on := 15, ground := Ground.data }, { on := 19, ground := Ground.data }, { on := 10, ground := Ground.guard }], guard := some (10, true) }) (v := undef) rfl (by kernel_rfl) (by kernel_rfl) (by kernel_rfl) (fun _ _ _ h => h) (Or.inr ⟨by rfl, rfl⟩) hHeld ?_
            (try simp only [Act.put, List.setIfInBounds_toArray, List.set_cons_zero, List.set_cons_succ])
            refine wpAnyH_take (i := 21) (oi := { dst := some 55, op := Op.pick (Operand.tmp 44) (Operand.tmp 54) (Operand.const (Value.bool false)), type := 4, pos := "laws.go:1233", after := #[{ on := 10, ground := Ground.data }, { on := 20, ground := Ground.data }, { on := 7, ground := Ground.guard }], guard := some (7, false) }) (v := ?_) rfl (by kernel_rfl) (by kernel_rfl) (by kernel_rfl) (fun _ _ _ h => h) (Or.inl ⟨by rfl, ?_⟩) hHeld ?_
            rotate_left
            · intro w hSw
              (try dsimp only at hSw)
              go_simp
              (try with_reducible rfl)
            (try simp only [Act.put, List.setIfInBounds_toArray, List.set_cons_zero, List.set_cons_succ])
            refine wpAnyH_take (i := 22) (oi := { dst := some 56, op := Op.pick (Operand.tmp 41) (Operand.const (Value.bool true)) (Operand.tmp 55), type := 4, pos := "laws.go:1233", after := #[{ on := 7, ground := Ground.data }, { on := 21, ground := Ground.data }], guard := none }) (v := ?_) rfl (by kernel_rfl) (by kernel_rfl) (by kernel_rfl) (fun _ _ _ h => h) (Or.inl ⟨by rfl, ?_⟩) hHeld ?_
            rotate_left
            · intro w hSw
              (try dsimp only at hSw)
              go_simp
              (try with_reducible rfl)
            (try simp only [Act.put, List.setIfInBounds_toArray, List.set_cons_zero, List.set_cons_succ])
            refine wpAnyH_done (by kernel_rfl) ?_ _
            have B6 : Hid (Below w5.heap.size w5 w6) := BS.out.trans ((bel_of_drew hb6).mono BS.out.size)
            clear hb6
            go_wp2
            go_roundw
            case rel => exact ⟨j + 1, by go_num, by omega, B6.out⟩
            case measure => simp [intOf]; omega
          · have g0 : decide ((0 : Int) < (j : Int)) = true := decide_eq_true (by omega)
            have g1 : decide (0 < j) = true := decide_eq_true (by omega)
            obtain ⟨i, hi⟩ : ∃ i : Nat, j = i + 1 := ⟨j - 1, by omega⟩
            have wp : IntKind.i64.wrap ((j : Int) - 1) = (i : Int) := by rw [IntKind.wrap_i64]; omega
            have hil : i < L.length := by omega
            obtain ⟨lb', lo', e1, hci⟩ := (L5.out.row.below BS.out).at (k := i) hil
            cases e1
            have i5 : (i : Int) < (L.length : Int) := by omega
            have hbl : Op.bytesLess L[i].toList L[j].toList = true := List.pairwise_iff_getElem.1 HAsc.out i j hil hjl (by omega)
            have HIj : Hid (j = i + 1) := hi
            clear h0 hi
            generalize ruleAtI G L[j] = z at *
            generalize L[j] = nm at *
            generalize L[i] = mm at *
            go_wp2
            go_region_held3 (fun W => W.cell? ⟨bx, 0, none⟩ = some (.slice ao G.length co) ∧ W.cell? ⟨lb, lo + j, none⟩ = some (.string nm) ∧ W.cell? ⟨lb, lo + i, none⟩ = some (.string mm))
              ((first | exact keep3C (by assumption) hb6 | go_keep))
              ((first | (go_at_call 7; refine (HRJ.out ()).mono ?_; rintro e w6 ⟨rfl, hb6⟩)))
            have B6 : Hid (Below w5.heap.size w5 w6) := BS.out.trans ((bel_of_drew hb6).mono BS.out.size)
            clear hb6
            go_wp2
            go_roundw
            case rel => exact ⟨j + 1, by go_num, by omega, B6.out⟩
            case measure => simp [intOf]; omega
        · obtain rfl : j = L.length := by omega
          have j4 : ¬ (L.length : Int) < (L.length : Int) := by omega
          go_wp2_with fail
          refine Calls.mono (HS1.out _ B3s.out) ?_
          rintro e w7 ⟨sv, rfl, hsv, hb7⟩
          obtain ⟨sa, sc, rfl⟩ := hsv.row.slice
          have B7 : Hid (Below w5.heap.size w5 w7) := BS.out.trans (hb7.mono BS.out.size)
          have S7 : Hid (SRow w7 (.slice sa L.length sc) L) := hsv.row
          have L7 : Hid (SRow w7 (.slice la L.length lc) L) := L5.out.row.below B7.out
          clear hsv hb7
          go_wp2_with fail
          refine (sameT15 _ _ L _ hLs L7.out S7.out).mono ?_
          rintro e w8 ⟨rfl, hb8⟩
          have B8 : Hid (Below W3.heap.size W3 w8) := by
            have h1 := B7.out.trans (hb8.mono B7.out.size)
            exact B5.out.trans (h1.mono B5.out.size)
          clear hb8
          go_wp2
          go_roundw
          case rel => exact ⟨k + 1, by go_num, by omega, B8.out⟩
          case measure => simp [intOf]; omega
    · obtain rfl : k = G.length := by omega
      have i4 : ¬ (G.length : Int) < (G.length : Int) := by omega
      have B4 : Hid (Below w1.heap.size w1 wa) := B3.out.trans (BR.out.mono B3.out.size)
      clear HIm HSp HRA HFit
      go_wp2_with fail
      refine (drawCallsOf_of (fun G => cfB G = true) HAn.out w1 (.slice a n cap) n wa hn HC.out B4.out).mono ?_
      rintro e w5 ⟨G1, hP1, G2, hO, o2, t2, rfl, hh2, hb5⟩
      obtain ⟨a2, cc2, rfl⟩ := RowC.slice hh2.here
      have HT2 : Hid (grammarTot G2 ≤ 1048576) := by
        have h1 := ay_tot hO
        have h2 := (cf_of hP1).2.1
        rw [Hid]
        omega
      have HR5 : Hid (RowC 3 RuleE w5 (.slice a2 G2.length cc2) G2) := hh2.here
      have B5 : Hid (Below w1.heap.size w1 w5) := B4.out.trans (hb5.mono B4.out.size)
      have bal : Below w5.heap.size w5 (w5.alloc (.cells #[.slice a2 G2.length cc2] 26)) := (Below.refl _ _).alloc (Nat.le_refl _) _
      have c7 : (w5.alloc (.cells #[.slice a2 G2.length cc2] 26)).cell? ⟨w5.heap.size, 0, none⟩ = some (.slice a2 G2.length cc2) := box_at _ _ _ 0 _ rfl
      have HR6 : Hid (RowC 3 RuleE (w5.alloc (.cells #[.slice a2 G2.length cc2] 26)) (.slice a2 G2.length cc2) G2) := RowC.below RuleE_stable HR5.out bal
      have B6 : Hid (Below w1.heap.size w1 (w5.alloc (.cells #[.slice a2 G2.length cc2] 26))) := B5.out.trans (bal.mono B5.out.size)
      obtain ⟨G0, hT0, hC0, hGr⟩ := gr0
      clear hP1 hO hh2 hb5 bal c1 BR B4 B5 HR5 c0 HR3 B3
      go_wp2_with fail
      generalize w5.alloc (.cells #[.slice a2 G2.length cc2] 26) = W6 at *
      generalize w5.heap.size = by6 at *
      refine (plain0_any G0 hGr W6).mono ?_
      rintro e w7 ⟨o7, rfl, hr7, hb7⟩
      obtain ⟨a7, cc7, rfl⟩ := RowC.slice hr7
      have bal7 : Below w7.heap.size w7 (w7.alloc (.cells #[.slice a7 G0.length cc7] 26)) := (Below.refl _ _).alloc (Nat.le_refl _) _
      have d8 := cell_keep (cell_keep c7 hb7) bal7
      have d10 : (w7.alloc (.cells #[.slice a7 G0.length cc7] 26)).cell? ⟨w7.heap.size, 0, none⟩ = some (.slice a7 G0.length cc7) := box_at _ _ _ 0 _ rfl
      have R8 : Hid (RowC 3 RuleE (w7.alloc (.cells #[.slice a7 G0.length cc7] 26)) (.slice a2 G2.length cc2) G2) := RowC.below RuleE_stable (RowC.below RuleE_stable HR6.out hb7) bal7
      have R10 : Hid (RowC 3 RuleE (w7.alloc (.cells #[.slice a7 G0.length cc7] 26)) (.slice a7 G0.length cc7) G0) := RowC.below RuleE_stable hr7 bal7
      have B8 : Hid (Below w1.heap.size w1 (w7.alloc (.cells #[.slice a7 G0.length cc7] 26))) := (B6.out.trans (hb7.mono B6.out.size)).trans (bal7.mono (Nat.le_trans B6.out.size hb7.size))
      clear hr7 hb7 bal7 c7 HR6 B6
      go_upto_region 17 with fail
      generalize w7.alloc (.cells #[.slice a7 G0.length cc7] 26) = W8 at *
      generalize w7.heap.size = by8 at *
      have HX1 : Hid (∀ W : World, Below W8.heap.size W8 W → _) := fun W hW => implCallsOf_any (.slice a2 G2.length cc2) G2 t2 W HT2.out (RowC.below RuleE_stable R8.out hW)
      have HX2 : Hid (∀ W : World, Below W8.heap.size W8 W → _) := fun W hW => specCallsOf_any (.slice a2 G2.length cc2) G2 t2 W HT2.out (RowC.below RuleE_stable R8.out hW)
      have HX4 : Hid (∀ W : World, Below W8.heap.size W8 W → Calls Tryz.prog 6 #[.agg #[.slice a7 G0.length cc7], .int .i64 0] W fun e w' => ∃ o, e = .returned o ∧ OwnB W.heap.size o twoN w' ∧ Below W.heap.size W w') := fun W hW => by
        have h := implCallsOf_any (.slice a7 G0.length cc7) G0 0 W (by omega) (RowC.below RuleE_stable R10.out hW)
        rwa [hC0] at h
      have hL2 := calls_short G2 t2 HT2.out
      have HSam : Hid (∀ (W : World) (u v : Value), SRow W u (callsB G2 t2) → SRow W v (callsB G2 t2) → Calls Tryz.prog 8 #[u, v] W fun e w' => e = .returned (.bool true) ∧ Below W.heap.size W w') := fun W u v h h' => sameT15 u v _ W hL2 h h'
      have HTwo : Hid (∀ (W : World) (u v : Value), SRow W u twoN → SRow W v twoN → Calls Tryz.prog 8 #[u, v] W fun e w' => e = .returned (.bool true) ∧ Below W.heap.size W w') := fun W u v h h' => sameT15 u v _ W (by decide) h h'
      have HKS : Hid (∀ V : World, Below W8.heap.size W8 V → V.cell? ⟨by6, 0, none⟩ = some (.slice a2 G2.length cc2) ∧ V.cell? ⟨by8, 0, none⟩ = some (.slice a7 G0.length cc7)) := fun V hV => ⟨cell_keep d8 hV, cell_keep d10 hV⟩
      clear hC0 hGr hT0 R8 R10 HT HAn HT2
      generalize callsB G2 t2 = L2 at *
      go_region_held3 (fun W => W.cell? ⟨by6, 0, none⟩ = some (.slice a2 G2.length cc2) ∧ W.cell? ⟨by8, 0, none⟩ = some (.slice a7 G0.length cc7))
        ((first | (with_reducible exact HKS.out _ B5) | (with_reducible exact HKS.out _ B4) | (with_reducible exact HKS.out _ B3) | (with_reducible exact HKS.out _ B2) | (with_reducible exact HKS.out _ B1) | go_keep))
        ((first
          | (go_at_call 6; refine (HX1.out _ (bel_drewS (Below.refl _ _))).mono ?_; clear HX1; rintro e v1 ⟨o1, rfl, ho1, hb1⟩; obtain ⟨a1, c1, e1⟩ := ho1.row.slice; subst e1; have B1 : Below W8.heap.size W8 v1 := bel_of_drew hb1)
          | (go_at_call 9; refine (HX2.out _ B1).mono ?_; rintro e v2 ⟨o2, rfl, ho2, hb2⟩; obtain ⟨a22, c22, e2⟩ := ho2.row.slice; subst e2; have B2 : Below W8.heap.size W8 v2 := B1.trans (hb2.mono B1.size))
          | (go_at_call 8; refine (HSam.out v2 _ _ (ho1.row.below hb2) ho2.row).mono ?_; clear HSam; rintro e v3 ⟨rfl, hb3⟩; have B3 : Below W8.heap.size W8 v3 := B2.trans (hb3.mono B2.size))
          | (go_at_call 6; refine (HX4.out _ ?_).mono ?_; (first | (with_reducible exact B3) | exact B3.alloc B3.size _); rintro e v4 ⟨o4, rfl, ho4, hb4⟩; obtain ⟨a4, c4, e4⟩ := ho4.row.slice; subst e4; have B4 : Below W8.heap.size W8 v4 := (by first | exact B3.trans (hb4.mono B3.size) | exact (B3.alloc B3.size _).trans (hb4.mono (by have := B3.size; simp; omega))))
          | (go_at_call 8; refine (HTwo.out _ _ _ ?_ ?_).mono ?_; (first | (with_reducible exact ho4.row) | exact ho4.row.below ((Below.refl _ _).alloc (Nat.le_refl _) _)); (first | (with_reducible exact two_row v4) | exact (two_row v3).below hb4); rintro e v5 ⟨rfl, hb5⟩; have B5 : Below W8.heap.size W8 v5 := (by first | exact B4.trans (hb5.mono B4.size) | exact (B4.alloc B4.size _).trans (hb5.mono (by have := B4.size; simp; omega))))))
      all_goals
        have BF : Hid (Below w1.heap.size w1 v5) := B8.out.trans (B5.mono B8.out.size)
        clear B1 B2 B3 B4 B5 hb1 hb2 hb3 hb4 hb5 ho1 ho2 ho4
        go_wp2
        go_ret
        exact ⟨rfl, BF.out⟩

end Go.Proofs.YtllfmobjkppnaaaGreat
