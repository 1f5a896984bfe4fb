/- The specification's Nullable (printed by mk/e18m.py). -/
/- The laws' helpers on grammars: copied into memory of their own (printed by mk/gkit.py). -/
import Derived.Test.YtofpoiccghpliaaGreatDoorE18N
import Derived.Test.YtofpoiccghpliaaGreatDoorXFree
import Derived.Test.YtofpoiccghpliaaGreatDoorGRule
import Derived.Test.YtofpoiccghpliaaGreatDoorXMark
namespace Go.Proofs.YtofpoiccghpliaaGreatDoor
open Go.RowKit
set_option linter.unusedVariables false

/-- Flags stay where a list of texts grows. -/
theorem OwnB18.beside {B B' : Nat} {v ov : Value} {m : List Bool} {q : List ByteArray} {w w' : World} (h : OwnB18 B v m w) (hz : OwnB B' ov q w) (hg : w.grownBy w' ov.ownBlock) : OwnB18 B v m w' := World.ownsRow.kept h hg (by
  rcases h.2 with ⟨rfl, _⟩ | ⟨g1, cap1, cur1, rfl, _, hc, _⟩
  · exact .inl rfl
  · refine .inr (fun e => ?_)
    rcases hz.2 with ⟨rfl, _⟩ | ⟨g2, cap2, cur2, rfl, _, hc2, _⟩
    · cases e
    cases e
    rw [hc] at hc2
    exact absurd (Option.some.inj hc2) (fun e => by cases e))

set_option maxHeartbeats 6400000 in
set_option maxRecDepth 100000 in
theorem specNullable_any (v : Value) (xs : List RuleD) (w : World) (hin : GrammarIn xs) (hg : grammarTot xs ≤ 1048576) (hv : RowC 3 RuleE w v xs) :
    Calls Tryz.prog 5 #[.agg #[v]] w fun e w' => ∃ o, e = .returned o ∧ OwnB w.heap.size o (nullB xs) w' ∧ Below w.heap.size w w' := by
  obtain ⟨i0, hi, hz0, hz1, hz2⟩ := info_parts Tryz.infoStr
  have hgl : xs.length ≤ 1048576 := Nat.le_trans (rowTot_len ruleTot xs) hg
  obtain ⟨a, c, rfl⟩ := hv.slice
  have B0 : Hid (Below w.heap.size w (w.alloc (.cells #[.slice a xs.length c] 30))) := (Below.refl _ _).alloc (Nat.le_refl _) _
  have HS0 : Hid ((w.alloc (.cells #[.slice a xs.length c] 30)).heap.size = w.heap.size + 1) := by rw [Hid]; simp
  have B1 : Hid (Below (w.alloc (.cells #[.slice a xs.length c] 30)).heap.size (w.alloc (.cells #[.slice a xs.length c] 30)) ((w.alloc (.cells #[.slice a xs.length c] 30)).alloc (.cells #[] 9))) := (Below.refl _ _).alloc (Nat.le_refl _) _
  have hE0 : (w.alloc (.cells #[.slice a xs.length c] 30)).cell? ⟨w.heap.size, 0, none⟩ = some (.slice a xs.length c) := box_at _ _ _ 0 _ rfl
  have HR : Hid (RowC 3 RuleE (w.alloc (.cells #[.slice a xs.length c] 30)) (.slice a xs.length c) xs) := RowC.below RuleE_stable hv B0.out
  have HO0 : Hid (OwnB (w.alloc (.cells #[.slice a xs.length c] 30)).heap.size (.slice (some ⟨w.heap.size + 1, 0, none⟩) 0 0) [] ((w.alloc (.cells #[.slice a xs.length c] 30)).alloc (.cells #[] 9))) := by
    have h0 := World.ownsRow_made (base := (w.alloc (.cells #[.slice a xs.length c] 30)).heap.size) (w.alloc (.cells #[.slice a xs.length c] 30)) #[] 0 (e := 9) (size := 1) (Nat.le_refl _) (by decide) rfl
    rw [HS0.out] at h0 ⊢
    exact h0
  have HGo : Hid (∀ W, Below w.heap.size w W → Calls Tryz.prog 14 #[.agg #[.slice a xs.length c]] W fun e w' => e = .returned (.bool (gramB xs)) ∧ Below W.heap.size W w') := fun W hW => specGrammarOk_any (.slice a xs.length c) xs W hg hin (RowC.below RuleE_stable hv hW)
  have HNl : gramB xs = true → Hid (∀ W, Below w.heap.size w W → Calls Tryz.prog 15 #[.agg #[.slice a xs.length c]] W fun e w' => ∃ g0 m, e = .returned (.slice (some ⟨g0, 0, none⟩) xs.length xs.length) ∧ OwnB18 W.heap.size (.slice (some ⟨g0, 0, none⟩) xs.length xs.length) m w' ∧ m.length = xs.length ∧ (∀ q, m.getD q false = lfB (nulE xs) xs.length q) ∧ Below W.heap.size W w') := fun h W hW => l18Null_any (.slice a xs.length c) xs W hg h (RowC.below RuleE_stable hv hW)
  clear hv
  go_enter Tryz.func5, Tryz.ntmps5
  have hE1 := cell_keep hE0 B1.out
  go_wp2_with fail
  generalize ((w.alloc (.cells #[.slice a xs.length c] 30)).alloc (.cells #[] 9)) = w1 at *
  generalize (w.alloc (.cells #[.slice a xs.length c] 30)) = w0 at *
  refine (HGo.out _ (B0.out.trans (B1.out.mono B0.out.size))).mono ?_
  rintro e w2 ⟨rfl, hb2⟩
  have B2 : Hid (Below w0.heap.size w0 w2) := B1.out.trans (hb2.mono B1.out.size)
  have HO2 : Hid (OwnB w0.heap.size (.slice (some ⟨w.heap.size + 1, 0, none⟩) 0 0) [] w2) := HO0.out.below hb2
  have hE2 := cell_keep hE1 hb2
  clear hb2 hE1
  cases hgo : gramB xs with
  | false =>
    have HV : Hid (nullB xs = []) := by rw [Hid, nullB, hgo]; exact if_neg (by simp)
    have HOf : Hid (OwnB w.heap.size (.slice (some ⟨w.heap.size + 1, 0, none⟩) 0 0) [] w2) := World.ownsRow.mono HO2.out (by rw [HS0.out]; omega)
    have HBf : Hid (Below w.heap.size w w2) := B0.out.trans (B2.out.mono B0.out.size)
    clear hgo HNl
    go_wp2
    go_ret
    rw [HV.out]
    exact ⟨_, rfl, HOf.out, HBf.out⟩
  | true =>
    have HV : Hid (nullB xs = nullTo xs xs.length) := by rw [Hid, nullB, if_pos hgo]
    have HN := HNl hgo
    clear hgo HNl
    go_wp2_with fail
    refine (HN.out _ (B0.out.trans (B2.out.mono B0.out.size))).mono ?_
    rintro e w3 ⟨g0, m, rfl, hO3, hl3, hF3, hb3⟩
    have B3 : Hid (Below w0.heap.size w0 w3) := B2.out.trans (hb3.mono B2.out.size)
    have HO3 : Hid (OwnB w0.heap.size (.slice (some ⟨w.heap.size + 1, 0, none⟩) 0 0) (nullTo xs 0) w3) := HO2.out.below hb3
    have HM3 : Hid (OwnB18 w2.heap.size (.slice (some ⟨g0, 0, none⟩) xs.length xs.length) m w3) := hO3
    have HF : Hid (∀ q, m.getD q false = lfB (nulE xs) xs.length q) := hF3
    have HL : Hid (m.length = xs.length) := hl3
    have hE3 := cell_keep hE2 hb3
    clear hO3 hF3 hl3 hb3 hE2
    go_wp2
    go_loopw [3, 5] (fun ov iv wr => ∃ k : Nat, iv = .int .i64 k ∧ k ≤ xs.length ∧ OwnB w0.heap.size ov (nullTo xs k) wr ∧ OwnB18 w2.heap.size (.slice (some ⟨g0, 0, none⟩) xs.length xs.length) m wr ∧ Below w0.heap.size w0 wr) (fun _ iv _ => xs.length - (intOf iv).toNat)
    case atStart => exact ⟨0, rfl, Nat.zero_le _, HO3.out, HM3.out, B3.out⟩
    case round =>
      clear HO3 HM3 B3 hE3
      obtain ⟨k, rfl, hk, hown, hmr, hbw⟩ := hrel
      have HO : Hid (OwnB w0.heap.size u3 (nullTo xs k) wr) := hown
      have HM : Hid (OwnB18 w2.heap.size (.slice (some ⟨g0, 0, none⟩) xs.length xs.length) m wr) := hmr
      have HB : Hid (Below w0.heap.size w0 wr) := hbw
      have hEr := cell_keep hE0 hbw
      have hlen := nullTo_len xs k
      by_cases hlt : k < xs.length
      · have i4 : (k : Int) < (xs.length : Int) := by omega
        have cf := (hmr.at (k := k) (by rw [HL.out]; exact hlt)).1
        rw [HF.out] at cf
        clear hown hmr hbw
        cases hlf : lfB (nulE xs) xs.length k with
        | true =>
          rw [hlf] at cf
          have HNx : Hid (nullTo xs (k + 1) = nullTo xs k ++ [(xs.getD k default).name]) := by rw [Hid, nullTo_next, if_pos hlf]
          obtain ⟨b', off', vsr, rfl, _, hcr, hEl⟩ := HR.out.at hlt
          obtain ⟨r0, r1, rfl, _, _⟩ := hEl
          have n0 : w0.cell? ⟨b', off' + k * 3, none⟩ = some (.string xs[k].name) := hcr 0 (by simp)
          have n0r := cell_keep n0 HB.out
          rw [← getR_is xs k hlt] at n0r
          clear hcr hlf n0
          generalize (xs.getD k default).name = tx at *
          generalize nullTo xs k = zs at *
          go_wp2_with (at_builtin; refine wpList_append_own _ rfl _ _ 26 rfl w0.heap.size 9 i0 _ 1 16 Tryz.underlying26 hi hz0 hz1 hz2 rfl (by decide) _ _ _ rfl (World.ownsRow.alloc HO.out _) ⟨_, 0, none⟩ 1 1 [.string tx] rfl rfl (cell_one_new _ _ _) (one_cellF _) (by unfold maxLen; omega) (by omega) (by have h8 := HB.out.size; simp; omega) ?_)
          intro v' w4 hown4 hgrow _
          have R := ownB_snoc hown4 HO.out hgrow rfl HB.out
          have HM4 : Hid (OwnB18 w2.heap.size (.slice (some ⟨g0, 0, none⟩) xs.length xs.length) m w4) := (HM.out.below ((Below.refl _ _).alloc (Nat.le_refl _) _)).beside (World.ownsRow.alloc HO.out _) hgrow
          clear hown4 hgrow
          go_wp2
          go_roundw
          case rel => exact ⟨k + 1, by go_num, by omega, by rw [HNx.out]; exact R.1, HM4.out, R.2⟩
          case measure => simp [intOf]; omega
        | false =>
          rw [hlf] at cf
          have HNx : Hid (nullTo xs (k + 1) = nullTo xs k) := by rw [Hid, nullTo_next, if_neg (by rw [hlf]; simp)]
          clear hlf
          go_wp2
          go_roundw
          case rel => exact ⟨k + 1, by go_num, by omega, by rw [HNx.out]; exact HO.out, HM.out, HB.out⟩
          case measure => simp [intOf]; omega
      · obtain rfl : k = xs.length := by omega
        have i4 : ¬ (xs.length : Int) < (xs.length : Int) := by omega
        have HOf : Hid (OwnB w.heap.size u3 (nullTo xs xs.length) wr) := World.ownsRow.mono hown (by rw [HS0.out]; omega)
        have HBf : Hid (Below w.heap.size w wr) := B0.out.trans (hbw.mono B0.out.size)
        clear hown hmr hbw
        go_wp2
        go_ret
        rw [HV.out]
        exact ⟨_, rfl, HOf.out, HBf.out⟩

end Go.Proofs.YtofpoiccghpliaaGreatDoor

namespace Go.Proofs.YtofpoiccghpliaaGreatDoor
open Go.RowKit

theorem fresh_sRow {B : Nat} {v : Value} {xs : List ByteArray} {w : World} (h : OwnB B v xs w) : Fresh B w fun W => SRow W v xs := by
  intro W h1 h2
  obtain ⟨a, cap, rfl, hcap, hh⟩ := h.row
  refine ⟨a, cap, rfl, hcap, fun h0 => ?_⟩
  obtain ⟨b, off, rfl, hlt, hc⟩ := hh h0
  have hb : B ≤ b := by
    rcases h.2 with ⟨h', _⟩ | ⟨g, cap', cur, h', hg, _⟩
    · cases h'
    · cases h'; exact hg
  exact ⟨b, off, rfl, Nat.lt_of_lt_of_le hlt h1, fun i hi => (World.cell?_of_block (h2 b hb hlt)).trans (hc i hi)⟩
theorem fresh_iRow {B : Nat} {v : Value} {ks : List Int} {w : World} (h : OwnZ B v ks w) : Fresh B w fun W => IRow W v ks := by
  intro W h1 h2
  obtain ⟨a, cap, rfl, hcap, hh⟩ := h.row
  refine ⟨a, cap, rfl, hcap, fun h0 => ?_⟩
  obtain ⟨b, off, rfl, hlt, hc⟩ := hh h0
  have hb : B ≤ b := by
    rcases h.2 with ⟨h', _⟩ | ⟨g, cap', cur, h', hg, _⟩
    · cases h'
    · cases h'; exact hg
  exact ⟨b, off, rfl, Nat.lt_of_lt_of_le hlt h1, fun i hi => (World.cell?_of_block (h2 b hb hlt)).trans (hc i hi)⟩
theorem fresh_nRow {B : Nat} {v : Value} {ns : List NodeD} {w : World} (h : OwnN B v ns w) : Fresh B w fun W => NRow W v ns := by
  intro W h1 h2
  obtain ⟨qs, rfl, ho, hk⟩ := h
  have hl : (qs.map (·.1)).length = qs.length := by simp
  rcases ho.2 with ⟨rfl, hz⟩ | ⟨g, cap, cur, rfl, hB, hc, hle, hm, hs, ht⟩
  · exact ⟨none, 0, by rw [hl, hz], fun _ => rfl, fun h0 => by rw [hl] at h0; omega⟩
  · have hg := (World.ownsRow.lt ho g rfl).2
    refine ⟨some ⟨g, 0, none⟩, cap, by rw [hl], fun h => (by cases h), fun _ => ⟨g, 0, rfl, Nat.lt_of_lt_of_le hg h1, fun i hi => ?_⟩⟩
    have key : ∀ j u, (nv qs)[j]? = some u → W.cell? ⟨g, 0 + j, none⟩ = some u := fun j u hu => by
      have := World.ownsRow.cells ho (g := g) rfl j u hu
      rw [Addr.add_lit] at this
      exact (World.cell?_of_block (h2 g hB hg)).trans this
    rw [hl] at hi
    have := nv_at qs i hi
    refine ⟨qs[i].2, ?_⟩
    rw [List.getElem_map]
    exact ⟨key _ _ this.1, by rw [Nat.add_assoc]; exact key _ _ this.2.1, by rw [Nat.add_assoc]; exact key _ _ this.2.2.1, by rw [Nat.add_assoc]; exact key _ _ this.2.2.2, fresh_iRow (hk _ (List.getElem_mem hi)) W h1 h2⟩

theorem gtoStringS (v : Value) (xs : List ByteArray) (w : World) (hz : rowTot ByteArray.size xs ≤ 1048576) (h : SRow w v xs) :
    Calls Tryz.prog 39 #[v] w fun e w' => ∃ a c, e = .returned (.slice a xs.length c) ∧ Fresh w.heap.size w' (fun W => SRow W (.slice a xs.length c) xs) ∧ Below w.heap.size w w' := by
  refine (toStringS_any v xs w (by have := rowTot_len ByteArray.size xs; omega) h).mono ?_
  rintro e w' ⟨o, rfl, ho, hb⟩
  obtain ⟨a, c, rfl⟩ := ho.row.slice
  exact ⟨a, c, rfl, fresh_sRow ho, hb⟩
theorem gtoExpr (v : Value) (x : List NodeD) (w : World) (hz : exprTot x ≤ 1048576) (h : NRow w v x) :
    Calls Tryz.prog 109 #[.agg #[v]] w fun e w' => ∃ a0 c0, e = .returned (.agg #[.slice a0 x.length c0]) ∧ Fresh w.heap.size w' (fun W => NRow W (.slice a0 x.length c0) x) ∧ Below w.heap.size w w' := by
  have e : exprTot x = x.length + (x.map fun y => y.name.size + y.kids.length).sum := rfl
  refine (toExpr_any v x w (by omega) (fun y hy => ?_) h).mono ?_
  · have : y.name.size + y.kids.length ≤ (x.map fun y => y.name.size + y.kids.length).sum := sum_mem (fun y : NodeD => y.name.size + y.kids.length) hy
    omega
  · rintro e w' ⟨o, rfl, ho, hb⟩
    obtain ⟨a, c, rfl⟩ := ho.row.slice
    exact ⟨a, c, rfl, fresh_nRow ho, hb⟩

/-- A block that is written into. -/
theorem block_set {w : World} {b j : Nat} {vs : Array Value} {t : TypeId} {u : Value} (h : w.heap[b]? = some (.cells vs t)) : (w.setCell ⟨b, j, none⟩ u).heap[b]? = some (.cells (vs.setIfInBounds j u) t) := by
  simp only [World.setCell]
  rw [Array.getElem?_modify, if_pos rfl, h]
  rfl
theorem block_other {w : World} {b b' j : Nat} {u : Value} (hne : b' ≠ b) : (w.setCell ⟨b', j, none⟩ u).heap[b]? = w.heap[b]? := by
  simp only [World.setCell]
  rw [Array.getElem?_modify, if_neg hne]
theorem cell_block {w : World} {b j : Nat} {vs : Array Value} {t : TypeId} {u : Value} (h : w.heap[b]? = some (.cells vs t)) (hj : vs[j]? = some u) : w.cell? ⟨b, j, none⟩ = some u := by
  rw [cell_of_row _ _ j _ _ _ h]
  exact hj
theorem frozen_block {w : World} {b j : Nat} {vs : Array Value} {t : TypeId} (h : w.heap[b]? = some (.cells vs t)) : w.frozen? ⟨b, j, none⟩ = false := by
  unfold World.frozen?
  rw [h]
  rfl
theorem box_three (w : World) (x y z : Array Value) (s t : TypeId) {B : Nat} (hB : w.heap.size = B) :
    (((w.alloc (.cells x s)).alloc (.cells y t)).alloc (.cells z t)).heap[B]? = some (.cells x s) ∧ (((w.alloc (.cells x s)).alloc (.cells y t)).alloc (.cells z t)).heap[B + 1]? = some (.cells y t) ∧ (((w.alloc (.cells x s)).alloc (.cells y t)).alloc (.cells z t)).heap[B + 2]? = some (.cells z t) := by
  subst hB
  have e1 : (w.alloc (.cells x s)).heap.size = w.heap.size + 1 := by simp
  have e2 : ((w.alloc (.cells x s)).alloc (.cells y t)).heap.size = w.heap.size + 2 := by simp
  refine ⟨?_, ?_, ?_⟩
  · rw [Below.heap_alloc _ _ _ (by rw [e2]; omega), Below.heap_alloc _ _ _ (by rw [e1]; omega)]
    exact heap_alloc_new w _
  · rw [Below.heap_alloc _ _ _ (by rw [e2]; omega)]
    have := heap_alloc_new (w.alloc (.cells x s)) (.cells y t)
    rwa [e1] at this
  · have := heap_alloc_new ((w.alloc (.cells x s)).alloc (.cells y t)) (.cells z t)
    rwa [e2] at this

theorem Tryz.infoExpr : (Tryz.prog.info? 107).map (fun i => (i.zero, i.size, i.bytes)) = some (some (.agg #[.slice none 0 0]), 1, 24) := by kernel_rfl
set_option maxHeartbeats 3200000 in
set_option maxRecDepth 100000 in
theorem gtoExprS (v : Value) (xs : List (List NodeD)) (w : World) (hz : rowTot exprTot xs ≤ 1048576) (h : RowC 1 ExprE w v xs) :
    Calls Tryz.prog 100 #[v] w fun e w' => ∃ a c, e = .returned (.slice a xs.length c) ∧ Fresh w.heap.size w' (fun W => RowC 1 ExprE W (.slice a xs.length c) xs) ∧ Below w.heap.size w w' := by
  obtain ⟨i0, hi, hz0, hz1, hz2⟩ := info_parts Tryz.infoExpr
  have hn := rowTot_len exprTot xs
  have HR : Hid (RowC 1 ExprE w v xs) := h
  obtain ⟨a, cap, rfl⟩ := h.slice
  clear h
  go_enter Tryz.func100, Tryz.ntmps100
  go_wp2_with (at_make; refine wpList_make_full _ rfl _ _ 64 rfl w.heap.size 107 i0 _ 1 Tryz.underlying64 hi hz0 hz1 .i64 .i64 _ _ xs.length rfl rfl rfl rfl (by rw [hz2]; omega) (by unfold maxLen; omega) (Nat.le_refl _) ?_; intro w1 hown hg1)
  have HO : Hid (RowTo 1 ExprE 107 w.heap.size w.heap.size xs 0 w1) := rowTo_start hown
  have HB1 : Hid (Below w.heap.size w w1) := (Below.refl _ _).grown hg1 (Nat.le_refl _) (fun k h => by cases h)
  clear hown hg1
  go_loopw [4] (fun iv wr => ∃ k : Nat, iv = .int .i64 k ∧ k ≤ xs.length ∧ RowTo 1 ExprE 107 w.heap.size w.heap.size xs k wr ∧ Below w.heap.size w wr) (fun iv _ => xs.length - (intOf iv).toNat)
  case atStart => exact ⟨0, rfl, Nat.zero_le _, HO.out, HB1.out⟩
  case round =>
    obtain ⟨k, rfl, hk, hrow, hb⟩ := hrel
    have HW : Hid (RowTo 1 ExprE 107 w.heap.size w.heap.size xs k wr) := hrow
    have HB : Hid (Below w.heap.size w wr) := hb
    have HRr : Hid (RowC 1 ExprE wr (.slice a xs.length cap) xs) := RowC.below ExprE_stable HR.out hb
    have hgt : w.heap.size + 1 ≤ wr.heap.size := by
      obtain ⟨cs, ho⟩ := hrow.own
      exact (World.ownsRow.lt ho w.heap.size rfl).2
    clear hb hrow HO HB1
    by_cases hlt : k < xs.length
    · obtain ⟨b, off, vs, rfl, _, hc, hE⟩ := HRr.out.at hlt
      obtain ⟨r0, rfl, hh0⟩ := hE
      have n0 : wr.cell? ⟨b, off + k, none⟩ = some (r0) := by have h := hc 0 (by simp); rw [Nat.mul_one] at h; exact h
      have HT : Hid (∀ W, Below wr.heap.size wr W → _) := fun W hW => gtoExpr r0 xs[k] W (by have := rowTot_mem exprTot (List.getElem_mem hlt); omega) (hh0.below hW)
      obtain ⟨aa0, ca0, rfl⟩ := hh0.slice
      clear hc hh0
      go_wp2_with fail
      refine (HT.out _ (Below.refl _ _)).mono ?_
      rintro e w2 ⟨o0, c0, rfl, f0, hb2⟩
      have HB2 : Hid (Below w.heap.size w w2) := HB.out.trans (hb2.mono HB.out.size)
      have HW2 : Hid (RowTo 1 ExprE 107 w.heap.size w.heap.size xs k w2) := HW.out.below hb2
      have HE2 : Hid (Fresh (w.heap.size + 1) w2 (fun W => ExprE W [.slice o0 xs[k].length c0] xs[k])) := fun W h1 h2 => ⟨_, rfl, (f0.base hgt) W h1 h2⟩
      obtain ⟨cs, O2⟩ := HW2.out.own
      obtain ⟨d0, hd0, hf0⟩ := own_cell O2 (k) (by omega)
      clear O2 hb2 HT HW f0
      go_wp2
      have HN : Hid (RowTo 1 ExprE 107 w.heap.size w.heap.size xs (k + 1) (setsW w2 w.heap.size (k * 1) [.slice o0 xs[k].length c0])) := HW2.out.next hlt rfl HE2.out
      have HB3 : Hid (Below w.heap.size w (setsW w2 w.heap.size (k * 1) [.slice o0 xs[k].length c0])) := setsW_below HB2.out (Nat.le_refl _) _ _
      simp only [Nat.mul_one] at HN HB3
      go_roundw
      case rel => exact ⟨k + 1, by go_num, by omega, HN.out, HB3.out⟩
      case measure => simp [intOf]; omega
    · obtain rfl : k = xs.length := by omega
      have HF : Hid (Fresh w.heap.size wr (fun W => RowC 1 ExprE W (.slice (some ⟨w.heap.size, 0, none⟩) xs.length xs.length) xs)) := HW.out.done
      clear HW
      go_wp2
      go_ret
      exact ⟨_, _, rfl, HF.out, HB.out⟩

set_option maxHeartbeats 3200000 in
set_option maxRecDepth 100000 in
theorem gtoSym (r0 : Value) (x : SymD) (w : World) (hz : symTot x ≤ 1048576) (hh0 : RowC 1 ExprE w r0 x.args) :
    Calls Tryz.prog 83 #[.agg #[.int .i64 x.kind, .string x.text, r0, .string x.bind]] w fun e w' => ∃ o0 c0, e = .returned (.agg #[.int .i64 x.kind, .string x.text, .slice o0 x.args.length c0, .string x.bind]) ∧ Fresh w.heap.size w' (fun W => RowC 1 ExprE W (.slice o0 x.args.length c0) x.args) ∧ Below w.heap.size w w' := by
  have HTt : symTot x = x.text.size + rowTot exprTot x.args + x.bind.size := rfl
  have R0 : Hid (RowC 1 ExprE w r0 x.args) := hh0
  obtain ⟨aa0, ca0, rfl⟩ := hh0.slice
  have hz0 : rowTot exprTot x.args ≤ 1048576 := by omega
  clear HTt hz hh0
  obtain ⟨B, hB⟩ : ∃ B, w.heap.size = B := ⟨_, rfl⟩
  go_enter Tryz.func83, Tryz.ntmps83
  go_wp2_with fail
  obtain ⟨k0, k1, k2⟩ := box_three w #[.int .i64 x.kind, .string x.text, .slice aa0 x.args.length ca0, .string x.bind] #[.int .i64 0, .string ⟨#[]⟩, .slice none 0 0, .string ⟨#[]⟩] #[.int .i64 x.kind, .string x.text, .slice none 0 0, .string ⟨#[]⟩] 124 66 hB
  have P0 : Hid ((((w.alloc (.cells #[.int .i64 x.kind, .string x.text, .slice aa0 x.args.length ca0, .string x.bind] 124)).alloc (.cells #[.int .i64 0, .string ⟨#[]⟩, .slice none 0 0, .string ⟨#[]⟩] 66)).alloc (.cells #[.int .i64 x.kind, .string x.text, .slice none 0 0, .string ⟨#[]⟩] 66)).heap[B]? = some (.cells #[.int .i64 x.kind, .string x.text, .slice aa0 x.args.length ca0, .string x.bind] 124)) := k0
  have P1 : Hid ((((w.alloc (.cells #[.int .i64 x.kind, .string x.text, .slice aa0 x.args.length ca0, .string x.bind] 124)).alloc (.cells #[.int .i64 0, .string ⟨#[]⟩, .slice none 0 0, .string ⟨#[]⟩] 66)).alloc (.cells #[.int .i64 x.kind, .string x.text, .slice none 0 0, .string ⟨#[]⟩] 66)).heap[B + 1]? = some (.cells #[.int .i64 0, .string ⟨#[]⟩, .slice none 0 0, .string ⟨#[]⟩] 66)) := k1
  have P2 : Hid ((((w.alloc (.cells #[.int .i64 x.kind, .string x.text, .slice aa0 x.args.length ca0, .string x.bind] 124)).alloc (.cells #[.int .i64 0, .string ⟨#[]⟩, .slice none 0 0, .string ⟨#[]⟩] 66)).alloc (.cells #[.int .i64 x.kind, .string x.text, .slice none 0 0, .string ⟨#[]⟩] 66)).heap[B + 2]? = some (.cells #[.int .i64 x.kind, .string x.text, .slice none 0 0, .string ⟨#[]⟩] 66)) := k2
  have BW : Hid (Below w.heap.size w (((w.alloc (.cells #[.int .i64 x.kind, .string x.text, .slice aa0 x.args.length ca0, .string x.bind] 124)).alloc (.cells #[.int .i64 0, .string ⟨#[]⟩, .slice none 0 0, .string ⟨#[]⟩] 66)).alloc (.cells #[.int .i64 x.kind, .string x.text, .slice none 0 0, .string ⟨#[]⟩] 66))) := (((Below.refl _ _).alloc (Nat.le_refl _) _).alloc (by simp) _).alloc (by simp; omega) _
  have hsz : B + 3 ≤ (((w.alloc (.cells #[.int .i64 x.kind, .string x.text, .slice aa0 x.args.length ca0, .string x.bind] 124)).alloc (.cells #[.int .i64 0, .string ⟨#[]⟩, .slice none 0 0, .string ⟨#[]⟩] 66)).alloc (.cells #[.int .i64 x.kind, .string x.text, .slice none 0 0, .string ⟨#[]⟩] 66)).heap.size := by simp [hB]
  clear k0 k1 k2
  generalize ((w.alloc (.cells #[.int .i64 x.kind, .string x.text, .slice aa0 x.args.length ca0, .string x.bind] 124)).alloc (.cells #[.int .i64 0, .string ⟨#[]⟩, .slice none 0 0, .string ⟨#[]⟩] 66)).alloc (.cells #[.int .i64 x.kind, .string x.text, .slice none 0 0, .string ⟨#[]⟩] 66) = W0 at *
  refine (gtoExprS _ x.args W0 hz0 (RowC.below ExprE_stable R0.out BW.out)).mono ?_
  rintro e w0 ⟨o0, c0, rfl, f0, hb0⟩
  have B0 : Hid (Below w.heap.size w w0) := BW.out.trans (hb0.mono BW.out.size)
  have F0_0 : Hid (Fresh (B + 3) w0 (fun W => RowC 1 ExprE W (.slice o0 x.args.length c0) x.args)) := f0.base hsz
  have q00_0 : Hid (w0.heap[B]? = some (.cells #[.int .i64 x.kind, .string x.text, .slice aa0 x.args.length ca0, .string x.bind] 124)) := (hb0.block B (by omega)).trans P0.out
  have q01_0 : Hid (w0.heap[B + 1]? = some (.cells #[.int .i64 0, .string ⟨#[]⟩, .slice none 0 0, .string ⟨#[]⟩] 66)) := (hb0.block (B + 1) (by omega)).trans P1.out
  have q02_0 : Hid (w0.heap[B + 2]? = some (.cells #[.int .i64 x.kind, .string x.text, .slice none 0 0, .string ⟨#[]⟩] 66)) := (hb0.block (B + 2) (by omega)).trans P2.out
  have hsz0 : B + 3 ≤ w0.heap.size := Nat.le_trans hsz hb0.size
  clear P0 P1 P2 f0 hb0 hsz BW
  have y0_2 : (w0).cell? ⟨B + 1 + 1, 2, none⟩ = some (.slice none 0 0) := cell_block (b := B + 2) q02_0.out rfl
  have g0_2 : (w0).frozen? ⟨B + 1 + 1, 2, none⟩ = false := frozen_block (b := B + 2) q02_0.out
  have q00_1 : Hid ((w0.setCell ⟨B + 1 + 1, 2, none⟩ (.slice o0 x.args.length c0)).heap[B]? = some (.cells #[.int .i64 x.kind, .string x.text, .slice aa0 x.args.length ca0, .string x.bind] 124)) := (block_other (b := B) (b' := B + 1 + 1) (by omega)).trans q00_0.out
  have q01_1 : Hid ((w0.setCell ⟨B + 1 + 1, 2, none⟩ (.slice o0 x.args.length c0)).heap[B + 1]? = some (.cells #[.int .i64 0, .string ⟨#[]⟩, .slice none 0 0, .string ⟨#[]⟩] 66)) := (block_other (b := B + 1) (b' := B + 1 + 1) (by omega)).trans q01_0.out
  have q02_1 : Hid ((w0.setCell ⟨B + 1 + 1, 2, none⟩ (.slice o0 x.args.length c0)).heap[B + 2]? = some (.cells #[.int .i64 x.kind, .string x.text, .slice o0 x.args.length c0, .string ⟨#[]⟩] 66)) := block_set (b := B + 2) q02_0.out
  have a0_3 : (w0.setCell ⟨B + 1 + 1, 2, none⟩ (.slice o0 x.args.length c0)).cell? ⟨B, 3, none⟩ = some (.string x.bind) := cell_block q00_1.out rfl
  have y0_3 : (w0.setCell ⟨B + 1 + 1, 2, none⟩ (.slice o0 x.args.length c0)).cell? ⟨B + 1 + 1, 3, none⟩ = some (.string ⟨#[]⟩) := cell_block (b := B + 2) q02_1.out rfl
  have g0_3 : (w0.setCell ⟨B + 1 + 1, 2, none⟩ (.slice o0 x.args.length c0)).frozen? ⟨B + 1 + 1, 3, none⟩ = false := frozen_block (b := B + 2) q02_1.out
  have q00_2 : Hid (((w0.setCell ⟨B + 1 + 1, 2, none⟩ (.slice o0 x.args.length c0)).setCell ⟨B + 1 + 1, 3, none⟩ (.string x.bind)).heap[B]? = some (.cells #[.int .i64 x.kind, .string x.text, .slice aa0 x.args.length ca0, .string x.bind] 124)) := (block_other (b := B) (b' := B + 1 + 1) (by omega)).trans q00_1.out
  have q01_2 : Hid (((w0.setCell ⟨B + 1 + 1, 2, none⟩ (.slice o0 x.args.length c0)).setCell ⟨B + 1 + 1, 3, none⟩ (.string x.bind)).heap[B + 1]? = some (.cells #[.int .i64 0, .string ⟨#[]⟩, .slice none 0 0, .string ⟨#[]⟩] 66)) := (block_other (b := B + 1) (b' := B + 1 + 1) (by omega)).trans q01_1.out
  have q02_2 : Hid (((w0.setCell ⟨B + 1 + 1, 2, none⟩ (.slice o0 x.args.length c0)).setCell ⟨B + 1 + 1, 3, none⟩ (.string x.bind)).heap[B + 2]? = some (.cells #[.int .i64 x.kind, .string x.text, .slice o0 x.args.length c0, .string x.bind] 66)) := block_set (b := B + 2) q02_1.out
  have C0 : Hid (Below w.heap.size w ((w0.setCell ⟨B + 1 + 1, 2, none⟩ (.slice o0 x.args.length c0)).setCell ⟨B + 1 + 1, 3, none⟩ (.string x.bind))) := ((B0.out.setCell (show w.heap.size ≤ B + 1 + 1 by omega) _).setCell (show w.heap.size ≤ B + 1 + 1 by omega) _)
  have G0_0 : Hid (Fresh (B + 3) ((w0.setCell ⟨B + 1 + 1, 2, none⟩ (.slice o0 x.args.length c0)).setCell ⟨B + 1 + 1, 3, none⟩ (.string x.bind)) (fun W => RowC 1 ExprE W (.slice o0 x.args.length c0) x.args)) := ((F0_0.out.setLow (by omega) _ _).setLow (by omega) _ _)
  have v0 : B + 3 ≤ ((w0.setCell ⟨B + 1 + 1, 2, none⟩ (.slice o0 x.args.length c0)).setCell ⟨B + 1 + 1, 3, none⟩ (.string x.bind)).heap.size := by simpa using hsz0
  have y9_0 : ((w0.setCell ⟨B + 1 + 1, 2, none⟩ (.slice o0 x.args.length c0)).setCell ⟨B + 1 + 1, 3, none⟩ (.string x.bind)).cell? ⟨B + 1 + 1, 0, none⟩ = some (.int .i64 x.kind) := cell_block (b := B + 2) q02_2.out rfl
  have z9_0 : ((w0.setCell ⟨B + 1 + 1, 2, none⟩ (.slice o0 x.args.length c0)).setCell ⟨B + 1 + 1, 3, none⟩ (.string x.bind)).cell? ⟨B + 1, 0, none⟩ = some (.int .i64 0) := cell_block q01_2.out rfl
  have g9_0 : ((w0.setCell ⟨B + 1 + 1, 2, none⟩ (.slice o0 x.args.length c0)).setCell ⟨B + 1 + 1, 3, none⟩ (.string x.bind)).frozen? ⟨B + 1, 0, none⟩ = false := frozen_block q01_2.out
  have y9_1 : ((w0.setCell ⟨B + 1 + 1, 2, none⟩ (.slice o0 x.args.length c0)).setCell ⟨B + 1 + 1, 3, none⟩ (.string x.bind)).cell? ⟨B + 1 + 1, 1, none⟩ = some (.string x.text) := cell_block (b := B + 2) q02_2.out rfl
  have z9_1 : ((w0.setCell ⟨B + 1 + 1, 2, none⟩ (.slice o0 x.args.length c0)).setCell ⟨B + 1 + 1, 3, none⟩ (.string x.bind)).cell? ⟨B + 1, 1, none⟩ = some (.string ⟨#[]⟩) := cell_block q01_2.out rfl
  have g9_1 : ((w0.setCell ⟨B + 1 + 1, 2, none⟩ (.slice o0 x.args.length c0)).setCell ⟨B + 1 + 1, 3, none⟩ (.string x.bind)).frozen? ⟨B + 1, 1, none⟩ = false := frozen_block q01_2.out
  have y9_2 : ((w0.setCell ⟨B + 1 + 1, 2, none⟩ (.slice o0 x.args.length c0)).setCell ⟨B + 1 + 1, 3, none⟩ (.string x.bind)).cell? ⟨B + 1 + 1, 2, none⟩ = some (.slice o0 x.args.length c0) := cell_block (b := B + 2) q02_2.out rfl
  have z9_2 : ((w0.setCell ⟨B + 1 + 1, 2, none⟩ (.slice o0 x.args.length c0)).setCell ⟨B + 1 + 1, 3, none⟩ (.string x.bind)).cell? ⟨B + 1, 2, none⟩ = some (.slice none 0 0) := cell_block q01_2.out rfl
  have g9_2 : ((w0.setCell ⟨B + 1 + 1, 2, none⟩ (.slice o0 x.args.length c0)).setCell ⟨B + 1 + 1, 3, none⟩ (.string x.bind)).frozen? ⟨B + 1, 2, none⟩ = false := frozen_block q01_2.out
  have y9_3 : ((w0.setCell ⟨B + 1 + 1, 2, none⟩ (.slice o0 x.args.length c0)).setCell ⟨B + 1 + 1, 3, none⟩ (.string x.bind)).cell? ⟨B + 1 + 1, 3, none⟩ = some (.string x.bind) := cell_block (b := B + 2) q02_2.out rfl
  have z9_3 : ((w0.setCell ⟨B + 1 + 1, 2, none⟩ (.slice o0 x.args.length c0)).setCell ⟨B + 1 + 1, 3, none⟩ (.string x.bind)).cell? ⟨B + 1, 3, none⟩ = some (.string ⟨#[]⟩) := cell_block q01_2.out rfl
  have g9_3 : ((w0.setCell ⟨B + 1 + 1, 2, none⟩ (.slice o0 x.args.length c0)).setCell ⟨B + 1 + 1, 3, none⟩ (.string x.bind)).frozen? ⟨B + 1, 3, none⟩ = false := frozen_block q01_2.out
  go_wp2
  have P1 : Hid (((w0.setCell ⟨B + 1 + 1, 2, none⟩ (.slice o0 x.args.length c0)).setCell ⟨B + 1 + 1, 3, none⟩ (.string x.bind)).heap[B + 1]? = some (.cells #[.int .i64 0, .string ⟨#[]⟩, .slice none 0 0, .string ⟨#[]⟩] 66)) := q01_2.out
  clear a0_3 y0_2 g0_2 y0_3 g0_3 y9_0 z9_0 g9_0 y9_1 z9_1 g9_1 y9_2 z9_2 g9_2 y9_3 z9_3 g9_3 q00_0 q00_1 q00_2 q01_0 q01_1 q01_2 q02_0 q02_1 q02_2
  generalize (w0.setCell ⟨B + 1 + 1, 2, none⟩ (.slice o0 x.args.length c0)).setCell ⟨B + 1 + 1, 3, none⟩ (.string x.bind) = WL at *
  have FB : Hid (Below w.heap.size w ((((WL.setCell ⟨B + 1, 0, none⟩ (.int .i64 x.kind)).setCell ⟨B + 1, 1, none⟩ (.string x.text)).setCell ⟨B + 1, 2, none⟩ (.slice o0 x.args.length c0)).setCell ⟨B + 1, 3, none⟩ (.string x.bind))) := ((((C0.out.setCell (show w.heap.size ≤ B + 1 by omega) _).setCell (show w.heap.size ≤ B + 1 by omega) _).setCell (show w.heap.size ≤ B + 1 by omega) _).setCell (show w.heap.size ≤ B + 1 by omega) _)
  have FF0 : Hid (Fresh w.heap.size ((((WL.setCell ⟨B + 1, 0, none⟩ (.int .i64 x.kind)).setCell ⟨B + 1, 1, none⟩ (.string x.text)).setCell ⟨B + 1, 2, none⟩ (.slice o0 x.args.length c0)).setCell ⟨B + 1, 3, none⟩ (.string x.bind)) (fun W => RowC 1 ExprE W (.slice o0 x.args.length c0) x.args)) := Fresh.base (((((G0_0.out.setLow (by omega) _ _).setLow (by omega) _ _).setLow (by omega) _ _).setLow (by omega) _ _)) (show w.heap.size ≤ B + 3 by omega)
  have rp : ((((WL.setCell ⟨B + 1, 0, none⟩ (.int .i64 x.kind)).setCell ⟨B + 1, 1, none⟩ (.string x.text)).setCell ⟨B + 1, 2, none⟩ (.slice o0 x.args.length c0)).setCell ⟨B + 1, 3, none⟩ (.string x.bind)).heap[B + 1]? = some (.cells #[.int .i64 x.kind, .string x.text, .slice o0 x.args.length c0, .string x.bind] 66) := block_set (block_set (block_set (block_set P1.out)))
  have rr0 : ((((WL.setCell ⟨B + 1, 0, none⟩ (.int .i64 x.kind)).setCell ⟨B + 1, 1, none⟩ (.string x.text)).setCell ⟨B + 1, 2, none⟩ (.slice o0 x.args.length c0)).setCell ⟨B + 1, 3, none⟩ (.string x.bind)).cell? ⟨B + 1, 0, none⟩ = some (.int .i64 x.kind) := cell_block rp rfl
  have rr1 : ((((WL.setCell ⟨B + 1, 0, none⟩ (.int .i64 x.kind)).setCell ⟨B + 1, 1, none⟩ (.string x.text)).setCell ⟨B + 1, 2, none⟩ (.slice o0 x.args.length c0)).setCell ⟨B + 1, 3, none⟩ (.string x.bind)).cell? ⟨B + 1, 1, none⟩ = some (.string x.text) := cell_block rp rfl
  have rr2 : ((((WL.setCell ⟨B + 1, 0, none⟩ (.int .i64 x.kind)).setCell ⟨B + 1, 1, none⟩ (.string x.text)).setCell ⟨B + 1, 2, none⟩ (.slice o0 x.args.length c0)).setCell ⟨B + 1, 3, none⟩ (.string x.bind)).cell? ⟨B + 1, 2, none⟩ = some (.slice o0 x.args.length c0) := cell_block rp rfl
  have rr3 : ((((WL.setCell ⟨B + 1, 0, none⟩ (.int .i64 x.kind)).setCell ⟨B + 1, 1, none⟩ (.string x.text)).setCell ⟨B + 1, 2, none⟩ (.slice o0 x.args.length c0)).setCell ⟨B + 1, 3, none⟩ (.string x.bind)).cell? ⟨B + 1, 3, none⟩ = some (.string x.bind) := cell_block rp rfl
  clear rp P1 v0
  generalize (((WL.setCell ⟨B + 1, 0, none⟩ (.int .i64 x.kind)).setCell ⟨B + 1, 1, none⟩ (.string x.text)).setCell ⟨B + 1, 2, none⟩ (.slice o0 x.args.length c0)).setCell ⟨B + 1, 3, none⟩ (.string x.bind) = W9 at *
  (try simp only [Exit.inBlock, Exit.then])
  refine bodyPost_ret (by simp [results, Tryz.results83, go_sem, rr0, rr1, rr2, rr3]; try rfl) rfl ?_
  exact ⟨_, _, rfl, FF0.out, FB.out⟩

theorem Tryz.infoSym : (Tryz.prog.info? 66).map (fun i => (i.zero, i.size, i.bytes)) = some (some (.agg #[.int .i64 0, .string ⟨#[]⟩, .slice none 0 0, .string ⟨#[]⟩]), 4, 64) := by kernel_rfl
set_option maxHeartbeats 3200000 in
set_option maxRecDepth 100000 in
theorem gtoSymS (v : Value) (xs : List (SymD)) (w : World) (hz : rowTot symTot xs ≤ 1048576) (h : RowC 4 SymE w v xs) :
    Calls Tryz.prog 69 #[v] w fun e w' => ∃ a c, e = .returned (.slice a xs.length c) ∧ Fresh w.heap.size w' (fun W => RowC 4 SymE W (.slice a xs.length c) xs) ∧ Below w.heap.size w w' := by
  obtain ⟨i0, hi, hz0, hz1, hz2⟩ := info_parts Tryz.infoSym
  have hn := rowTot_len symTot xs
  have HR : Hid (RowC 4 SymE w v xs) := h
  obtain ⟨a, cap, rfl⟩ := h.slice
  clear h
  go_enter Tryz.func69, Tryz.ntmps69
  go_wp2_with (at_make; refine wpList_make_full _ rfl _ _ 61 rfl w.heap.size 66 i0 _ 4 Tryz.underlying61 hi hz0 hz1 .i64 .i64 _ _ xs.length rfl rfl rfl rfl (by rw [hz2]; omega) (by unfold maxLen; omega) (Nat.le_refl _) ?_; intro w1 hown hg1)
  have HO : Hid (RowTo 4 SymE 66 w.heap.size w.heap.size xs 0 w1) := rowTo_start hown
  have HB1 : Hid (Below w.heap.size w w1) := (Below.refl _ _).grown hg1 (Nat.le_refl _) (fun k h => by cases h)
  clear hown hg1
  go_loopw [4] (fun iv wr => ∃ k : Nat, iv = .int .i64 k ∧ k ≤ xs.length ∧ RowTo 4 SymE 66 w.heap.size w.heap.size xs k wr ∧ Below w.heap.size w wr) (fun iv _ => xs.length - (intOf iv).toNat)
  case atStart => exact ⟨0, rfl, Nat.zero_le _, HO.out, HB1.out⟩
  case round =>
    obtain ⟨k, rfl, hk, hrow, hb⟩ := hrel
    have HW : Hid (RowTo 4 SymE 66 w.heap.size w.heap.size xs k wr) := hrow
    have HB : Hid (Below w.heap.size w wr) := hb
    have HRr : Hid (RowC 4 SymE wr (.slice a xs.length cap) xs) := RowC.below SymE_stable HR.out hb
    have hgt : w.heap.size + 1 ≤ wr.heap.size := by
      obtain ⟨cs, ho⟩ := hrow.own
      exact (World.ownsRow.lt ho w.heap.size rfl).2
    clear hb hrow HO HB1
    by_cases hlt : k < xs.length
    · obtain ⟨b, off, vs, rfl, _, hc, hE⟩ := HRr.out.at hlt
      obtain ⟨r0, rfl, hh0⟩ := hE
      have n0 : wr.cell? ⟨b, off + k * 4, none⟩ = some (.int .i64 xs[k].kind) := hc 0 (by simp)
      have n1 : wr.cell? ⟨b, off + k * 4 + 1, none⟩ = some (.string xs[k].text) := hc 1 (by simp)
      have n2 : wr.cell? ⟨b, off + k * 4 + 2, none⟩ = some (r0) := hc 2 (by simp)
      have n3 : wr.cell? ⟨b, off + k * 4 + 3, none⟩ = some (.string xs[k].bind) := hc 3 (by simp)
      have HT : Hid (∀ W, Below wr.heap.size wr W → _) := fun W hW => gtoSym r0 xs[k] W (by have := rowTot_mem symTot (List.getElem_mem hlt); omega) (RowC.below ExprE_stable hh0 hW)
      obtain ⟨aa0, ca0, rfl⟩ := hh0.slice
      clear hc hh0
      go_wp2_with fail
      refine (HT.out _ (Below.refl _ _)).mono ?_
      rintro e w2 ⟨o0, c0, rfl, f0, hb2⟩
      have HB2 : Hid (Below w.heap.size w w2) := HB.out.trans (hb2.mono HB.out.size)
      have HW2 : Hid (RowTo 4 SymE 66 w.heap.size w.heap.size xs k w2) := HW.out.below hb2
      have HE2 : Hid (Fresh (w.heap.size + 1) w2 (fun W => SymE W [.int .i64 xs[k].kind, .string xs[k].text, .slice o0 xs[k].args.length c0, .string xs[k].bind] xs[k])) := fun W h1 h2 => ⟨_, rfl, (f0.base hgt) W h1 h2⟩
      obtain ⟨cs, O2⟩ := HW2.out.own
      obtain ⟨d0, hd0, hf0⟩ := own_cell O2 (k * 4) (by omega)
      obtain ⟨d1, hd1, hf1⟩ := own_cell O2 (k * 4 + 1) (by omega)
      obtain ⟨d2, hd2, hf2⟩ := own_cell O2 (k * 4 + 2) (by omega)
      obtain ⟨d3, hd3, hf3⟩ := own_cell O2 (k * 4 + 3) (by omega)
      clear O2 hb2 HT HW f0
      go_wp2
      have HN : Hid (RowTo 4 SymE 66 w.heap.size w.heap.size xs (k + 1) (setsW w2 w.heap.size (k * 4) [.int .i64 xs[k].kind, .string xs[k].text, .slice o0 xs[k].args.length c0, .string xs[k].bind])) := HW2.out.next hlt rfl HE2.out
      have HB3 : Hid (Below w.heap.size w (setsW w2 w.heap.size (k * 4) [.int .i64 xs[k].kind, .string xs[k].text, .slice o0 xs[k].args.length c0, .string xs[k].bind])) := setsW_below HB2.out (Nat.le_refl _) _ _
      skip
      go_roundw
      case rel => exact ⟨k + 1, by go_num, by omega, HN.out, HB3.out⟩
      case measure => simp [intOf]; omega
    · obtain rfl : k = xs.length := by omega
      have HF : Hid (Fresh w.heap.size wr (fun W => RowC 4 SymE W (.slice (some ⟨w.heap.size, 0, none⟩) xs.length xs.length) xs)) := HW.out.done
      clear HW
      go_wp2
      go_ret
      exact ⟨_, _, rfl, HF.out, HB.out⟩

set_option maxHeartbeats 3200000 in
set_option maxRecDepth 100000 in
theorem gtoAlt (r0 : Value) (x : List SymD) (w : World) (hz : altTot x ≤ 1048576) (hh0 : RowC 4 SymE w r0 x) :
    Calls Tryz.prog 55 #[.agg #[r0]] w fun e w' => ∃ o0 c0, e = .returned (.agg #[.slice o0 x.length c0]) ∧ Fresh w.heap.size w' (fun W => RowC 4 SymE W (.slice o0 x.length c0) x) ∧ Below w.heap.size w w' := by
  have HTt : altTot x = rowTot symTot x := rfl
  have R0 : Hid (RowC 4 SymE w r0 x) := hh0
  obtain ⟨aa0, ca0, rfl⟩ := hh0.slice
  have hz0 : rowTot symTot x ≤ 1048576 := by omega
  clear HTt hz hh0
  obtain ⟨B, hB⟩ : ∃ B, w.heap.size = B := ⟨_, rfl⟩
  go_enter Tryz.func55, Tryz.ntmps55
  go_wp2_with fail
  obtain ⟨k0, k1, k2⟩ := box_three w #[.slice aa0 x.length ca0] #[.slice none 0 0] #[.slice none 0 0] 90 63 hB
  have P0 : Hid ((((w.alloc (.cells #[.slice aa0 x.length ca0] 90)).alloc (.cells #[.slice none 0 0] 63)).alloc (.cells #[.slice none 0 0] 63)).heap[B]? = some (.cells #[.slice aa0 x.length ca0] 90)) := k0
  have P1 : Hid ((((w.alloc (.cells #[.slice aa0 x.length ca0] 90)).alloc (.cells #[.slice none 0 0] 63)).alloc (.cells #[.slice none 0 0] 63)).heap[B + 1]? = some (.cells #[.slice none 0 0] 63)) := k1
  have P2 : Hid ((((w.alloc (.cells #[.slice aa0 x.length ca0] 90)).alloc (.cells #[.slice none 0 0] 63)).alloc (.cells #[.slice none 0 0] 63)).heap[B + 2]? = some (.cells #[.slice none 0 0] 63)) := k2
  have BW : Hid (Below w.heap.size w (((w.alloc (.cells #[.slice aa0 x.length ca0] 90)).alloc (.cells #[.slice none 0 0] 63)).alloc (.cells #[.slice none 0 0] 63))) := (((Below.refl _ _).alloc (Nat.le_refl _) _).alloc (by simp) _).alloc (by simp; omega) _
  have hsz : B + 3 ≤ (((w.alloc (.cells #[.slice aa0 x.length ca0] 90)).alloc (.cells #[.slice none 0 0] 63)).alloc (.cells #[.slice none 0 0] 63)).heap.size := by simp [hB]
  clear k0 k1 k2
  generalize ((w.alloc (.cells #[.slice aa0 x.length ca0] 90)).alloc (.cells #[.slice none 0 0] 63)).alloc (.cells #[.slice none 0 0] 63) = W0 at *
  refine (gtoSymS _ x W0 hz0 (RowC.below SymE_stable R0.out BW.out)).mono ?_
  rintro e w0 ⟨o0, c0, rfl, f0, hb0⟩
  have B0 : Hid (Below w.heap.size w w0) := BW.out.trans (hb0.mono BW.out.size)
  have F0_0 : Hid (Fresh (B + 3) w0 (fun W => RowC 4 SymE W (.slice o0 x.length c0) x)) := f0.base hsz
  have q00_0 : Hid (w0.heap[B]? = some (.cells #[.slice aa0 x.length ca0] 90)) := (hb0.block B (by omega)).trans P0.out
  have q01_0 : Hid (w0.heap[B + 1]? = some (.cells #[.slice none 0 0] 63)) := (hb0.block (B + 1) (by omega)).trans P1.out
  have q02_0 : Hid (w0.heap[B + 2]? = some (.cells #[.slice none 0 0] 63)) := (hb0.block (B + 2) (by omega)).trans P2.out
  have hsz0 : B + 3 ≤ w0.heap.size := Nat.le_trans hsz hb0.size
  clear P0 P1 P2 f0 hb0 hsz BW
  have y0_0 : (w0).cell? ⟨B + 1 + 1, 0, none⟩ = some (.slice none 0 0) := cell_block (b := B + 2) q02_0.out rfl
  have g0_0 : (w0).frozen? ⟨B + 1 + 1, 0, none⟩ = false := frozen_block (b := B + 2) q02_0.out
  have q00_1 : Hid ((w0.setCell ⟨B + 1 + 1, 0, none⟩ (.slice o0 x.length c0)).heap[B]? = some (.cells #[.slice aa0 x.length ca0] 90)) := (block_other (b := B) (b' := B + 1 + 1) (by omega)).trans q00_0.out
  have q01_1 : Hid ((w0.setCell ⟨B + 1 + 1, 0, none⟩ (.slice o0 x.length c0)).heap[B + 1]? = some (.cells #[.slice none 0 0] 63)) := (block_other (b := B + 1) (b' := B + 1 + 1) (by omega)).trans q01_0.out
  have q02_1 : Hid ((w0.setCell ⟨B + 1 + 1, 0, none⟩ (.slice o0 x.length c0)).heap[B + 2]? = some (.cells #[.slice o0 x.length c0] 63)) := block_set (b := B + 2) q02_0.out
  have C0 : Hid (Below w.heap.size w (w0.setCell ⟨B + 1 + 1, 0, none⟩ (.slice o0 x.length c0))) := (B0.out.setCell (show w.heap.size ≤ B + 1 + 1 by omega) _)
  have G0_0 : Hid (Fresh (B + 3) (w0.setCell ⟨B + 1 + 1, 0, none⟩ (.slice o0 x.length c0)) (fun W => RowC 4 SymE W (.slice o0 x.length c0) x)) := (F0_0.out.setLow (by omega) _ _)
  have v0 : B + 3 ≤ (w0.setCell ⟨B + 1 + 1, 0, none⟩ (.slice o0 x.length c0)).heap.size := by simpa using hsz0
  have y9_0 : (w0.setCell ⟨B + 1 + 1, 0, none⟩ (.slice o0 x.length c0)).cell? ⟨B + 1 + 1, 0, none⟩ = some (.slice o0 x.length c0) := cell_block (b := B + 2) q02_1.out rfl
  have z9_0 : (w0.setCell ⟨B + 1 + 1, 0, none⟩ (.slice o0 x.length c0)).cell? ⟨B + 1, 0, none⟩ = some (.slice none 0 0) := cell_block q01_1.out rfl
  have g9_0 : (w0.setCell ⟨B + 1 + 1, 0, none⟩ (.slice o0 x.length c0)).frozen? ⟨B + 1, 0, none⟩ = false := frozen_block q01_1.out
  go_wp2
  have P1 : Hid ((w0.setCell ⟨B + 1 + 1, 0, none⟩ (.slice o0 x.length c0)).heap[B + 1]? = some (.cells #[.slice none 0 0] 63)) := q01_1.out
  clear y0_0 g0_0 y9_0 z9_0 g9_0 q00_0 q00_1 q01_0 q01_1 q02_0 q02_1
  generalize w0.setCell ⟨B + 1 + 1, 0, none⟩ (.slice o0 x.length c0) = WL at *
  have FB : Hid (Below w.heap.size w (WL.setCell ⟨B + 1, 0, none⟩ (.slice o0 x.length c0))) := (C0.out.setCell (show w.heap.size ≤ B + 1 by omega) _)
  have FF0 : Hid (Fresh w.heap.size (WL.setCell ⟨B + 1, 0, none⟩ (.slice o0 x.length c0)) (fun W => RowC 4 SymE W (.slice o0 x.length c0) x)) := Fresh.base ((G0_0.out.setLow (by omega) _ _)) (show w.heap.size ≤ B + 3 by omega)
  have rp : (WL.setCell ⟨B + 1, 0, none⟩ (.slice o0 x.length c0)).heap[B + 1]? = some (.cells #[.slice o0 x.length c0] 63) := block_set P1.out
  have rr0 : (WL.setCell ⟨B + 1, 0, none⟩ (.slice o0 x.length c0)).cell? ⟨B + 1, 0, none⟩ = some (.slice o0 x.length c0) := cell_block rp rfl
  clear rp P1 v0
  generalize WL.setCell ⟨B + 1, 0, none⟩ (.slice o0 x.length c0) = W9 at *
  (try simp only [Exit.inBlock, Exit.then])
  refine bodyPost_ret (by simp [results, Tryz.results55, go_sem, rr0]; try rfl) rfl ?_
  exact ⟨_, _, rfl, FF0.out, FB.out⟩

theorem Tryz.infoAlt : (Tryz.prog.info? 63).map (fun i => (i.zero, i.size, i.bytes)) = some (some (.agg #[.slice none 0 0]), 1, 24) := by kernel_rfl
set_option maxHeartbeats 3200000 in
set_option maxRecDepth 100000 in
theorem gtoAltS (v : Value) (xs : List (List SymD)) (w : World) (hz : rowTot altTot xs ≤ 1048576) (h : RowC 1 AltE w v xs) :
    Calls Tryz.prog 40 #[v] w fun e w' => ∃ a c, e = .returned (.slice a xs.length c) ∧ Fresh w.heap.size w' (fun W => RowC 1 AltE W (.slice a xs.length c) xs) ∧ Below w.heap.size w w' := by
  obtain ⟨i0, hi, hz0, hz1, hz2⟩ := info_parts Tryz.infoAlt
  have hn := rowTot_len altTot xs
  have HR : Hid (RowC 1 AltE w v xs) := h
  obtain ⟨a, cap, rfl⟩ := h.slice
  clear h
  go_enter Tryz.func40, Tryz.ntmps40
  go_wp2_with (at_make; refine wpList_make_full _ rfl _ _ 41 rfl w.heap.size 63 i0 _ 1 Tryz.underlying41 hi hz0 hz1 .i64 .i64 _ _ xs.length rfl rfl rfl rfl (by rw [hz2]; omega) (by unfold maxLen; omega) (Nat.le_refl _) ?_; intro w1 hown hg1)
  have HO : Hid (RowTo 1 AltE 63 w.heap.size w.heap.size xs 0 w1) := rowTo_start hown
  have HB1 : Hid (Below w.heap.size w w1) := (Below.refl _ _).grown hg1 (Nat.le_refl _) (fun k h => by cases h)
  clear hown hg1
  go_loopw [4] (fun iv wr => ∃ k : Nat, iv = .int .i64 k ∧ k ≤ xs.length ∧ RowTo 1 AltE 63 w.heap.size w.heap.size xs k wr ∧ Below w.heap.size w wr) (fun iv _ => xs.length - (intOf iv).toNat)
  case atStart => exact ⟨0, rfl, Nat.zero_le _, HO.out, HB1.out⟩
  case round =>
    obtain ⟨k, rfl, hk, hrow, hb⟩ := hrel
    have HW : Hid (RowTo 1 AltE 63 w.heap.size w.heap.size xs k wr) := hrow
    have HB : Hid (Below w.heap.size w wr) := hb
    have HRr : Hid (RowC 1 AltE wr (.slice a xs.length cap) xs) := RowC.below AltE_stable HR.out hb
    have hgt : w.heap.size + 1 ≤ wr.heap.size := by
      obtain ⟨cs, ho⟩ := hrow.own
      exact (World.ownsRow.lt ho w.heap.size rfl).2
    clear hb hrow HO HB1
    by_cases hlt : k < xs.length
    · obtain ⟨b, off, vs, rfl, _, hc, hE⟩ := HRr.out.at hlt
      obtain ⟨r0, rfl, hh0⟩ := hE
      have n0 : wr.cell? ⟨b, off + k, none⟩ = some (r0) := by have h := hc 0 (by simp); rw [Nat.mul_one] at h; exact h
      have HT : Hid (∀ W, Below wr.heap.size wr W → _) := fun W hW => gtoAlt r0 xs[k] W (by have := rowTot_mem altTot (List.getElem_mem hlt); omega) (RowC.below SymE_stable hh0 hW)
      obtain ⟨aa0, ca0, rfl⟩ := hh0.slice
      clear hc hh0
      go_wp2_with fail
      refine (HT.out _ (Below.refl _ _)).mono ?_
      rintro e w2 ⟨o0, c0, rfl, f0, hb2⟩
      have HB2 : Hid (Below w.heap.size w w2) := HB.out.trans (hb2.mono HB.out.size)
      have HW2 : Hid (RowTo 1 AltE 63 w.heap.size w.heap.size xs k w2) := HW.out.below hb2
      have HE2 : Hid (Fresh (w.heap.size + 1) w2 (fun W => AltE W [.slice o0 xs[k].length c0] xs[k])) := fun W h1 h2 => ⟨_, rfl, (f0.base hgt) W h1 h2⟩
      obtain ⟨cs, O2⟩ := HW2.out.own
      obtain ⟨d0, hd0, hf0⟩ := own_cell O2 (k) (by omega)
      clear O2 hb2 HT HW f0
      go_wp2
      have HN : Hid (RowTo 1 AltE 63 w.heap.size w.heap.size xs (k + 1) (setsW w2 w.heap.size (k * 1) [.slice o0 xs[k].length c0])) := HW2.out.next hlt rfl HE2.out
      have HB3 : Hid (Below w.heap.size w (setsW w2 w.heap.size (k * 1) [.slice o0 xs[k].length c0])) := setsW_below HB2.out (Nat.le_refl _) _ _
      simp only [Nat.mul_one] at HN HB3
      go_roundw
      case rel => exact ⟨k + 1, by go_num, by omega, HN.out, HB3.out⟩
      case measure => simp [intOf]; omega
    · obtain rfl : k = xs.length := by omega
      have HF : Hid (Fresh w.heap.size wr (fun W => RowC 1 AltE W (.slice (some ⟨w.heap.size, 0, none⟩) xs.length xs.length) xs)) := HW.out.done
      clear HW
      go_wp2
      go_ret
      exact ⟨_, _, rfl, HF.out, HB.out⟩

set_option maxHeartbeats 3200000 in
set_option maxRecDepth 100000 in
theorem gtoRule (r0 r1 : Value) (x : RuleD) (w : World) (hz : ruleTot x ≤ 1048576) (hh0 : SRow w r0 x.params) (hh1 : RowC 1 AltE w r1 x.alts) :
    Calls Tryz.prog 26 #[.agg #[.string x.name, r0, r1]] w fun e w' => ∃ o0 c0 o1 c1, e = .returned (.agg #[.string x.name, .slice o0 x.params.length c0, .slice o1 x.alts.length c1]) ∧ Fresh w.heap.size w' (fun W => SRow W (.slice o0 x.params.length c0) x.params) ∧ Fresh w.heap.size w' (fun W => RowC 1 AltE W (.slice o1 x.alts.length c1) x.alts) ∧ Below w.heap.size w w' := by
  have HTt : ruleTot x = x.name.size + rowTot ByteArray.size x.params + rowTot altTot x.alts := rfl
  have R0 : Hid (SRow w r0 x.params) := hh0
  obtain ⟨aa0, ca0, rfl⟩ := hh0.slice
  have hz0 : rowTot ByteArray.size x.params ≤ 1048576 := by omega
  have R1 : Hid (RowC 1 AltE w r1 x.alts) := hh1
  obtain ⟨aa1, ca1, rfl⟩ := hh1.slice
  have hz1 : rowTot altTot x.alts ≤ 1048576 := by omega
  clear HTt hz hh0 hh1
  obtain ⟨B, hB⟩ : ∃ B, w.heap.size = B := ⟨_, rfl⟩
  go_enter Tryz.func26, Tryz.ntmps26
  go_wp2_with fail
  obtain ⟨k0, k1, k2⟩ := box_three w #[.string x.name, .slice aa0 x.params.length ca0, .slice aa1 x.alts.length ca1] #[.string ⟨#[]⟩, .slice none 0 0, .slice none 0 0] #[.string x.name, .slice none 0 0, .slice none 0 0] 57 43 hB
  have P0 : Hid ((((w.alloc (.cells #[.string x.name, .slice aa0 x.params.length ca0, .slice aa1 x.alts.length ca1] 57)).alloc (.cells #[.string ⟨#[]⟩, .slice none 0 0, .slice none 0 0] 43)).alloc (.cells #[.string x.name, .slice none 0 0, .slice none 0 0] 43)).heap[B]? = some (.cells #[.string x.name, .slice aa0 x.params.length ca0, .slice aa1 x.alts.length ca1] 57)) := k0
  have P1 : Hid ((((w.alloc (.cells #[.string x.name, .slice aa0 x.params.length ca0, .slice aa1 x.alts.length ca1] 57)).alloc (.cells #[.string ⟨#[]⟩, .slice none 0 0, .slice none 0 0] 43)).alloc (.cells #[.string x.name, .slice none 0 0, .slice none 0 0] 43)).heap[B + 1]? = some (.cells #[.string ⟨#[]⟩, .slice none 0 0, .slice none 0 0] 43)) := k1
  have P2 : Hid ((((w.alloc (.cells #[.string x.name, .slice aa0 x.params.length ca0, .slice aa1 x.alts.length ca1] 57)).alloc (.cells #[.string ⟨#[]⟩, .slice none 0 0, .slice none 0 0] 43)).alloc (.cells #[.string x.name, .slice none 0 0, .slice none 0 0] 43)).heap[B + 2]? = some (.cells #[.string x.name, .slice none 0 0, .slice none 0 0] 43)) := k2
  have BW : Hid (Below w.heap.size w (((w.alloc (.cells #[.string x.name, .slice aa0 x.params.length ca0, .slice aa1 x.alts.length ca1] 57)).alloc (.cells #[.string ⟨#[]⟩, .slice none 0 0, .slice none 0 0] 43)).alloc (.cells #[.string x.name, .slice none 0 0, .slice none 0 0] 43))) := (((Below.refl _ _).alloc (Nat.le_refl _) _).alloc (by simp) _).alloc (by simp; omega) _
  have hsz : B + 3 ≤ (((w.alloc (.cells #[.string x.name, .slice aa0 x.params.length ca0, .slice aa1 x.alts.length ca1] 57)).alloc (.cells #[.string ⟨#[]⟩, .slice none 0 0, .slice none 0 0] 43)).alloc (.cells #[.string x.name, .slice none 0 0, .slice none 0 0] 43)).heap.size := by simp [hB]
  clear k0 k1 k2
  generalize ((w.alloc (.cells #[.string x.name, .slice aa0 x.params.length ca0, .slice aa1 x.alts.length ca1] 57)).alloc (.cells #[.string ⟨#[]⟩, .slice none 0 0, .slice none 0 0] 43)).alloc (.cells #[.string x.name, .slice none 0 0, .slice none 0 0] 43) = W0 at *
  refine (gtoStringS _ x.params W0 hz0 (R0.out.below BW.out)).mono ?_
  rintro e w0 ⟨o0, c0, rfl, f0, hb0⟩
  have B0 : Hid (Below w.heap.size w w0) := BW.out.trans (hb0.mono BW.out.size)
  have F0_0 : Hid (Fresh (B + 3) w0 (fun W => SRow W (.slice o0 x.params.length c0) x.params)) := f0.base hsz
  have q00_0 : Hid (w0.heap[B]? = some (.cells #[.string x.name, .slice aa0 x.params.length ca0, .slice aa1 x.alts.length ca1] 57)) := (hb0.block B (by omega)).trans P0.out
  have q01_0 : Hid (w0.heap[B + 1]? = some (.cells #[.string ⟨#[]⟩, .slice none 0 0, .slice none 0 0] 43)) := (hb0.block (B + 1) (by omega)).trans P1.out
  have q02_0 : Hid (w0.heap[B + 2]? = some (.cells #[.string x.name, .slice none 0 0, .slice none 0 0] 43)) := (hb0.block (B + 2) (by omega)).trans P2.out
  have hsz0 : B + 3 ≤ w0.heap.size := Nat.le_trans hsz hb0.size
  clear P0 P1 P2 f0 hb0 hsz BW
  have y0_1 : (w0).cell? ⟨B + 1 + 1, 1, none⟩ = some (.slice none 0 0) := cell_block (b := B + 2) q02_0.out rfl
  have g0_1 : (w0).frozen? ⟨B + 1 + 1, 1, none⟩ = false := frozen_block (b := B + 2) q02_0.out
  have q00_1 : Hid ((w0.setCell ⟨B + 1 + 1, 1, none⟩ (.slice o0 x.params.length c0)).heap[B]? = some (.cells #[.string x.name, .slice aa0 x.params.length ca0, .slice aa1 x.alts.length ca1] 57)) := (block_other (b := B) (b' := B + 1 + 1) (by omega)).trans q00_0.out
  have q01_1 : Hid ((w0.setCell ⟨B + 1 + 1, 1, none⟩ (.slice o0 x.params.length c0)).heap[B + 1]? = some (.cells #[.string ⟨#[]⟩, .slice none 0 0, .slice none 0 0] 43)) := (block_other (b := B + 1) (b' := B + 1 + 1) (by omega)).trans q01_0.out
  have q02_1 : Hid ((w0.setCell ⟨B + 1 + 1, 1, none⟩ (.slice o0 x.params.length c0)).heap[B + 2]? = some (.cells #[.string x.name, .slice o0 x.params.length c0, .slice none 0 0] 43)) := block_set (b := B + 2) q02_0.out
  have C0 : Hid (Below w.heap.size w (w0.setCell ⟨B + 1 + 1, 1, none⟩ (.slice o0 x.params.length c0))) := (B0.out.setCell (show w.heap.size ≤ B + 1 + 1 by omega) _)
  have G0_0 : Hid (Fresh (B + 3) (w0.setCell ⟨B + 1 + 1, 1, none⟩ (.slice o0 x.params.length c0)) (fun W => SRow W (.slice o0 x.params.length c0) x.params)) := (F0_0.out.setLow (by omega) _ _)
  have v0 : B + 3 ≤ (w0.setCell ⟨B + 1 + 1, 1, none⟩ (.slice o0 x.params.length c0)).heap.size := by simpa using hsz0
  have a0_2 : (w0.setCell ⟨B + 1 + 1, 1, none⟩ (.slice o0 x.params.length c0)).cell? ⟨B, 2, none⟩ = some (.slice aa1 x.alts.length ca1) := cell_block q00_1.out rfl
  go_wp2_with fail
  clear a0_2 y0_1 g0_1
  have P0 : Hid ((w0.setCell ⟨B + 1 + 1, 1, none⟩ (.slice o0 x.params.length c0)).heap[B]? = some (.cells #[.string x.name, .slice aa0 x.params.length ca0, .slice aa1 x.alts.length ca1] 57)) := q00_1.out
  have P1 : Hid ((w0.setCell ⟨B + 1 + 1, 1, none⟩ (.slice o0 x.params.length c0)).heap[B + 1]? = some (.cells #[.string ⟨#[]⟩, .slice none 0 0, .slice none 0 0] 43)) := q01_1.out
  have P2 : Hid ((w0.setCell ⟨B + 1 + 1, 1, none⟩ (.slice o0 x.params.length c0)).heap[B + 2]? = some (.cells #[.string x.name, .slice o0 x.params.length c0, .slice none 0 0] 43)) := q02_1.out
  clear q00_0 q00_1 q01_0 q01_1 q02_0 q02_1
  have hsz := v0
  clear v0
  generalize w0.setCell ⟨B + 1 + 1, 1, none⟩ (.slice o0 x.params.length c0) = W1 at *
  refine (gtoAltS _ x.alts W1 hz1 (RowC.below AltE_stable R1.out C0.out)).mono ?_
  rintro e w1 ⟨o1, c1, rfl, f1, hb1⟩
  have B1 : Hid (Below w.heap.size w w1) := C0.out.trans (hb1.mono C0.out.size)
  have F1_1 : Hid (Fresh (B + 3) w1 (fun W => RowC 1 AltE W (.slice o1 x.alts.length c1) x.alts)) := f1.base hsz
  have F1_0 : Hid (Fresh (B + 3) w1 (fun W => SRow W (.slice o0 x.params.length c0) x.params)) := G0_0.out.below hb1
  have q10_0 : Hid (w1.heap[B]? = some (.cells #[.string x.name, .slice aa0 x.params.length ca0, .slice aa1 x.alts.length ca1] 57)) := (hb1.block B (by omega)).trans P0.out
  have q11_0 : Hid (w1.heap[B + 1]? = some (.cells #[.string ⟨#[]⟩, .slice none 0 0, .slice none 0 0] 43)) := (hb1.block (B + 1) (by omega)).trans P1.out
  have q12_0 : Hid (w1.heap[B + 2]? = some (.cells #[.string x.name, .slice o0 x.params.length c0, .slice none 0 0] 43)) := (hb1.block (B + 2) (by omega)).trans P2.out
  have hsz1 : B + 3 ≤ w1.heap.size := Nat.le_trans hsz hb1.size
  clear P0 P1 P2 f1 hb1 hsz
  have y1_2 : (w1).cell? ⟨B + 1 + 1, 2, none⟩ = some (.slice none 0 0) := cell_block (b := B + 2) q12_0.out rfl
  have g1_2 : (w1).frozen? ⟨B + 1 + 1, 2, none⟩ = false := frozen_block (b := B + 2) q12_0.out
  have q10_1 : Hid ((w1.setCell ⟨B + 1 + 1, 2, none⟩ (.slice o1 x.alts.length c1)).heap[B]? = some (.cells #[.string x.name, .slice aa0 x.params.length ca0, .slice aa1 x.alts.length ca1] 57)) := (block_other (b := B) (b' := B + 1 + 1) (by omega)).trans q10_0.out
  have q11_1 : Hid ((w1.setCell ⟨B + 1 + 1, 2, none⟩ (.slice o1 x.alts.length c1)).heap[B + 1]? = some (.cells #[.string ⟨#[]⟩, .slice none 0 0, .slice none 0 0] 43)) := (block_other (b := B + 1) (b' := B + 1 + 1) (by omega)).trans q11_0.out
  have q12_1 : Hid ((w1.setCell ⟨B + 1 + 1, 2, none⟩ (.slice o1 x.alts.length c1)).heap[B + 2]? = some (.cells #[.string x.name, .slice o0 x.params.length c0, .slice o1 x.alts.length c1] 43)) := block_set (b := B + 2) q12_0.out
  have C1 : Hid (Below w.heap.size w (w1.setCell ⟨B + 1 + 1, 2, none⟩ (.slice o1 x.alts.length c1))) := (B1.out.setCell (show w.heap.size ≤ B + 1 + 1 by omega) _)
  have G1_0 : Hid (Fresh (B + 3) (w1.setCell ⟨B + 1 + 1, 2, none⟩ (.slice o1 x.alts.length c1)) (fun W => SRow W (.slice o0 x.params.length c0) x.params)) := (F1_0.out.setLow (by omega) _ _)
  have G1_1 : Hid (Fresh (B + 3) (w1.setCell ⟨B + 1 + 1, 2, none⟩ (.slice o1 x.alts.length c1)) (fun W => RowC 1 AltE W (.slice o1 x.alts.length c1) x.alts)) := (F1_1.out.setLow (by omega) _ _)
  have v1 : B + 3 ≤ (w1.setCell ⟨B + 1 + 1, 2, none⟩ (.slice o1 x.alts.length c1)).heap.size := by simpa using hsz1
  have y9_0 : (w1.setCell ⟨B + 1 + 1, 2, none⟩ (.slice o1 x.alts.length c1)).cell? ⟨B + 1 + 1, 0, none⟩ = some (.string x.name) := cell_block (b := B + 2) q12_1.out rfl
  have z9_0 : (w1.setCell ⟨B + 1 + 1, 2, none⟩ (.slice o1 x.alts.length c1)).cell? ⟨B + 1, 0, none⟩ = some (.string ⟨#[]⟩) := cell_block q11_1.out rfl
  have g9_0 : (w1.setCell ⟨B + 1 + 1, 2, none⟩ (.slice o1 x.alts.length c1)).frozen? ⟨B + 1, 0, none⟩ = false := frozen_block q11_1.out
  have y9_1 : (w1.setCell ⟨B + 1 + 1, 2, none⟩ (.slice o1 x.alts.length c1)).cell? ⟨B + 1 + 1, 1, none⟩ = some (.slice o0 x.params.length c0) := cell_block (b := B + 2) q12_1.out rfl
  have z9_1 : (w1.setCell ⟨B + 1 + 1, 2, none⟩ (.slice o1 x.alts.length c1)).cell? ⟨B + 1, 1, none⟩ = some (.slice none 0 0) := cell_block q11_1.out rfl
  have g9_1 : (w1.setCell ⟨B + 1 + 1, 2, none⟩ (.slice o1 x.alts.length c1)).frozen? ⟨B + 1, 1, none⟩ = false := frozen_block q11_1.out
  have y9_2 : (w1.setCell ⟨B + 1 + 1, 2, none⟩ (.slice o1 x.alts.length c1)).cell? ⟨B + 1 + 1, 2, none⟩ = some (.slice o1 x.alts.length c1) := cell_block (b := B + 2) q12_1.out rfl
  have z9_2 : (w1.setCell ⟨B + 1 + 1, 2, none⟩ (.slice o1 x.alts.length c1)).cell? ⟨B + 1, 2, none⟩ = some (.slice none 0 0) := cell_block q11_1.out rfl
  have g9_2 : (w1.setCell ⟨B + 1 + 1, 2, none⟩ (.slice o1 x.alts.length c1)).frozen? ⟨B + 1, 2, none⟩ = false := frozen_block q11_1.out
  go_wp2
  have P1 : Hid ((w1.setCell ⟨B + 1 + 1, 2, none⟩ (.slice o1 x.alts.length c1)).heap[B + 1]? = some (.cells #[.string ⟨#[]⟩, .slice none 0 0, .slice none 0 0] 43)) := q11_1.out
  clear y1_2 g1_2 y9_0 z9_0 g9_0 y9_1 z9_1 g9_1 y9_2 z9_2 g9_2 q10_0 q10_1 q11_0 q11_1 q12_0 q12_1
  generalize w1.setCell ⟨B + 1 + 1, 2, none⟩ (.slice o1 x.alts.length c1) = WL at *
  have FB : Hid (Below w.heap.size w (((WL.setCell ⟨B + 1, 0, none⟩ (.string x.name)).setCell ⟨B + 1, 1, none⟩ (.slice o0 x.params.length c0)).setCell ⟨B + 1, 2, none⟩ (.slice o1 x.alts.length c1))) := (((C1.out.setCell (show w.heap.size ≤ B + 1 by omega) _).setCell (show w.heap.size ≤ B + 1 by omega) _).setCell (show w.heap.size ≤ B + 1 by omega) _)
  have FF0 : Hid (Fresh w.heap.size (((WL.setCell ⟨B + 1, 0, none⟩ (.string x.name)).setCell ⟨B + 1, 1, none⟩ (.slice o0 x.params.length c0)).setCell ⟨B + 1, 2, none⟩ (.slice o1 x.alts.length c1)) (fun W => SRow W (.slice o0 x.params.length c0) x.params)) := Fresh.base ((((G1_0.out.setLow (by omega) _ _).setLow (by omega) _ _).setLow (by omega) _ _)) (show w.heap.size ≤ B + 3 by omega)
  have FF1 : Hid (Fresh w.heap.size (((WL.setCell ⟨B + 1, 0, none⟩ (.string x.name)).setCell ⟨B + 1, 1, none⟩ (.slice o0 x.params.length c0)).setCell ⟨B + 1, 2, none⟩ (.slice o1 x.alts.length c1)) (fun W => RowC 1 AltE W (.slice o1 x.alts.length c1) x.alts)) := Fresh.base ((((G1_1.out.setLow (by omega) _ _).setLow (by omega) _ _).setLow (by omega) _ _)) (show w.heap.size ≤ B + 3 by omega)
  have rp : (((WL.setCell ⟨B + 1, 0, none⟩ (.string x.name)).setCell ⟨B + 1, 1, none⟩ (.slice o0 x.params.length c0)).setCell ⟨B + 1, 2, none⟩ (.slice o1 x.alts.length c1)).heap[B + 1]? = some (.cells #[.string x.name, .slice o0 x.params.length c0, .slice o1 x.alts.length c1] 43) := block_set (block_set (block_set P1.out))
  have rr0 : (((WL.setCell ⟨B + 1, 0, none⟩ (.string x.name)).setCell ⟨B + 1, 1, none⟩ (.slice o0 x.params.length c0)).setCell ⟨B + 1, 2, none⟩ (.slice o1 x.alts.length c1)).cell? ⟨B + 1, 0, none⟩ = some (.string x.name) := cell_block rp rfl
  have rr1 : (((WL.setCell ⟨B + 1, 0, none⟩ (.string x.name)).setCell ⟨B + 1, 1, none⟩ (.slice o0 x.params.length c0)).setCell ⟨B + 1, 2, none⟩ (.slice o1 x.alts.length c1)).cell? ⟨B + 1, 1, none⟩ = some (.slice o0 x.params.length c0) := cell_block rp rfl
  have rr2 : (((WL.setCell ⟨B + 1, 0, none⟩ (.string x.name)).setCell ⟨B + 1, 1, none⟩ (.slice o0 x.params.length c0)).setCell ⟨B + 1, 2, none⟩ (.slice o1 x.alts.length c1)).cell? ⟨B + 1, 2, none⟩ = some (.slice o1 x.alts.length c1) := cell_block rp rfl
  clear rp P1 v1
  generalize ((WL.setCell ⟨B + 1, 0, none⟩ (.string x.name)).setCell ⟨B + 1, 1, none⟩ (.slice o0 x.params.length c0)).setCell ⟨B + 1, 2, none⟩ (.slice o1 x.alts.length c1) = W9 at *
  (try simp only [Exit.inBlock, Exit.then])
  refine bodyPost_ret (by simp [results, Tryz.results26, go_sem, rr0, rr1, rr2]; try rfl) rfl ?_
  exact ⟨_, _, _, _, rfl, FF0.out, FF1.out, FB.out⟩

theorem Tryz.infoRule : (Tryz.prog.info? 43).map (fun i => (i.zero, i.size, i.bytes)) = some (some (.agg #[.string ⟨#[]⟩, .slice none 0 0, .slice none 0 0]), 3, 64) := by kernel_rfl
set_option maxHeartbeats 3200000 in
set_option maxRecDepth 100000 in
theorem gtoRuleS (v : Value) (xs : List (RuleD)) (w : World) (hz : rowTot ruleTot xs ≤ 1048576) (h : RowC 3 RuleE w v xs) :
    Calls Tryz.prog 16 #[v] w fun e w' => ∃ a c, e = .returned (.slice a xs.length c) ∧ Fresh w.heap.size w' (fun W => RowC 3 RuleE W (.slice a xs.length c) xs) ∧ Below w.heap.size w w' := by
  obtain ⟨i0, hi, hz0, hz1, hz2⟩ := info_parts Tryz.infoRule
  have hn := rowTot_len ruleTot xs
  have HR : Hid (RowC 3 RuleE w v xs) := h
  obtain ⟨a, cap, rfl⟩ := h.slice
  clear h
  go_enter Tryz.func16, Tryz.ntmps16
  go_wp2_with (at_make; refine wpList_make_full _ rfl _ _ 28 rfl w.heap.size 43 i0 _ 3 Tryz.underlying28 hi hz0 hz1 .i64 .i64 _ _ xs.length rfl rfl rfl rfl (by rw [hz2]; omega) (by unfold maxLen; omega) (Nat.le_refl _) ?_; intro w1 hown hg1)
  have HO : Hid (RowTo 3 RuleE 43 w.heap.size w.heap.size xs 0 w1) := rowTo_start hown
  have HB1 : Hid (Below w.heap.size w w1) := (Below.refl _ _).grown hg1 (Nat.le_refl _) (fun k h => by cases h)
  clear hown hg1
  go_loopw [4] (fun iv wr => ∃ k : Nat, iv = .int .i64 k ∧ k ≤ xs.length ∧ RowTo 3 RuleE 43 w.heap.size w.heap.size xs k wr ∧ Below w.heap.size w wr) (fun iv _ => xs.length - (intOf iv).toNat)
  case atStart => exact ⟨0, rfl, Nat.zero_le _, HO.out, HB1.out⟩
  case round =>
    obtain ⟨k, rfl, hk, hrow, hb⟩ := hrel
    have HW : Hid (RowTo 3 RuleE 43 w.heap.size w.heap.size xs k wr) := hrow
    have HB : Hid (Below w.heap.size w wr) := hb
    have HRr : Hid (RowC 3 RuleE wr (.slice a xs.length cap) xs) := RowC.below RuleE_stable HR.out hb
    have hgt : w.heap.size + 1 ≤ wr.heap.size := by
      obtain ⟨cs, ho⟩ := hrow.own
      exact (World.ownsRow.lt ho w.heap.size rfl).2
    clear hb hrow HO HB1
    by_cases hlt : k < xs.length
    · obtain ⟨b, off, vs, rfl, _, hc, hE⟩ := HRr.out.at hlt
      obtain ⟨r0, r1, rfl, hh0, hh1⟩ := hE
      have n0 : wr.cell? ⟨b, off + k * 3, none⟩ = some (.string xs[k].name) := hc 0 (by simp)
      have n1 : wr.cell? ⟨b, off + k * 3 + 1, none⟩ = some (r0) := hc 1 (by simp)
      have n2 : wr.cell? ⟨b, off + k * 3 + 2, none⟩ = some (r1) := hc 2 (by simp)
      have HT : Hid (∀ W, Below wr.heap.size wr W → _) := fun W hW => gtoRule r0 r1 xs[k] W (by have := rowTot_mem ruleTot (List.getElem_mem hlt); omega) (hh0.below hW) (RowC.below AltE_stable hh1 hW)
      obtain ⟨aa0, ca0, rfl⟩ := hh0.slice
      obtain ⟨aa1, ca1, rfl⟩ := hh1.slice
      clear hc hh0 hh1
      go_wp2_with fail
      refine (HT.out _ (Below.refl _ _)).mono ?_
      rintro e w2 ⟨o0, c0, o1, c1, rfl, f0, f1, hb2⟩
      have HB2 : Hid (Below w.heap.size w w2) := HB.out.trans (hb2.mono HB.out.size)
      have HW2 : Hid (RowTo 3 RuleE 43 w.heap.size w.heap.size xs k w2) := HW.out.below hb2
      have HE2 : Hid (Fresh (w.heap.size + 1) w2 (fun W => RuleE W [.string xs[k].name, .slice o0 xs[k].params.length c0, .slice o1 xs[k].alts.length c1] xs[k])) := fun W h1 h2 => ⟨_, _, rfl, (f0.base hgt) W h1 h2, (f1.base hgt) W h1 h2⟩
      obtain ⟨cs, O2⟩ := HW2.out.own
      obtain ⟨d0, hd0, hf0⟩ := own_cell O2 (k * 3) (by omega)
      obtain ⟨d1, hd1, hf1⟩ := own_cell O2 (k * 3 + 1) (by omega)
      obtain ⟨d2, hd2, hf2⟩ := own_cell O2 (k * 3 + 2) (by omega)
      clear O2 hb2 HT HW f0 f1
      go_wp2
      have HN : Hid (RowTo 3 RuleE 43 w.heap.size w.heap.size xs (k + 1) (setsW w2 w.heap.size (k * 3) [.string xs[k].name, .slice o0 xs[k].params.length c0, .slice o1 xs[k].alts.length c1])) := HW2.out.next hlt rfl HE2.out
      have HB3 : Hid (Below w.heap.size w (setsW w2 w.heap.size (k * 3) [.string xs[k].name, .slice o0 xs[k].params.length c0, .slice o1 xs[k].alts.length c1])) := setsW_below HB2.out (Nat.le_refl _) _ _
      skip
      go_roundw
      case rel => exact ⟨k + 1, by go_num, by omega, HN.out, HB3.out⟩
      case measure => simp [intOf]; omega
    · obtain rfl : k = xs.length := by omega
      have HF : Hid (Fresh w.heap.size wr (fun W => RowC 3 RuleE W (.slice (some ⟨w.heap.size, 0, none⟩) xs.length xs.length) xs)) := HW.out.done
      clear HW
      go_wp2
      go_ret
      exact ⟨_, _, rfl, HF.out, HB.out⟩

set_option maxHeartbeats 3200000 in
set_option maxRecDepth 100000 in
theorem gtoGrammar (r0 : Value) (x : List RuleD) (w : World) (hz : grammarTot x ≤ 1048576) (hh0 : RowC 3 RuleE w r0 x) :
    Calls Tryz.prog 6 #[.agg #[r0]] w fun e w' => ∃ o0 c0, e = .returned (.agg #[.slice o0 x.length c0]) ∧ Fresh w.heap.size w' (fun W => RowC 3 RuleE W (.slice o0 x.length c0) x) ∧ Below w.heap.size w w' := by
  have HTt : grammarTot x = rowTot ruleTot x := rfl
  have R0 : Hid (RowC 3 RuleE w r0 x) := hh0
  obtain ⟨aa0, ca0, rfl⟩ := hh0.slice
  have hz0 : rowTot ruleTot x ≤ 1048576 := by omega
  clear HTt hz hh0
  obtain ⟨B, hB⟩ : ∃ B, w.heap.size = B := ⟨_, rfl⟩
  go_enter Tryz.func6, Tryz.ntmps6
  go_wp2_with fail
  obtain ⟨k0, k1, k2⟩ := box_three w #[.slice aa0 x.length ca0] #[.slice none 0 0] #[.slice none 0 0] 24 30 hB
  have P0 : Hid ((((w.alloc (.cells #[.slice aa0 x.length ca0] 24)).alloc (.cells #[.slice none 0 0] 30)).alloc (.cells #[.slice none 0 0] 30)).heap[B]? = some (.cells #[.slice aa0 x.length ca0] 24)) := k0
  have P1 : Hid ((((w.alloc (.cells #[.slice aa0 x.length ca0] 24)).alloc (.cells #[.slice none 0 0] 30)).alloc (.cells #[.slice none 0 0] 30)).heap[B + 1]? = some (.cells #[.slice none 0 0] 30)) := k1
  have P2 : Hid ((((w.alloc (.cells #[.slice aa0 x.length ca0] 24)).alloc (.cells #[.slice none 0 0] 30)).alloc (.cells #[.slice none 0 0] 30)).heap[B + 2]? = some (.cells #[.slice none 0 0] 30)) := k2
  have BW : Hid (Below w.heap.size w (((w.alloc (.cells #[.slice aa0 x.length ca0] 24)).alloc (.cells #[.slice none 0 0] 30)).alloc (.cells #[.slice none 0 0] 30))) := (((Below.refl _ _).alloc (Nat.le_refl _) _).alloc (by simp) _).alloc (by simp; omega) _
  have hsz : B + 3 ≤ (((w.alloc (.cells #[.slice aa0 x.length ca0] 24)).alloc (.cells #[.slice none 0 0] 30)).alloc (.cells #[.slice none 0 0] 30)).heap.size := by simp [hB]
  clear k0 k1 k2
  generalize ((w.alloc (.cells #[.slice aa0 x.length ca0] 24)).alloc (.cells #[.slice none 0 0] 30)).alloc (.cells #[.slice none 0 0] 30) = W0 at *
  refine (gtoRuleS _ x W0 hz0 (RowC.below RuleE_stable R0.out BW.out)).mono ?_
  rintro e w0 ⟨o0, c0, rfl, f0, hb0⟩
  have B0 : Hid (Below w.heap.size w w0) := BW.out.trans (hb0.mono BW.out.size)
  have F0_0 : Hid (Fresh (B + 3) w0 (fun W => RowC 3 RuleE W (.slice o0 x.length c0) x)) := f0.base hsz
  have q00_0 : Hid (w0.heap[B]? = some (.cells #[.slice aa0 x.length ca0] 24)) := (hb0.block B (by omega)).trans P0.out
  have q01_0 : Hid (w0.heap[B + 1]? = some (.cells #[.slice none 0 0] 30)) := (hb0.block (B + 1) (by omega)).trans P1.out
  have q02_0 : Hid (w0.heap[B + 2]? = some (.cells #[.slice none 0 0] 30)) := (hb0.block (B + 2) (by omega)).trans P2.out
  have hsz0 : B + 3 ≤ w0.heap.size := Nat.le_trans hsz hb0.size
  clear P0 P1 P2 f0 hb0 hsz BW
  have y0_0 : (w0).cell? ⟨B + 1 + 1, 0, none⟩ = some (.slice none 0 0) := cell_block (b := B + 2) q02_0.out rfl
  have g0_0 : (w0).frozen? ⟨B + 1 + 1, 0, none⟩ = false := frozen_block (b := B + 2) q02_0.out
  have q00_1 : Hid ((w0.setCell ⟨B + 1 + 1, 0, none⟩ (.slice o0 x.length c0)).heap[B]? = some (.cells #[.slice aa0 x.length ca0] 24)) := (block_other (b := B) (b' := B + 1 + 1) (by omega)).trans q00_0.out
  have q01_1 : Hid ((w0.setCell ⟨B + 1 + 1, 0, none⟩ (.slice o0 x.length c0)).heap[B + 1]? = some (.cells #[.slice none 0 0] 30)) := (block_other (b := B + 1) (b' := B + 1 + 1) (by omega)).trans q01_0.out
  have q02_1 : Hid ((w0.setCell ⟨B + 1 + 1, 0, none⟩ (.slice o0 x.length c0)).heap[B + 2]? = some (.cells #[.slice o0 x.length c0] 30)) := block_set (b := B + 2) q02_0.out
  have C0 : Hid (Below w.heap.size w (w0.setCell ⟨B + 1 + 1, 0, none⟩ (.slice o0 x.length c0))) := (B0.out.setCell (show w.heap.size ≤ B + 1 + 1 by omega) _)
  have G0_0 : Hid (Fresh (B + 3) (w0.setCell ⟨B + 1 + 1, 0, none⟩ (.slice o0 x.length c0)) (fun W => RowC 3 RuleE W (.slice o0 x.length c0) x)) := (F0_0.out.setLow (by omega) _ _)
  have v0 : B + 3 ≤ (w0.setCell ⟨B + 1 + 1, 0, none⟩ (.slice o0 x.length c0)).heap.size := by simpa using hsz0
  have y9_0 : (w0.setCell ⟨B + 1 + 1, 0, none⟩ (.slice o0 x.length c0)).cell? ⟨B + 1 + 1, 0, none⟩ = some (.slice o0 x.length c0) := cell_block (b := B + 2) q02_1.out rfl
  have z9_0 : (w0.setCell ⟨B + 1 + 1, 0, none⟩ (.slice o0 x.length c0)).cell? ⟨B + 1, 0, none⟩ = some (.slice none 0 0) := cell_block q01_1.out rfl
  have g9_0 : (w0.setCell ⟨B + 1 + 1, 0, none⟩ (.slice o0 x.length c0)).frozen? ⟨B + 1, 0, none⟩ = false := frozen_block q01_1.out
  go_wp2
  have P1 : Hid ((w0.setCell ⟨B + 1 + 1, 0, none⟩ (.slice o0 x.length c0)).heap[B + 1]? = some (.cells #[.slice none 0 0] 30)) := q01_1.out
  clear y0_0 g0_0 y9_0 z9_0 g9_0 q00_0 q00_1 q01_0 q01_1 q02_0 q02_1
  generalize w0.setCell ⟨B + 1 + 1, 0, none⟩ (.slice o0 x.length c0) = WL at *
  have FB : Hid (Below w.heap.size w (WL.setCell ⟨B + 1, 0, none⟩ (.slice o0 x.length c0))) := (C0.out.setCell (show w.heap.size ≤ B + 1 by omega) _)
  have FF0 : Hid (Fresh w.heap.size (WL.setCell ⟨B + 1, 0, none⟩ (.slice o0 x.length c0)) (fun W => RowC 3 RuleE W (.slice o0 x.length c0) x)) := Fresh.base ((G0_0.out.setLow (by omega) _ _)) (show w.heap.size ≤ B + 3 by omega)
  have rp : (WL.setCell ⟨B + 1, 0, none⟩ (.slice o0 x.length c0)).heap[B + 1]? = some (.cells #[.slice o0 x.length c0] 30) := block_set P1.out
  have rr0 : (WL.setCell ⟨B + 1, 0, none⟩ (.slice o0 x.length c0)).cell? ⟨B + 1, 0, none⟩ = some (.slice o0 x.length c0) := cell_block rp rfl
  clear rp P1 v0
  generalize WL.setCell ⟨B + 1, 0, none⟩ (.slice o0 x.length c0) = W9 at *
  (try simp only [Exit.inBlock, Exit.then])
  refine bodyPost_ret (by simp [results, Tryz.results6, go_sem, rr0]; try rfl) rfl ?_
  exact ⟨_, _, rfl, FF0.out, FB.out⟩

end Go.Proofs.YtofpoiccghpliaaGreatDoor
