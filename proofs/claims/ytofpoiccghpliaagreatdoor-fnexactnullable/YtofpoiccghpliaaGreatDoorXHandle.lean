/- The program's Nullable, and the exact law on it. -/
/- What the condition on errors.errorType gives a walk: the variable's one cell. -/
import Derived.Test.YtofpoiccghpliaaGreatDoorE18N
import Derived.Test.YtofpoiccghpliaaGreatDoorE18L
import Derived.Test.YtofpoiccghpliaaGreatDoorXFreeJ
import Derived.Test.YtofpoiccghpliaaGreatDoorRows
import Derived.Test.YtofpoiccghpliaaGreatDoorXFault2
import Derived.LaidLaws
import Derived.LaidHandle
namespace Go.Proofs.YtofpoiccghpliaaGreatDoor
open Go.RowKit
set_option linter.unusedVariables false
set_option maxRecDepth 100000

set_option maxHeartbeats 6400000 in
theorem implNullable_any (gv : Value) (g : List RuleD) (w : World) (hErr : errTy w) (hz : TzTab w) (hg : grammarTot g ≤ 1048576) (h : RowC 3 RuleE w gv g) :
    Calls Tryz.prog 7 #[.agg #[gv]] w fun e w' => ∃ o, e = .returned o ∧ OwnB w.heap.size o (nullB g) w' ∧ Below w.heap.size w w' := by
  obtain ⟨i0, hi, hz0, hz1, hz2⟩ := info_parts Tryz.infoStr
  obtain ⟨ga, gc, rfl⟩ := h.slice
  have hgl : g.length ≤ 1048576 := Nat.le_trans (rowTot_len ruleTot g) hg
  have s1 : (w.alloc (.cells #[.slice ga g.length gc] 30)).heap.size = w.heap.size + 1 := by simp
  have b1 : ∀ (W : World) (o : Obj), Below W.heap.size W (W.alloc o) := fun W o => (Below.refl _ _).alloc (Nat.le_refl _) _
  have B0 : Hid (Below w.heap.size w ((w.alloc (.cells #[.slice ga g.length gc] 30)).alloc (.cells #[] 9))) := (b1 _ _).trans ((b1 _ _).mono (by rw [s1]; omega))
  have HGb : Hid (((w.alloc (.cells #[.slice ga g.length gc] 30)).alloc (.cells #[] 9)).heap[w.heap.size]? = some (.cells #[.slice ga g.length gc] 30 (0, 0))) := ((b1 _ _).block _ (by rw [s1]; omega)).trans (heap_alloc_new w _)
  have HO0 : Hid (OwnB w.heap.size (.slice (some ⟨w.heap.size + 1, 0, none⟩) 0 0) [] ((w.alloc (.cells #[.slice ga g.length gc] 30)).alloc (.cells #[] 9))) := by
    have := World.ownsRow_made (base := w.heap.size) (w.alloc (.cells #[.slice ga g.length gc] 30)) #[] 0 (e := 9) (size := 1) (by rw [s1]; omega) (by decide) rfl
    rw [s1] at this
    exact this
  have e0 := run_cell (j := 0) (u := .slice ga g.length gc) HGb.out rfl
  have HSt : Hid (∀ W, Below w.heap.size w W → RowC 3 RuleE W (.slice ga g.length gc) g ∧ TzTab W ∧ errTy W) := fun W hb => ⟨RowC.below RuleE_stable h hb, hz.below hb, hErr.below hb⟩
  have HRow : Hid (RowC 3 RuleE w (.slice ga g.length gc) g) := h
  have HBe : Hid (∀ W, errTy W → TzTab W → RowC 3 RuleE W (.slice ga g.length gc) g → _) := fun W h1 h2 h3 => implBegin18_any (.slice ga g.length gc) g W h1 h2 hg h3
  have HG : Hid (grammarTot g ≤ 1048576) := hg
  have HCl : Hid (∀ (s : ByteArray) W, s.size ≤ 1048576 → _) := fun s W h => cloneS s W h
  clear h hz hErr hg b1 s1
  go_enter Tryz.func7, Tryz.ntmps7
  go_wp2_with fail
  refine (HBe.out _ (HSt.out _ B0.out).2.2 (HSt.out _ B0.out).2.1 (HSt.out _ B0.out).1).mono ?_
  rintro e w2 ⟨tv, rfl, hb2, hcase⟩
  have B2 : Hid (Below w.heap.size w w2) := B0.out.trans (hb2.mono B0.out.size)
  have HO2 : Hid (OwnB w.heap.size (.slice (some ⟨w.heap.size + 1, 0, none⟩) 0 0) [] w2) := HO0.out.below hb2
  have HG2 : Hid (w2.heap[w.heap.size]? = some (.cells #[.slice ga g.length gc] 30 (0, 0))) := (hb2.block _ (Array.getElem?_eq_some_iff.1 HGb.out).1).trans HGb.out
  clear e0 hb2 HGb HO0 B0 HBe
  rcases hcase with ⟨hgb, rfl⟩ | ⟨hgb, tb, F, rfl, ht2, hps⟩
  · have HN : Hid (nullB g = []) := by rw [Hid, nullB, hgb]; rfl
    go_wp2_with fail
    go_loopw [3, 10] (fun nv iv wr => nv = .slice (some ⟨w.heap.size + 1, 0, none⟩) 0 0 ∧ iv = .int .i64 0 ∧ wr = w2) (fun _ _ _ => 0)
    case atStart => exact ⟨rfl, rfl, rfl⟩
    case round =>
      obtain ⟨rfl, rfl, rfl⟩ := hrel
      go_wp2
      go_ret
      exact ⟨_, rfl, by rw [HN.out]; exact HO2.out, B2.out⟩
  · have HN : Hid (nullB g = nullTo g g.length) := by rw [Hid, nullB, if_pos hgb]
    have HT2 : Hid (TabF tb F w2) := ht2
    have HPs : Hid (PsT g F false) := hps
    have HF : Hid (F.length = 257 * g.length) := hps.len
    clear ht2 hps
    go_wp2_with fail
    go_loopw [3, 10] (fun nv iv wr => ∃ i : Nat, iv = .int .i64 i ∧ i ≤ g.length ∧ OwnB w.heap.size nv (nullTo g i) wr ∧ TabF tb F wr ∧ wr.heap[w.heap.size]? = some (.cells #[.slice ga g.length gc] 30 (0, 0)) ∧ Below w.heap.size w wr) (fun _ iv _ => g.length - (intOf iv).toNat)
    case atStart => exact ⟨0, rfl, Nat.zero_le _, HO2.out, HT2.out, HG2.out, B2.out⟩
    case round =>
      clear HO2 HT2 HG2 B2
      obtain ⟨i, rfl, hil, ho, ht, hgw, hb⟩ := hrel
      obtain ⟨wi, rfl⟩ : ∃ W, W = wr := ⟨wr, rfl⟩
      have HO : Hid (OwnB w.heap.size u3 (nullTo g i) wi) := ho
      have HT : Hid (TabF tb F wi) := ht
      have HGw : Hid (wi.heap[w.heap.size]? = some (.cells #[.slice ga g.length gc] 30 (0, 0))) := hgw
      have HB : Hid (Below w.heap.size w wi) := hb
      clear ho ht hgw hb
      by_cases hlt : i < g.length
      · have HC : Hid ((chk F i).length = 257) := chk_len HF.out hlt
        have HV : Hid ((chk F i).getD 0 false = lfB (nulE g) g.length i) := by rw [Hid, chk_getD (by decide), Nat.add_zero]; exact HPs.out.fin hlt
        have HNx : Hid (_ = _) := nullTo_next g i
        have hNl := nullTo_len g i
        obtain ⟨b, off, vs, rfl, _, hcs, hEl⟩ := HRow.out.at hlt
        obtain ⟨q0, q1, rfl, hp, ha⟩ := hEl
        have n0 := hcs 0 (by simp)
        simp only [List.getElem_cons_zero, Nat.add_zero] at n0
        have hns : g[i].name.size ≤ 1048576 := by
          have h1 := rowTot_mem ruleTot (List.getElem_mem hlt)
          have h2 : g[i].name.size ≤ ruleTot g[i] := by unfold ruleTot; omega
          have h3 : rowTot ruleTot g ≤ 1048576 := HG.out
          omega
        have hrd : (g.getD i default).name = g[i].name := by rw [List.getD_eq_getElem?_getD, List.getElem?_eq_getElem hlt]; rfl
        rw [hrd] at HNx
        have i4 : (i : Int) < (g.length : Int) := by omega
        clear hcs hp ha hrd
        have B5 : Hid (Below wi.heap.size wi (putW18 (wi.alloc (.cells Tryz.zeroCells49 49)) wi.heap.size (chk F i))) := below_put18 ((Below.refl _ _).alloc (Nat.le_refl _) _) (Nat.le_refl _)
        have t5 := new_tab18 wi
        have HTn : Hid (TabF wi.heap.size zL18 (wi.alloc (.cells Tryz.zeroCells49 49))) := t5
        have c5 := (t5.put (chk F i)).cell 0 (by rw [HC.out]; decide)
        rw [HV.out] at c5
        have HT5 : Hid (TabF tb F (wi.alloc (.cells Tryz.zeroCells49 49))) := HT.out.keep ((Below.refl _ _).alloc (Nat.le_refl _) _)
        have HO5 : Hid (OwnB w.heap.size u3 (nullTo g i) _) := HO.out.below B5.out
        have HT6 : Hid (TabF tb F _) := HT.out.keep B5.out
        have HG5 : Hid (_ = _) := (B5.out.block _ (Array.getElem?_eq_some_iff.1 HGw.out).1).trans HGw.out
        have HB5 : Hid (Below w.heap.size w _) := HB.out.trans (B5.out.mono HB.out.size)
        clear t5 HO HGw HB
        generalize g[i].name = nm at *
        cases hl : lfB (nulE g) g.length i with
        | false =>
          rw [hl] at c5 HNx
          rw [if_neg (by decide)] at HNx
          go_wp2_with (first | (refine wpl_load18 rfl _ rfl rfl (by omega) HT.out HF.out hlt ?_) | (refine wpl_load18 rfl _ rfl rfl (by omega) HT5.out HF.out hlt ?_) | (refine wpl_store1 rfl _ _ rfl rfl rfl HTn.out zL18_len HC.out ?_))
          go_roundw
          case rel => exact ⟨i + 1, by go_num, by omega, by rw [HNx.out]; exact HO5.out, HT6.out, HG5.out, HB5.out⟩
          case measure => simp [intOf]; omega
        | true =>
          rw [hl] at c5 HNx
          rw [if_pos rfl] at HNx
          have g5 := run_cell (j := 0) (u := .slice (some ⟨b, off, none⟩) g.length gc) HG5.out rfl
          have m0 := cell_keep n0 HB5.out
          go_wp2_with (first | (refine wpl_load18 rfl _ rfl rfl (by omega) HT.out HF.out hlt ?_) | (refine wpl_load18 rfl _ rfl rfl (by omega) HT5.out HF.out hlt ?_) | (refine wpl_store1 rfl _ _ rfl rfl rfl HTn.out zL18_len HC.out ?_))
          clear c5 g5 m0 HTn HT5 B5 HT
          generalize putW18 (wi.alloc (.cells Tryz.zeroCells49 49)) wi.heap.size (chk F i) = w5 at *
          refine (HCl.out nm _ hns).mono ?_
          rintro e w6 ⟨rfl, hb6⟩
          have O6 : Hid (OwnB w.heap.size u3 (nullTo g i) w6) := HO5.out.below hb6
          have T6 : Hid (TabF tb F w6) := HT6.out.keep hb6
          have G6 : Hid (w6.heap[w.heap.size]? = some (.cells #[.slice (some ⟨b, off, none⟩) g.length gc] 30 (0, 0))) := (hb6.block _ (Array.getElem?_eq_some_iff.1 HG5.out).1).trans HG5.out
          have B6 : Hid (Below w.heap.size w w6) := HB5.out.trans (hb6.mono HB5.out.size)
          clear HO5 HT6 HG5 HB5 hb6
          generalize nullTo g i = zs at *
          go_wp2_with (at_builtin; refine wpList_append_own _ rfl _ _ 26 rfl w.heap.size 9 i0 _ 1 16 Tryz.underlying26 hi hz0 hz1 hz2 rfl (by decide) _ _ _ rfl (World.ownsRow.alloc O6.out _) ⟨_, 0, none⟩ 1 1 [.string nm] rfl rfl (cell_one_new _ _ _) (one_cellF _) (by unfold maxLen; omega) (by omega) (by have h8 := B6.out.size; simp; omega) ?_)
          intro v' w7 hown7 hgrow _
          have R := ownB_snoc hown7 O6.out hgrow rfl B6.out
          have fr := fr_grown (ts := [9]) (B := w.heap.size) (World.ownsRow.alloc O6.out _) hgrow (List.mem_singleton.2 rfl) (by have h8 := B6.out.size; simp; omega)
          have T7 : Hid (TabF tb F w7) := fr.typ tb _ _ _ (T6.out.keep ((Below.refl _ _).alloc (Nat.le_refl _) _)) (by decide)
          have G7 : Hid (w7.heap[w.heap.size]? = some (.cells #[.slice (some ⟨b, off, none⟩) g.length gc] 30 (0, 0))) := fr.typ w.heap.size _ _ _ ((((Below.refl w6.heap.size w6).alloc (Nat.le_refl _) _).block _ (Array.getElem?_eq_some_iff.1 G6.out).1).trans G6.out) (by decide)
          have R1 : Hid (OwnB w.heap.size v' (zs ++ [nm]) w7) := R.1
          have R2 : Hid (Below w.heap.size w w7) := R.2
          clear hown7 hgrow fr R
          go_wp2
          go_roundw
          case rel => exact ⟨i + 1, by go_num, by omega, by rw [HNx.out]; exact R1.out, T7.out, G7.out, R2.out⟩
          case measure => simp [intOf]; omega
      · obtain rfl : i = g.length := by omega
        have i4 : ¬ ((g.length : Int) < (g.length : Int)) := by omega
        have HOf : Hid (OwnB w.heap.size u3 (nullB g) wi) := by rw [HN.out]; exact HO.out
        go_wp2
        go_ret
        exact ⟨_, rfl, HOf.out, HB.out⟩

theorem fnExactNullable_walk (v : Value) (xs : List RuleD) (w : World) (h : RowC 3 RuleE w v xs) (hin : GrammarIn xs) (hc : errTy w ∧ TzTab w) :
    Calls Tryz.prog 3 #[.agg #[v]] w fun e w' => e = .returned (.bool true) ∧ Below w.heap.size w w' :=
  fnExactNullable_of v xs w h hin fun hg u W hb hu => implNullable_any u xs W (hc.1.below hb) (hc.2.below hb) hg hu
end Go.Proofs.YtofpoiccghpliaaGreatDoor

namespace Go.Proofs.YtofpoiccghpliaaGreatDoor
open Go.RowKit
theorem Tryz.et : Tryz.prog.globalNamed "errors.errorType" = some 2 := by kernel_rfl
theorem Tryz.rt : (Tryz.prog.cutTypes.find? (·.1 == "internal/reflectlite.rtype")).map (·.2) = some 217 := by kernel_rfl
theorem Tryz.oneRow : ((List.range 268).filter fun t => Tryz.prog.rowNamed t [101, 114, 114, 111, 114]) = [156] := by kernel_rfl
theorem Tryz.size : Tryz.prog.types.size = 268 := by kernel_rfl
theorem errTy_of {W : World} (h : handlesMet Tryz.prog [("errors.errorType", Rows.laid_errors_errorType)] W) : errTy W := by
  obtain ⟨name, u, ty, e1, e2, e3, e4, e5⟩ := h _ (List.mem_singleton.2 rfl)
  have en : name = [101, 114, 114, 111, 114] := (Option.some.inj e1).symm
  subst en
  obtain rfl := Option.some.inj (Tryz.rt.symm.trans e2)
  have hm : ty ∈ (List.range 268).filter fun t => Tryz.prog.rowNamed t [101, 114, 114, 111, 114] := List.mem_filter.2 ⟨List.mem_range.2 (by rw [← Tryz.size]; exact e3), e4⟩
  rw [Tryz.oneRow] at hm
  obtain rfl := List.mem_singleton.1 hm
  have hh : typeHandle Tryz.prog 156 = .pointer (some ⟨3, 156, none⟩) := by kernel_rfl
  rw [hh] at e5
  exact World.var?_cell Tryz.et e5 0
end Go.Proofs.YtofpoiccghpliaaGreatDoor
