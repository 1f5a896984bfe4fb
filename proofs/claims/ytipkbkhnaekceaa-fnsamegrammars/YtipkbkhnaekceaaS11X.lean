/- The specification's reader: call with a parenthesis, walked (printed by mk/s11x.py X). -/
import Derived.Test.YtipkbkhnaekceaaS11U
namespace Go.Proofs.Ytipkbkhnaekceaa
open Go.RowKit
set_option linter.unusedVariables false

/-- A reader within its bounds. -/
def RkO (tk : List TokD) (r : RdD) : Prop := r.at_ ≤ tk.length ∧ -900000 ≤ r.deep ∧ r.deep ≤ 900000
theorem RkO.go {tk : List TokD} {r r' : RdD} {n : Nat} (h : RkO tk r) (g : GoI tk r r' n) : RkO tk r' := by
  obtain ⟨a, b, c⟩ := h
  have h1 := g.at2
  have h2 := g.deep
  exact ⟨by omega, by omega, by omega⟩
theorem argsR_all (tk : List TokD) (r : RdD) : callArgs tk r = (wantR tk (argsR tk 250 (wholeR tk r).1 [(wholeR tk r).2]).1 (s1 41), (argsR tk 250 (wholeR tk r).1 [(wholeR tk r).2]).2) := by
  unfold callArgs
  generalize argsR tk 250 (wholeR tk r).1 [(wholeR tk r).2] = q
  obtain ⟨a, b⟩ := q
  rfl
set_option maxHeartbeats 12800000 in
set_option maxRecDepth 100000 in
theorem callT {A : Nat → Prop} {B p : Nat} {lv ov : Value} {tk : List TokD} {r : RdD} (name : ByteArray) (w : World) (hT : Tk200 tk) (hrr : RkO tk r) (hl : r.out.length ≤ 90000) (hA : ∀ b, A b → b < w.heap.size) (h : RdS B p lv ov tk r w) (hn : SNodesO A B ov r.out w) :
    Calls Try.prog 91 #[.pointer (some ⟨p, 0, none⟩), .string name, .bool true] w fun e w' => e = .returned (.int .i64 r.out.length) ∧ (∃ ov', RdS B p lv ov' tk (callR tk r name true) w' ∧ SNodesO A B ov' (callR tk r name true).out w') ∧ FrS B w w' := by
  obtain ⟨i0, hi, hz0, hz1, hz2⟩ := info_parts Try.infoExpr11
  have hlen := hT.len
  have hpw := rdb_lt h.rd
  have HN : Hid (SNodesO A B ov r.out w) := hn
  have HAw : Hid (∀ b, A b → b < w.heap.size) := hA
  have bal : Hid (Below w.heap.size w (w.alloc (.cells #[.int .i64 3, .string name, .slice none 0 0, .string ⟨#[]⟩, .slice none 0 0] 121))) := (Below.refl _ _).alloc (Nat.le_refl _) _
  have I0 : Hid (CallI B p lv ov tk w r ⟨3, name, [], em, []⟩ (.slice none 0 0) (w.alloc (.cells #[.int .i64 3, .string name, .slice none 0 0, .string ⟨#[]⟩, .slice none 0 0] 121))) :=
    ⟨h.below bal.out, heap_alloc_new w _, args_nil _ _, FrT.below bal.out h.lt, bal.out.size, h.lt⟩
  clear h hn bal hA
  have HV : Hid (callR tk r name true = putR (callArgs tk r).1 ⟨3, name, (callArgs tk r).2, em, []⟩) := rfl
  go_enter Try.func91, Try.ntmps91
  go_wp2_with fail
  generalize w.alloc (.cells #[.int .i64 3, .string name, .slice none 0 0, .string ⟨#[]⟩, .slice none 0 0] 121) = W1 at *
  have hesl0 : ([] : List (List NodeD)).length ≤ 251 := Nat.zero_le _
  have HKa : Hid (_ = _) := argsR_all tk r
  have HO2 : Hid ((wholeR tk r).1.out = r.out) := wholeR_out tk r
  have HG2 : Hid (GoI tk r (wholeR tk r).1 0) := goI_whole tk r
  have ID : Hid (CallI B p lv ov tk w _ _ _ W1.drew) := I0.out.drew
  have x2 := I0.out.xb_cell (j := 2) rfl
  have HWh : Hid (∀ _ : Unit, _) := fun _ => whole_any W1.drew hT hrr.1 hrr.2.1 hrr.2.2 ID.out.rds
  have hbase : w.heap.size ≤ W1.drew.heap.size := ID.out.size
  obtain ⟨cs, hcs, hsn⟩ := RowO.snoc ID.out.args
  have HCs : Hid (W1.drew.ownsRow w.heap.size 55 1 (.slice none ([] : List (List NodeD)).length 0) ([] : List (List NodeD)).length cs) := hcs
  have HSn : Hid _ := hsn
  have HXb : Hid (W1.drew.heap[w.heap.size]? = some (.cells _ _ _)) := ID.out.xb
  clear hcs hsn
  go_region_law ((first
    | (show ite (Region.wanted (Oper.mk (some 45) _ _ _ _ _) _ = true) _ _; refine step_append_lies _ (by rfl) _ _ _ (by rfl) w.heap.size 55 i0 _ 1 24 Try.underlying49 hi hz0 hz1 hz2 rfl (by omega) _ _ _ (by rfl) (World.ownsRow.alloc Z5 _) ⟨w5.heap.size, 0, none⟩ 1 1 [.slice an ln cn] (by rfl) (by rfl) (cell_one_new _ _ _) (one_slice _ _ _) (by omega) (by unfold maxLen; omega) (by omega) (by simp; omega) (w5.heap.size + 1) (by simp) ?_; intro gg cap w6 hown6 hgrow6 hat6 hlt6; have X6 := xb_grown hgrow6 (xb_alloc X5 (.cells #[.slice an ln cn] 55)) (own_offT Z5 X5 (by decide)); have z2 := run_cell (j := 2) X6 rfl; have zf := run_frozen (j := 2) X6)
    | (go_simp; go_at_call 92; refine Calls.mono (HWh.out ()) ?_; rintro e w5 ⟨nv5, rfl, hr5, hn5, hf5⟩; have hsz5 : w.heap.size ≤ w5.heap.size := Nat.le_trans hbase hf5.bel.size; obtain ⟨an, ln, cn, rfl⟩ := nodes_form hn5; have X5 := hf5.typ _ _ _ _ HXb.out (by decide); have y2 := run_cell (j := 2) X5 rfl; have y2b := run_cell (j := 2) (xb_alloc X5 (.cells #[.slice an ln cn] 55)) rfl; have Z5 := own_frT HCs.out hf5 (by decide); try go_wp2)))
  all_goals
    have V1 : Hid (CallI B p lv ov tk w _ _ _ _) := CallI.arg ID.out hpw hr5 hn5 hbase hf5 HCs.out HSn.out hown6 ⟨hgrow6.os, hgrow6.tape, hgrow6.output, hgrow6.size, hgrow6.block⟩
    clear hr5 hn5 hf5 hown6 hgrow6 hat6 hlt6 X5 X6 Z5 y2 y2b z2 zf x2 HWh HCs HSn hbase HXb ID hsz5
    have hrr2 := hrr.go HG2.out
    have hlt2 : tk.length - (wholeR tk r).1.at_ < 250 := by have := hT.len; omega
    clear hrr HG2 I0
    generalize hq1 : (wholeR tk r).1 = q1 at *
    generalize hq2 : (wholeR tk r).2 = q2 at *
    generalize hqq : callArgs tk r = qq at *
    clear hq1 hq2 hqq
    go_wp2
    go_loopg [48] 250 (fun gg _ wr => ∃ (r3 : RdD) (es : List (List NodeD)) (av : Value), argsR tk gg r3 es = argsR tk 250 q1 [q2] ∧ tk.length - r3.at_ < gg ∧ es.length + gg ≤ 251 ∧ RkO tk r3 ∧ r3.out = r.out ∧ CallI B p lv ov tk w r3 ⟨3, name, es, em, []⟩ av wr)
    case atStart => exact ⟨q1, [q2], _, rfl, hlt2, by simp, hrr2, HO2.out, V1.out⟩
    case round =>
      obtain ⟨r3, es, av, hE, hlt3, hes, hrr3, ho3, hI3⟩ := hrel
      obtain ⟨f, rfl⟩ : ∃ f, gk = f + 1 := ⟨gk - 1, by omega⟩
      have HE3 : Hid (argsR tk (f + 1) r3 es = argsR tk 250 q1 [q2]) := hE
      have I3 : Hid (CallI B p lv ov tk w r3 ⟨3, name, es, em, []⟩ av wr) := hI3
      have HO3 : Hid (r3.out = r.out) := ho3
      have hesl : es.length ≤ 251 := by omega
      clear hE hI3 ho3 V1
      go_wp2_with fail
      refine (sign_any (B := B) p lv ov tk r3 (s1 44) wr I3.out.rds.pB (by omega) I3.out.rds.rd I3.out.rds.tok).mono ?_
      rintro e w8 ⟨rfl, h1, h2⟩
      cases hs : isT tk r3 (s1 44) with
      | true =>
        rw [signR, if_pos hs] at h1
        have I4 : Hid (CallI B p lv ov tk w (onR r3) ⟨3, name, es, em, []⟩ av w8) := I3.out.rdr h1 h2
        have hl4 := isT_lt hs
        have hrr : RkO tk (onR r3) := hrr3.go (goI_on hl4)
        have HNx : Hid (argsR tk f (wholeR tk (onR r3)).1 (es ++ [(wholeR tk (onR r3)).2]) = argsR tk 250 q1 [q2]) := by rw [Hid, ← HE3.out, argsR, if_pos hs]
        have HG4 : Hid (GoI tk (onR r3) (wholeR tk (onR r3)).1 0) := goI_whole tk (onR r3)
        have HO4 : Hid ((wholeR tk (onR r3)).1.out = r.out) := (wholeR_out tk (onR r3)).trans HO3.out
        have hat4 : r3.at_ + 1 ≤ (wholeR tk (onR r3)).1.at_ := HG4.out.at1
        clear h1 h2 hs HE3 I3
        obtain ⟨aa, ca, rfl⟩ := RowO.slice I4.out.args
        go_wp2
        have ID : Hid (CallI B p lv ov tk w _ _ _ w8.drew) := I4.out.drew
        have x2 := I4.out.xb_cell (j := 2) rfl
        have HWh : Hid (∀ _ : Unit, _) := fun _ => whole_any w8.drew hT hrr.1 hrr.2.1 hrr.2.2 ID.out.rds
        have hbase : w.heap.size ≤ w8.drew.heap.size := ID.out.size
        obtain ⟨cs, hcs, hsn⟩ := RowO.snoc ID.out.args
        have HCs : Hid (w8.drew.ownsRow w.heap.size 55 1 (.slice aa es.length ca) es.length cs) := hcs
        have HSn : Hid _ := hsn
        have HXb : Hid (w8.drew.heap[w.heap.size]? = some (.cells _ _ _)) := ID.out.xb
        clear hcs hsn
        go_region_law ((first
          | (show ite (Region.wanted (Oper.mk (some 54) _ _ _ _ _) _ = true) _ _; refine step_append_lies _ (by rfl) _ _ _ (by rfl) w.heap.size 55 i0 _ 1 24 Try.underlying49 hi hz0 hz1 hz2 rfl (by omega) _ _ _ (by rfl) (World.ownsRow.alloc Z5 _) ⟨w5.heap.size, 0, none⟩ 1 1 [.slice an ln cn] (by rfl) (by rfl) (cell_one_new _ _ _) (one_slice _ _ _) (by omega) (by unfold maxLen; omega) (by omega) (by simp; omega) (w5.heap.size + 1) (by simp) ?_; intro gg cap w6 hown6 hgrow6 hat6 hlt6; have X6 := xb_grown hgrow6 (xb_alloc X5 (.cells #[.slice an ln cn] 55)) (own_offT Z5 X5 (by decide)); have z2 := run_cell (j := 2) X6 rfl; have zf := run_frozen (j := 2) X6)
          | (go_simp; go_at_call 92; refine Calls.mono (HWh.out ()) ?_; rintro e w5 ⟨nv5, rfl, hr5, hn5, hf5⟩; have hsz5 : w.heap.size ≤ w5.heap.size := Nat.le_trans hbase hf5.bel.size; obtain ⟨an, ln, cn, rfl⟩ := nodes_form hn5; have X5 := hf5.typ _ _ _ _ HXb.out (by decide); have y2 := run_cell (j := 2) X5 rfl; have y2b := run_cell (j := 2) (xb_alloc X5 (.cells #[.slice an ln cn] 55)) rfl; have Z5 := own_frT HCs.out hf5 (by decide); try go_wp2)))
        all_goals
          have V2 : Hid (CallI B p lv ov tk w _ _ _ _) := CallI.arg ID.out hpw hr5 hn5 hbase hf5 HCs.out HSn.out hown6 ⟨hgrow6.os, hgrow6.tape, hgrow6.output, hgrow6.size, hgrow6.block⟩
          clear hr5 hn5 hf5 hown6 hgrow6 hat6 hlt6 X5 X6 Z5 y2 y2b z2 zf x2 HWh HCs HSn hbase HXb ID hsz5
          go_wp2
          go_roundg f
          case measure => omega
          case rel => exact ⟨_, _, _, HNx.out, by omega, by rw [List.length_append, List.length_singleton]; omega, hrr.go HG4.out, HO4.out, V2.out⟩
      | false =>
        rw [signR, if_neg (by rw [hs]; decide)] at h1
        have I4 : Hid (CallI B p lv ov tk w r3 ⟨3, name, es, em, []⟩ av w8) := I3.out.rdr h1 h2
        have HQ : Hid (qq = (wantR tk r3 (s1 41), es)) := by
          rw [Hid, HKa.out, ← HE3.out, argsR, if_neg (by rw [hs]; decide)]
        clear h1 h2 hs HE3 I3 HKa
        go_wp2_with fail
        refine (want_any (B := B) p lv ov tk r3 (s1 41) w8 I4.out.rds.pB (by omega) I4.out.rds.rd I4.out.rds.tok).mono ?_
        rintro e w8b ⟨rfl, h1, h2⟩
        have I5 : Hid (CallI B p lv ov tk w (wantR tk r3 (s1 41)) ⟨3, name, es, em, []⟩ av w8b) := I4.out.rdr h1 h2
        have HO5 : Hid ((wantR tk r3 (s1 41)).out = r.out) := ((wantR_I tk r3 (s1 41)).2.2.2.2).trans HO3.out
        have HVf : Hid (_ = _) := HV.out
        rw [HQ.out] at HVf
        clear h1 h2 I4 HV HQ
        obtain ⟨aa, ca, rfl⟩ := RowO.slice I5.out.args
        have l0 := I5.out.xb_cell (j := 0) rfl
        have l1 := I5.out.xb_cell (j := 1) rfl
        have l2 := I5.out.xb_cell (j := 2) rfl
        have l3 := I5.out.xb_cell (j := 3) rfl
        have l4 := I5.out.xb_cell (j := 4) rfl
        have HPu : Hid (∀ _ : Unit, _) := fun _ => call_put I5.out HO5.out rfl hl HAw.out HN.out
        go_wp2_with fail
        refine (HPu.out ()).mono ?_
        rintro e w9 ⟨rfl, hq1, hq2⟩
        have Q1 : Hid _ := hq1
        have Q2 : Hid (FrS B w w9) := hq2
        clear hq1 hq2 l0 l1 l2 l3 l4
        go_wp2
        go_ret
        rw [HVf.out]
        exact ⟨rfl, Q1.out, Q2.out⟩

end Go.Proofs.Ytipkbkhnaekceaa
