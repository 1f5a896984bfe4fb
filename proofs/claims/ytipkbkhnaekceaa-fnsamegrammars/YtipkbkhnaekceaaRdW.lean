/- The specification's ReadSurface, out of a contract on SurfaceOk (printed by mk/rdw.py). -/
import Derived.Test.YtipkbkhnaekceaaFlG0
namespace Go.Proofs.Ytipkbkhnaekceaa
open Go.RowKit
set_option linter.unusedVariables false

theorem setTwo {W : World} {k : Nat} {a b u v : Value} {T : TypeId} (h : W.heap[k]? = some (.cells #[a, b] T (0, 0))) : ((W.setCell ⟨k, 0, none⟩ u).setCell ⟨k, 1, none⟩ v).heap[k]? = some (.cells #[u, v] T (0, 0)) := by
  rw [setCell_self _ (setCell_self _ h)]; rfl
theorem readB_none {s : ByteArray} (h : parseB s = none) : readB s = none := by rw [readB, h]
theorem readB_no {s : ByteArray} {ns : List SNodeD} {rs : List SRuleD} (h : parseB s = some (ns, rs)) (ho : surfOkB ns rs = false) : readB s = none := by rw [readB, h]; simp only; rw [if_neg (by rw [ho]; decide)]
theorem readB_yes {s : ByteArray} {ns : List SNodeD} {rs : List SRuleD} (h : parseB s = some (ns, rs)) (ho : surfOkB ns rs = true) : readB s = some (ns, rs) := by rw [readB, h]; simp only; rw [if_pos ho]
theorem nodesA_base {A : Nat → Prop} {B B' : Nat} {v : Value} {ns : List NodeD} {w : World} (h : NodesA A B v ns w) (hB : B' ≤ B) : NodesA A B' v ns w := by
  obtain ⟨vss, a, b, c, d⟩ := RowO.base h hB
  exact ⟨vss, a, b, c, fun i hi hi' => by
    obtain ⟨kv, e, hk, hn⟩ := d i hi hi'
    exact ⟨kv, e, OwnZ.base hk hB, hn⟩⟩
theorem sNodes_base {A : Nat → Prop} {B B' : Nat} {v : Value} {xs : List SNodeD} {w : World} (h : SNodesO A B v xs w) (hB : B' ≤ B) : SNodesO A B' v xs w := by
  obtain ⟨vss, a, b, c, d⟩ := RowO.base h hB
  refine ⟨vss, a, b, c, fun i hi hi' => ?_⟩
  obtain ⟨av, kv, e, hA, hk, hn⟩ := d i hi hi'
  refine ⟨av, kv, e, ?_, OwnZ.base hk hB, hn⟩
  obtain ⟨vs2, a2, b2, c2, d2⟩ := RowO.base hA hB
  exact ⟨vs2, a2, b2, c2, fun j hj hj' => by
    obtain ⟨nv, e2, hv⟩ := d2 j hj hj'
    exact ⟨nv, e2, nodesA_base hv hB⟩⟩
theorem sRules_base {B B' : Nat} {v : Value} {rs : List SRuleD} {w : World} (h : SRulesO B v rs w) (hB : B' ≤ B) : SRulesO B' v rs w := by
  obtain ⟨vss, a, b, c, d⟩ := RowO.base h hB
  exact ⟨vss, a, b, c, fun i hi hi' => by
    obtain ⟨pv, e, hp⟩ := d i hi hi'
    exact ⟨pv, e, ownB_base hp hB⟩⟩
theorem kindT_out (tk : List TokD) (r : RdD) (k : Int) : (kindT tk r k).out = r.out := by unfold kindT; split <;> rfl
theorem goI_kind (tk : List TokD) (r : RdD) (k : Int) : GoI tk r (kindT tk r k) 0 := by
  unfold kindT
  cases h : kindR tk r k with
  | none => exact GoI.refl tk r
  | some t => exact goI_on (kindR_lt h)
theorem parsR_eq (tk : List TokD) (f : Nat) (r : RdD) (ps : List ByteArray) (ok : Bool) : parsR tk (f + 1) r ps ok = if isT tk (kindT tk r 1) (s1 44) = true then parsR tk f (onR (kindT tk r 1)) (ps ++ [(kindR tk r 1).getD em]) (ok && (kindR tk r 1).isSome) else (kindT tk r 1, ps ++ [(kindR tk r 1).getD em], ok && (kindR tk r 1).isSome) := by
  rw [parsR, kindT]
  cases kindR tk r 1 with
  | none => simp
  | some t => simp
theorem openR_of {F P : Nat} {tk : List TokD} {f : Nat} {r q : RdD} {rs : List SRuleD} {t : ByteArray} {ps : List ByteArray} {ok : Bool} (h : parsR tk P (onR r) [] true = (q, ps, ok)) : openR F P tk f r rs t = if ok = false ∨ (wantR tk (wantR tk q (s1 41)) arrow).bad = true then none
    else rulesR F P tk f (wantR tk (suF tk F .alts (wantR tk (wantR tk q (s1 41)) arrow) []).1 (s1 59)) (rs ++ [⟨t, ps, (suF tk F .alts (wantR tk (wantR tk q (s1 41)) arrow) []).2.getD 0⟩]) := by
  unfold openR
  rw [h]
theorem ownB_form {B : Nat} {v : Value} {ps : List ByteArray} {w : World} (h : OwnB B v ps w) : ∃ a cap, v = .slice a ps.length cap := by
  rcases h.2 with ⟨rfl, h0⟩ | ⟨g, cap, cur, rfl, _⟩
  · exact ⟨none, 0, by rw [h0]⟩
  · exact ⟨_, cap, rfl⟩
/-- What is handed back of a text that is read. -/
def SurfR (s : ByteArray) (B : Nat) (nv rv : Value) (w : World) : Prop := match readB s with
  | none => nv = .slice none 0 0 ∧ rv = .slice none 0 0
  | some (ns, rs) => SNodesO NoA B nv ns w ∧ SRulesO B rv rs w

set_option maxHeartbeats 25600000 in
set_option maxRecDepth 100000 in
theorem readSurface_of (s : ByteArray) (w : World) (hs : s.size ≤ 1048576)
    (hOk0 : ∀ (ns : List SNodeD) (rs : List SRuleD), parseB s = some (ns, rs) → ∀ (B : Nat) (nv rv : Value) (W : World), SNodesO NoA B nv ns W → SRulesO B rv rs W → Calls Try.prog 53 #[.agg #[nv, rv]] W fun e w' => e = .returned (.bool (surfOkB ns rs)) ∧ Below W.heap.size W w') :
    Calls Try.prog 36 #[.string s] w fun e w' => ∃ nv rv, e = .returned (.tuple #[.agg #[nv, rv], .bool (readB s).isSome]) ∧ Below w.heap.size w w' ∧ SurfR s w.heap.size nv rv w' := by
  obtain ⟨i0, hi, hz0, hz1, hz2⟩ := info_parts Try.infoSRule
  obtain ⟨j0, hj, hj0, hj1, hj2⟩ := info_parts Try.infoStr11
  have hOk : Hid _ := hOk0
  clear hOk0
  have bal0 : Hid (Below w.heap.size w (w.alloc (.cells #[.slice none 0 0, .slice none 0 0] 81))) := (Below.refl _ _).alloc (Nat.le_refl _) _
  have Rc0 : Hid ((w.alloc (.cells #[.slice none 0 0, .slice none 0 0] 81)).heap[w.heap.size]? = some (.cells #[.slice none 0 0, .slice none 0 0] 81 (0, 0))) := heap_alloc_new w _
  have hs0 : w.heap.size < (w.alloc (.cells #[.slice none 0 0, .slice none 0 0] 81)).heap.size := by simp
  have HTk : Hid (∀ W, _) := fun W => tokens_any s W hs
  have HT2 : Hid (Tk200 (tokensB s).1) := tk200 s
  have HPa : Hid (parseB s = if (tokensB s).2 = 0 then rulesR fuelE 250 (tokensB s).1 250 ⟨0, 0, false, []⟩ [] else none) := rfl
  generalize (tokensB s).1 = tk at *
  generalize (tokensB s).2 = flt at *
  go_enter Try.func36, Try.ntmps36
  go_wp2_with fail
  generalize w.alloc (.cells #[.slice none 0 0, .slice none 0 0] 81) = W0 at *
  refine (HTk.out _).mono ?_
  rintro e w1 ⟨lv, rfl, hTo, hb1⟩
  have HBl1 : Hid (Below w.heap.size w w1) := bal0.out.trans (hb1.mono bal0.out.size)
  have Rc1 : Hid (w1.heap[w.heap.size]? = some (.cells #[.slice none 0 0, .slice none 0 0] 81 (0, 0))) := (hb1.block _ hs0).trans Rc0.out
  have hlo1 : w.heap.size < w1.heap.size := Nat.lt_of_lt_of_le hs0 hb1.size
  have To1 : Hid (RowC 2 TokV w1 lv tk) := RowO.row hTo
  have Lo1 : Hid (∀ b o n c, lv = .slice (some ⟨b, o, none⟩) n c → b < w1.heap.size) := fun b o n c e => (RowO.lt hTo b (by rw [e]; rfl)).2
  clear hb1 hTo bal0 Rc0 hs0 HTk
  by_cases hf : flt = 0
  rotate_left
  · have hne : (flt != 0) = true := by simp [hf]
    have HV : Hid (parseB s = none) := by rw [Hid, HPa.out, if_neg hf]
    have K0 : Hid (w1.heap[w.heap.size]? = some (.cells #[.slice none 0 0, .slice none 0 0] 81 (0, 0))) := Rc1.out
    have HBl : Hid (Below w.heap.size w w1) := HBl1.out
    clear hf Rc1
    have z0 : w1.cell? ⟨w.heap.size, 0, none⟩ = some (.slice none 0 0) := run_cell K0.out rfl
    have z1 : w1.cell? ⟨w.heap.size, 1, none⟩ = some (.slice none 0 0) := run_cell K0.out rfl
    have y0 : w1.frozen? ⟨w.heap.size, 0, none⟩ = false := run_frozen K0.out
    have y1 : w1.frozen? ⟨w.heap.size, 1, none⟩ = false := run_frozen K0.out
    have K1 := setTwo (u := (.slice none 0 0)) (v := (.slice none 0 0)) K0.out
    have rr0 : ((w1.setCell ⟨w.heap.size, 0, none⟩ (.slice none 0 0)).setCell ⟨w.heap.size, 1, none⟩ (.slice none 0 0)).cell? ⟨w.heap.size, 0, none⟩ = some (.slice none 0 0) := run_cell K1 rfl
    have rr1 : ((w1.setCell ⟨w.heap.size, 0, none⟩ (.slice none 0 0)).setCell ⟨w.heap.size, 1, none⟩ (.slice none 0 0)).cell? ⟨w.heap.size, 1, none⟩ = some (.slice none 0 0) := run_cell K1 rfl
    have HBr : Hid (Below w.heap.size w ((w1.setCell ⟨w.heap.size, 0, none⟩ (.slice none 0 0)).setCell ⟨w.heap.size, 1, none⟩ (.slice none 0 0))) := (HBl.out.setCell (p := ⟨w.heap.size, 0, none⟩) (Nat.le_refl _) _).setCell (p := ⟨w.heap.size, 1, none⟩) (Nat.le_refl _) _
    go_wp2
    (try simp only [Exit.inBlock, Exit.then])
    refine bodyPost_ret (by simp [results, Try.results36, go_sem, rr0, rr1]; try rfl) rfl ?_
    exact ⟨_, _, by rw [readB_none HV.out]; rfl, HBr.out, by rw [SurfR, readB_none HV.out]; exact ⟨rfl, rfl⟩⟩
  · have hne : (flt != 0) = false := by simp [hf]
    have HPb : Hid (parseB s = rulesR fuelE 250 tk 250 ⟨0, 0, false, []⟩ []) := by rw [Hid, HPa.out, if_pos hf]
    clear hf HPa
    have hW2s : ((w1.alloc (.cells #[lv, .int .i64 0, .int .i64 0, .bool false, .slice none 0 0] 101)).alloc (.cells #[.slice none 0 0, .slice none 0 0] 81)).heap.size = w1.heap.size + 2 := by simp
    have bal2 : Hid (Below w1.heap.size w1 ((w1.alloc (.cells #[lv, .int .i64 0, .int .i64 0, .bool false, .slice none 0 0] 101)).alloc (.cells #[.slice none 0 0, .slice none 0 0] 81))) := ((Below.refl _ _).alloc (Nat.le_refl _) _).alloc (by simp) _
    have I1 : Hid (RsI w1.heap.size lv tk w ⟨0, 0, false, []⟩ [] (.slice none 0 0) ((w1.alloc (.cells #[lv, .int .i64 0, .int .i64 0, .bool false, .slice none 0 0] 101)).alloc (.cells #[.slice none 0 0, .slice none 0 0] 81))) := by
      refine ⟨⟨.slice none 0 0, ⟨?_, RowC.below tokV_stable To1.out bal2.out, Nat.le_refl _, Lo1.out⟩, RowO.nil⟩, ?_, RowO.nil, (bal2.out.block _ hlo1).trans Rc1.out, HBl1.out.trans (bal2.out.mono (Nat.le_of_lt hlo1)), hlo1⟩
      · rw [RdB, Below.heap_alloc _ _ _ (by simp)]
        exact heap_alloc_new w1 _
      · have := heap_alloc_new (w1.alloc (.cells #[lv, .int .i64 0, .int .i64 0, .bool false, .slice none 0 0] 101)) (.cells #[.slice none 0 0, .slice none 0 0] 81)
        rwa [show (w1.alloc (.cells #[lv, .int .i64 0, .int .i64 0, .bool false, .slice none 0 0] 101)).heap.size = w1.heap.size + 1 by simp] at this
    obtain ⟨at_, ct_, rfl⟩ := To1.out.slice
    go_wp2
    generalize (w1.alloc (.cells #[.slice at_ tk.length ct_, .int .i64 0, .int .i64 0, .bool false, .slice none 0 0] 101)).alloc (.cells #[.slice none 0 0, .slice none 0 0] 81) = W2 at *
    generalize w1.heap.size = p at *
    clear bal2 hW2s HBl1 Rc1 To1 Lo1
    have htl := HT2.out.len
    obtain ⟨lv, hlv⟩ : ∃ lv, lv = Value.slice at_ tk.length ct_ := ⟨_, rfl⟩
    rw [← hlv] at I1
    have HLv : Hid (lv = Value.slice at_ tk.length ct_) := hlv
    clear hlv
    go_loopg [38] 250 (fun gg _ wr => ∃ (r1 : RdD) (rs : List SRuleD) (rv : Value), rulesR fuelE 250 tk gg r1 rs = parseB s ∧ tk.length - r1.at_ < gg ∧ gg ≤ 250 ∧ r1.at_ ≤ tk.length ∧ r1.deep = 0 ∧ r1.out.length ≤ 4 * r1.at_ ∧ rs.length + gg ≤ 250 ∧ RsI p lv tk w r1 rs rv wr)
    case atStart => exact ⟨⟨0, 0, false, []⟩, [], _, HPb.out.symm, by show tk.length - 0 < 250; omega, Nat.le_refl _, Nat.zero_le _, rfl, Nat.zero_le _, by simp, I1.out⟩
    case round =>
      obtain ⟨r1, rs, rv, hE, hlt, hgg, hat, hdp, hol, hrl, hI⟩ := hrel
      obtain ⟨f, rfl⟩ : ∃ f, gk = f + 1 := ⟨gk - 1, by omega⟩
      have HE : Hid (rulesR fuelE 250 tk (f + 1) r1 rs = parseB s) := hE
      have IR : Hid (RsI p lv tk w r1 rs rv wr) := hI
      clear hE hI I1 HPb
      obtain ⟨ov, hR, hN⟩ := IR.out.su
      have HR : Hid (RdS p p lv ov tk r1 wr) := hR
      have HN : Hid (SNodesO NoA p ov r1.out wr) := hN
      have e3 : wr.cell? ⟨p, 3, none⟩ = some (.bool r1.bad) := run_cell hR.rd rfl
      have e1 : wr.cell? ⟨p, 1, none⟩ = some (.int .i64 r1.at_) := run_cell hR.rd rfl
      clear hR hN
      cases hbad : r1.bad with
      | true =>
        have HV : Hid (parseB s = none) := by rw [Hid, ← HE.out]; exact rulesR_bad hbad
        rw [hbad] at e3
        clear HE
        obtain ⟨ov9, hR9, hN9⟩ := IR.out.su
        obtain ⟨an9, cn9, rfl⟩ := RowO.slice hN9
        obtain ⟨ar9, cr9, rfl⟩ := RowO.slice IR.out.rul
        have m4 : wr.cell? ⟨p, 4, none⟩ = some (.slice an9 r1.out.length cn9) := run_cell hR9.rd rfl
        have m3 : wr.cell? ⟨p, 3, none⟩ = some (.bool r1.bad) := run_cell hR9.rd rfl
        rw [hbad] at m3
        have b0 : wr.cell? ⟨p + 1, 0, none⟩ = some (.slice none 0 0) := run_cell IR.out.ob rfl
        have bf : wr.frozen? ⟨p + 1, 0, none⟩ = false := run_frozen IR.out.ob
        have hlo9 := IR.out.lo
        have n3 : (wr.setCell ⟨p + 1, 0, none⟩ (.slice an9 r1.out.length cn9)).cell? ⟨p, 3, none⟩ = some (.bool true) := (World.cell?_of_block (setCell_other (k := p) _ (by omega))).trans m3
        have K0 : Hid ((wr.setCell ⟨p + 1, 0, none⟩ (.slice an9 r1.out.length cn9)).heap[w.heap.size]? = some (.cells #[.slice none 0 0, .slice none 0 0] 81 (0, 0))) := (setCell_other (k := w.heap.size) _ (by omega)).trans IR.out.rc
        have HBl : Hid (Below w.heap.size w (wr.setCell ⟨p + 1, 0, none⟩ (.slice an9 r1.out.length cn9))) := IR.out.bel.setCell (p := ⟨p + 1, 0, none⟩) (by show w.heap.size ≤ p + 1; omega) _
        clear hR9 hN9 IR
        have z0 : (wr.setCell ⟨p + 1, 0, none⟩ (.slice an9 r1.out.length cn9)).cell? ⟨w.heap.size, 0, none⟩ = some (.slice none 0 0) := run_cell K0.out rfl
        have z1 : (wr.setCell ⟨p + 1, 0, none⟩ (.slice an9 r1.out.length cn9)).cell? ⟨w.heap.size, 1, none⟩ = some (.slice none 0 0) := run_cell K0.out rfl
        have y0 : (wr.setCell ⟨p + 1, 0, none⟩ (.slice an9 r1.out.length cn9)).frozen? ⟨w.heap.size, 0, none⟩ = false := run_frozen K0.out
        have y1 : (wr.setCell ⟨p + 1, 0, none⟩ (.slice an9 r1.out.length cn9)).frozen? ⟨w.heap.size, 1, none⟩ = false := run_frozen K0.out
        have K1 := setTwo (u := (.slice none 0 0)) (v := (.slice none 0 0)) K0.out
        have rr0 : (((wr.setCell ⟨p + 1, 0, none⟩ (.slice an9 r1.out.length cn9)).setCell ⟨w.heap.size, 0, none⟩ (.slice none 0 0)).setCell ⟨w.heap.size, 1, none⟩ (.slice none 0 0)).cell? ⟨w.heap.size, 0, none⟩ = some (.slice none 0 0) := run_cell K1 rfl
        have rr1 : (((wr.setCell ⟨p + 1, 0, none⟩ (.slice an9 r1.out.length cn9)).setCell ⟨w.heap.size, 0, none⟩ (.slice none 0 0)).setCell ⟨w.heap.size, 1, none⟩ (.slice none 0 0)).cell? ⟨w.heap.size, 1, none⟩ = some (.slice none 0 0) := run_cell K1 rfl
        have HBr : Hid (Below w.heap.size w (((wr.setCell ⟨p + 1, 0, none⟩ (.slice an9 r1.out.length cn9)).setCell ⟨w.heap.size, 0, none⟩ (.slice none 0 0)).setCell ⟨w.heap.size, 1, none⟩ (.slice none 0 0))) := (HBl.out.setCell (p := ⟨w.heap.size, 0, none⟩) (Nat.le_refl _) _).setCell (p := ⟨w.heap.size, 1, none⟩) (Nat.le_refl _) _
        go_wp2
        (try simp only [Exit.inBlock, Exit.then])
        refine bodyPost_ret (by simp [results, Try.results36, go_sem, rr0, rr1]; try rfl) rfl ?_
        exact ⟨_, _, by rw [readB_none HV.out]; rfl, HBr.out, by rw [SurfR, readB_none HV.out]; exact ⟨rfl, rfl⟩⟩
      | false =>
        rw [hbad] at e3
        by_cases hend : r1.at_ < tk.length
        rotate_left
        · have d1 : decide ((r1.at_ : Int) < (tk.length : Int)) = false := decide_eq_false (by omega)
          have HV : Hid (parseB s = some (r1.out, rs)) := by rw [Hid, ← HE.out]; exact rulesR_end hbad hend
          clear HE
          obtain ⟨ov9, hR9, hN9⟩ := IR.out.su
          obtain ⟨an9, cn9, rfl⟩ := RowO.slice hN9
          obtain ⟨ar9, cr9, rfl⟩ := RowO.slice IR.out.rul
          have m4 : wr.cell? ⟨p, 4, none⟩ = some (.slice an9 r1.out.length cn9) := run_cell hR9.rd rfl
          have m3 : wr.cell? ⟨p, 3, none⟩ = some (.bool r1.bad) := run_cell hR9.rd rfl
          rw [hbad] at m3
          have b0 : wr.cell? ⟨p + 1, 0, none⟩ = some (.slice none 0 0) := run_cell IR.out.ob rfl
          have bf : wr.frozen? ⟨p + 1, 0, none⟩ = false := run_frozen IR.out.ob
          have hlo9 := IR.out.lo
          have n3 : (wr.setCell ⟨p + 1, 0, none⟩ (.slice an9 r1.out.length cn9)).cell? ⟨p, 3, none⟩ = some (.bool false) := (World.cell?_of_block (setCell_other (k := p) _ (by omega))).trans m3
          have K0 : Hid ((wr.setCell ⟨p + 1, 0, none⟩ (.slice an9 r1.out.length cn9)).heap[w.heap.size]? = some (.cells #[.slice none 0 0, .slice none 0 0] 81 (0, 0))) := (setCell_other (k := w.heap.size) _ (by omega)).trans IR.out.rc
          have HBl : Hid (Below w.heap.size w (wr.setCell ⟨p + 1, 0, none⟩ (.slice an9 r1.out.length cn9))) := IR.out.bel.setCell (p := ⟨p + 1, 0, none⟩) (by show w.heap.size ≤ p + 1; omega) _
          have Ob9 : Hid ((wr.setCell ⟨p + 1, 0, none⟩ (.slice an9 r1.out.length cn9)).heap[p + 1]? = some (.cells #[.slice an9 r1.out.length cn9, .slice ar9 rs.length cr9] 81 (0, 0))) := by rw [Hid, setCell_self _ IR.out.ob]; rfl
          have q0 := run_cell (j := 0) Ob9.out rfl
          have q1 := run_cell (j := 1) Ob9.out rfl
          have hF9 : FrT [81] p wr (wr.setCell ⟨p + 1, 0, none⟩ (.slice an9 r1.out.length cn9)) := (fr_set (ts := [81]) (B := p) (j := 0) (.slice an9 r1.out.length cn9) IR.out.ob (by simp) (by omega))
          have N9 : Hid (SNodesO NoA p (.slice an9 r1.out.length cn9) r1.out (wr.setCell ⟨p + 1, 0, none⟩ (.slice an9 r1.out.length cn9))) := sNodes_fr hN9 hF9 (by decide) (by decide) (by decide) (by decide)
          have L9 : Hid (SRulesO p (.slice ar9 rs.length cr9) rs (wr.setCell ⟨p + 1, 0, none⟩ (.slice an9 r1.out.length cn9))) := sRules_fr IR.out.rul hF9 (by decide) (by decide)
          have HSo : Hid (∀ _ : Unit, _) := fun _ => hOk.out _ _ HV.out p _ _ _ N9.out L9.out
          clear hR9 hN9 IR hF9
          go_wp2_with fail
          generalize wr.setCell ⟨p + 1, 0, none⟩ (.slice an9 r1.out.length cn9) = W9 at *
          refine (HSo.out ()).mono ?_
          rintro e w10 ⟨rfl, hb10⟩
          have K10 : Hid (w10.heap[w.heap.size]? = some (.cells #[.slice none 0 0, .slice none 0 0] 81 (0, 0))) := (hb10.block _ (Array.getElem?_eq_some_iff.1 K0.out).1).trans K0.out
          have Ob10 : w10.heap[p + 1]? = some (.cells #[.slice an9 r1.out.length cn9, .slice ar9 rs.length cr9] 81 (0, 0)) := (hb10.block _ (Array.getElem?_eq_some_iff.1 Ob9.out).1).trans Ob9.out
          have s0 := run_cell (j := 0) Ob10 rfl
          have s1x := run_cell (j := 1) Ob10 rfl
          have N10 : Hid (SNodesO NoA p (.slice an9 r1.out.length cn9) r1.out w10) := sNodes_below N9.out hb10
          have L10 : Hid (SRulesO p (.slice ar9 rs.length cr9) rs w10) := sRules_below L9.out hb10
          have HBl2 : Hid (Below w.heap.size w w10) := HBl.out.trans (hb10.mono HBl.out.size)
          clear hb10 K0 HBl N9 L9 Ob9 HSo q0 q1 m4 m3 b0 bf n3 Ob10
          have K0 : Hid (w10.heap[w.heap.size]? = some (.cells #[.slice none 0 0, .slice none 0 0] 81 (0, 0))) := K10.out
          have HBl : Hid (Below w.heap.size w w10) := HBl2.out
          clear K10 HBl2
          cases hso : surfOkB r1.out rs with
          | false =>
            have HVr : Hid (readB s = none) := readB_no HV.out hso
            clear hso
            have z0 : w10.cell? ⟨w.heap.size, 0, none⟩ = some (.slice none 0 0) := run_cell K0.out rfl
            have z1 : w10.cell? ⟨w.heap.size, 1, none⟩ = some (.slice none 0 0) := run_cell K0.out rfl
            have y0 : w10.frozen? ⟨w.heap.size, 0, none⟩ = false := run_frozen K0.out
            have y1 : w10.frozen? ⟨w.heap.size, 1, none⟩ = false := run_frozen K0.out
            have K1 := setTwo (u := (.slice none 0 0)) (v := (.slice none 0 0)) K0.out
            have rr0 : ((w10.setCell ⟨w.heap.size, 0, none⟩ (.slice none 0 0)).setCell ⟨w.heap.size, 1, none⟩ (.slice none 0 0)).cell? ⟨w.heap.size, 0, none⟩ = some (.slice none 0 0) := run_cell K1 rfl
            have rr1 : ((w10.setCell ⟨w.heap.size, 0, none⟩ (.slice none 0 0)).setCell ⟨w.heap.size, 1, none⟩ (.slice none 0 0)).cell? ⟨w.heap.size, 1, none⟩ = some (.slice none 0 0) := run_cell K1 rfl
            have HBr : Hid (Below w.heap.size w ((w10.setCell ⟨w.heap.size, 0, none⟩ (.slice none 0 0)).setCell ⟨w.heap.size, 1, none⟩ (.slice none 0 0))) := (HBl.out.setCell (p := ⟨w.heap.size, 0, none⟩) (Nat.le_refl _) _).setCell (p := ⟨w.heap.size, 1, none⟩) (Nat.le_refl _) _
            go_wp2
            (try simp only [Exit.inBlock, Exit.then])
            refine bodyPost_ret (by simp [results, Try.results36, go_sem, rr0, rr1]; try rfl) rfl ?_
            exact ⟨_, _, by rw [HVr.out]; rfl, HBr.out, by rw [SurfR, HVr.out]; exact ⟨rfl, rfl⟩⟩
          | true =>
            have HVr : Hid (readB s = some (r1.out, rs)) := readB_yes HV.out hso
            clear hso
            have z0 : w10.cell? ⟨w.heap.size, 0, none⟩ = some (.slice none 0 0) := run_cell K0.out rfl
            have z1 : w10.cell? ⟨w.heap.size, 1, none⟩ = some (.slice none 0 0) := run_cell K0.out rfl
            have y0 : w10.frozen? ⟨w.heap.size, 0, none⟩ = false := run_frozen K0.out
            have y1 : w10.frozen? ⟨w.heap.size, 1, none⟩ = false := run_frozen K0.out
            have K1 := setTwo (u := (.slice an9 r1.out.length cn9)) (v := (.slice ar9 rs.length cr9)) K0.out
            have rr0 : ((w10.setCell ⟨w.heap.size, 0, none⟩ (.slice an9 r1.out.length cn9)).setCell ⟨w.heap.size, 1, none⟩ (.slice ar9 rs.length cr9)).cell? ⟨w.heap.size, 0, none⟩ = some (.slice an9 r1.out.length cn9) := run_cell K1 rfl
            have rr1 : ((w10.setCell ⟨w.heap.size, 0, none⟩ (.slice an9 r1.out.length cn9)).setCell ⟨w.heap.size, 1, none⟩ (.slice ar9 rs.length cr9)).cell? ⟨w.heap.size, 1, none⟩ = some (.slice ar9 rs.length cr9) := run_cell K1 rfl
            have HBr : Hid (Below w.heap.size w ((w10.setCell ⟨w.heap.size, 0, none⟩ (.slice an9 r1.out.length cn9)).setCell ⟨w.heap.size, 1, none⟩ (.slice ar9 rs.length cr9))) := (HBl.out.setCell (p := ⟨w.heap.size, 0, none⟩) (Nat.le_refl _) _).setCell (p := ⟨w.heap.size, 1, none⟩) (Nat.le_refl _) _
            go_wp2
            (try simp only [Exit.inBlock, Exit.then])
            refine bodyPost_ret (by simp [results, Try.results36, go_sem, rr0, rr1]; try rfl) rfl ?_
            have hF : FrT [81] w.heap.size w10 ((w10.setCell ⟨w.heap.size, 0, none⟩ (.slice an9 r1.out.length cn9)).setCell ⟨w.heap.size, 1, none⟩ (.slice ar9 rs.length cr9)) := (fr_set (j := 0) _ K0.out (by simp) (Nat.le_refl _)).trans (fr_set (j := 1) _ (setCell_self _ K0.out) (by simp) (Nat.le_refl _))
            exact ⟨_, _, by rw [HVr.out]; rfl, HBr.out, by rw [SurfR, HVr.out]; exact ⟨sNodes_base (sNodes_fr N10.out hF (by decide) (by decide) (by decide) (by decide)) (Nat.le_of_lt hlo9), sRules_base (sRules_fr L10.out hF (by decide) (by decide)) (Nat.le_of_lt hlo9)⟩⟩
        · have d1 : decide ((r1.at_ : Int) < (tk.length : Int)) = true := decide_eq_true (by omega)
          have HK1 : Hid (∀ _ : Unit, _) := fun _ => kind11_any (B := p) p lv ov tk r1 1 wr HR.out.pB (by omega) HR.out.rd HR.out.tok HR.out.low
          have HBd : Hid (r1.bad = false) := hbad
          clear hbad
          rw [HLv.out] at HK1
          go_wp2_with fail
          refine (HK1.out ()).mono ?_
          rintro e w2 ⟨rfl, h1, h2⟩
          rw [← HLv.out] at h1
          clear HK1
          cases hk : kindR tk r1 1 with
          | some t =>
            rw [kindT, hk] at h1
            have R2 : RdS p p lv ov tk (onR r1) w2 := HR.out.next h1 h2
            have HN2 : Hid (SNodesO NoA p ov (onR r1).out w2) := sNodes_rd HN.out h2
            have I2 : Hid (RsI p lv tk w (onR r1) rs rv w2) := IR.out.step ⟨ov, R2, HN2.out⟩ (FrR.toS h2)
            have hpw2a : p < w2.heap.size := rdb_lt R2.rd
            have bal : Below w2.heap.size w2 (w2.alloc (.cells #[.string t, .slice none 0 0, .int .i64 0] 104)) := (Below.refl _ _).alloc (Nat.le_refl _) _
            have P3 : Hid (PrI p lv ov tk w2 (onR r1) t (.slice none 0 0) [] (w2.alloc (.cells #[.string t, .slice none 0 0, .int .i64 0] 104))) := ⟨R2.below bal, heap_alloc_new w2 _, ownB_nil11 _ _, FrT.below bal (Nat.le_of_lt hpw2a), bal.size, Nat.le_of_lt hpw2a⟩
            obtain ⟨hkl, hkd⟩ : ∃ hl : r1.at_ < tk.length, tk[r1.at_].kind = 1 := by
              obtain ⟨a, b, _⟩ := kindR_kind hk
              exact ⟨a, b⟩
            have HPx0 : Hid (parseB s = nameR fuelE 250 tk f r1 rs t) := by rw [Hid, ← HE.out]; exact rulesR_name hk
            have htok := P3.out.rds.tok
            rw [HLv.out] at htok
            obtain ⟨tb, toff, tvs, htr, _, htc, htE⟩ := htok.at hkl
            obtain rfl : at_ = some ⟨tb, toff, none⟩ := by cases htr; rfl
            obtain rfl : tvs = [.int .i64 tk[r1.at_].kind, .string tk[r1.at_].text] := htE
            have t0 : (w2.alloc (.cells #[.string t, .slice none 0 0, .int .i64 0] 104)).cell? ⟨tb, toff + r1.at_ * 2, none⟩ = some (.int .i64 1) := by
              have := htc 0 (by simp)
              rw [List.getElem_cons_zero, hkd] at this
              exact this
            have l0 : (w2.alloc (.cells #[.string t, .slice none 0 0, .int .i64 0] 104)).cell? ⟨p, 0, none⟩ = some (.slice (some ⟨tb, toff, none⟩) tk.length ct_) := by
              rw [← HLv.out]
              exact run_cell P3.out.rds.rd rfl
            have l1 : (w2.alloc (.cells #[.string t, .slice none 0 0, .int .i64 0] 104)).cell? ⟨p, 1, none⟩ = some (.int .i64 ((r1.at_ : Int) + 1)) := run_cell P3.out.rds.rd rfl
            have wz : IntKind.i64.wrap ((r1.at_ : Int) + 1 - 1) = (r1.at_ : Int) := by rw [IntKind.wrap_i64]; omega
            have i6 : (r1.at_ : Int) < (tk.length : Int) := by omega
            have HO3 : Hid ((wantR tk (onR r1) arrow).out = (onR r1).out) := (wantR_I tk (onR r1) arrow).2.2.2.2
            have HGw : Hid (GoI tk (onR r1) (wantR tk (onR r1) arrow) 0) := goI_want tk (onR r1) arrow
            clear h1 h2 hk HE R2 bal htok htc htr hkd
            have HNe : Hid (rv.ownBlock ≠ some w2.heap.size) := fun e => absurd (RowO.lt I2.out.rul _ e).2 (Nat.lt_irrefl _)
            have HPx : Hid ((wantR tk (onR r1) arrow).bad = true → parseB s = none) := fun hb => by rw [HPx0.out, nameR, if_pos hb]
            have HPn : Hid (∀ q, q = suF tk fuelE .alts (wantR tk (onR r1) arrow) [] → (wantR tk (onR r1) arrow).bad = false → rulesR fuelE 250 tk f (wantR tk q.1 (s1 59)) (rs ++ [⟨t, [], q.2.getD 0⟩]) = parseB s) := fun q hq hb => by
              rw [HPx0.out, nameR, if_neg (by rw [hb]; decide), hq]
            have hat3 : (wantR tk (onR r1) arrow).at_ ≤ tk.length := by
              have h1 := HGw.out.at2
              have h2 : (onR r1).at_ = r1.at_ + 1 := rfl
              omega
            have h3at : r1.at_ + 1 ≤ (wantR tk (onR r1) arrow).at_ := HGw.out.at1
            have Hd3 : Hid ((wantR tk (onR r1) arrow).deep = 0) := HGw.out.deep.trans hdp
            have h3o : (wantR tk (onR r1) arrow).out.length ≤ r1.out.length := by rw [HO3.out]; exact Nat.le_refl _
            have HWt : Hid (∀ (W : World), RdS p p lv ov tk (onR r1) W → _) := fun W hR => want_any (B := p) p lv ov tk (onR r1) arrow W hR.pB (by omega) hR.rd hR.tok
            have hol3 : (wantR tk (onR r1) arrow).out.length ≤ 4 * (wantR tk (onR r1) arrow).at_ + 8 := by omega
            clear HPx0 HGw hdp
            generalize wantR tk (onR r1) arrow = r3 at *
            have hd3 := Hd3.out
            go_wp2_with fail
            generalize w2.alloc (.cells #[.string t, .slice none 0 0, .int .i64 0] 104) = W3 at *
            go_quiet (fail)
            have P3d : Hid (PrI p lv ov tk w2 (onR r1) t (.slice none 0 0) [] (W3.drewN nq)) := P3.out.rdr (rdb_drew P3.out.rds.rd nq) (frR_drew P3.out.rds.rd P3.out.rds.pB nq)
            clear P3 t0 l0 l1 wz i6
            generalize W3.drewN nq = W3d at *
            go_wp2_with fail
            refine (HWt.out W3d P3d.out.rds).mono ?_
            rintro e w4 ⟨rfl, h1, h2⟩
            have P4 : Hid (PrI p lv ov tk w2 r3 t (.slice none 0 0) [] w4) := P3d.out.rdr h1 h2
            clear h1 h2 HWt P3d IR HR HN
            have e3b : w4.cell? ⟨p, 3, none⟩ = some (.bool r3.bad) := run_cell P4.out.rds.rd rfl
            cases hbad : r3.bad with
            | true =>
              have HV : Hid (parseB s = none) := HPx.out hbad
              have I9 : Hid (RsI p lv tk w r3 rs rv w4) := PrI.out P4.out I2.out HN2.out HO3.out
              rw [hbad] at e3b
              clear HPn HPx
              obtain ⟨ov9, hR9, hN9⟩ := I9.out.su
              obtain ⟨an9, cn9, rfl⟩ := RowO.slice hN9
              obtain ⟨ar9, cr9, rfl⟩ := RowO.slice I9.out.rul
              have m4 : w4.cell? ⟨p, 4, none⟩ = some (.slice an9 r3.out.length cn9) := run_cell hR9.rd rfl
              have m3 : w4.cell? ⟨p, 3, none⟩ = some (.bool r3.bad) := run_cell hR9.rd rfl
              rw [hbad] at m3
              have b0 : w4.cell? ⟨p + 1, 0, none⟩ = some (.slice none 0 0) := run_cell I9.out.ob rfl
              have bf : w4.frozen? ⟨p + 1, 0, none⟩ = false := run_frozen I9.out.ob
              have hlo9 := I9.out.lo
              have n3 : (w4.setCell ⟨p + 1, 0, none⟩ (.slice an9 r3.out.length cn9)).cell? ⟨p, 3, none⟩ = some (.bool true) := (World.cell?_of_block (setCell_other (k := p) _ (by omega))).trans m3
              have K0 : Hid ((w4.setCell ⟨p + 1, 0, none⟩ (.slice an9 r3.out.length cn9)).heap[w.heap.size]? = some (.cells #[.slice none 0 0, .slice none 0 0] 81 (0, 0))) := (setCell_other (k := w.heap.size) _ (by omega)).trans I9.out.rc
              have HBl : Hid (Below w.heap.size w (w4.setCell ⟨p + 1, 0, none⟩ (.slice an9 r3.out.length cn9))) := I9.out.bel.setCell (p := ⟨p + 1, 0, none⟩) (by show w.heap.size ≤ p + 1; omega) _
              clear hR9 hN9 I9
              have z0 : (w4.setCell ⟨p + 1, 0, none⟩ (.slice an9 r3.out.length cn9)).cell? ⟨w.heap.size, 0, none⟩ = some (.slice none 0 0) := run_cell K0.out rfl
              have z1 : (w4.setCell ⟨p + 1, 0, none⟩ (.slice an9 r3.out.length cn9)).cell? ⟨w.heap.size, 1, none⟩ = some (.slice none 0 0) := run_cell K0.out rfl
              have y0 : (w4.setCell ⟨p + 1, 0, none⟩ (.slice an9 r3.out.length cn9)).frozen? ⟨w.heap.size, 0, none⟩ = false := run_frozen K0.out
              have y1 : (w4.setCell ⟨p + 1, 0, none⟩ (.slice an9 r3.out.length cn9)).frozen? ⟨w.heap.size, 1, none⟩ = false := run_frozen K0.out
              have K1 := setTwo (u := (.slice none 0 0)) (v := (.slice none 0 0)) K0.out
              have rr0 : (((w4.setCell ⟨p + 1, 0, none⟩ (.slice an9 r3.out.length cn9)).setCell ⟨w.heap.size, 0, none⟩ (.slice none 0 0)).setCell ⟨w.heap.size, 1, none⟩ (.slice none 0 0)).cell? ⟨w.heap.size, 0, none⟩ = some (.slice none 0 0) := run_cell K1 rfl
              have rr1 : (((w4.setCell ⟨p + 1, 0, none⟩ (.slice an9 r3.out.length cn9)).setCell ⟨w.heap.size, 0, none⟩ (.slice none 0 0)).setCell ⟨w.heap.size, 1, none⟩ (.slice none 0 0)).cell? ⟨w.heap.size, 1, none⟩ = some (.slice none 0 0) := run_cell K1 rfl
              have HBr : Hid (Below w.heap.size w (((w4.setCell ⟨p + 1, 0, none⟩ (.slice an9 r3.out.length cn9)).setCell ⟨w.heap.size, 0, none⟩ (.slice none 0 0)).setCell ⟨w.heap.size, 1, none⟩ (.slice none 0 0))) := (HBl.out.setCell (p := ⟨w.heap.size, 0, none⟩) (Nat.le_refl _) _).setCell (p := ⟨w.heap.size, 1, none⟩) (Nat.le_refl _) _
              go_wp2
              (try simp only [Exit.inBlock, Exit.then])
              refine bodyPost_ret (by simp [results, Try.results36, go_sem, rr0, rr1]; try rfl) rfl ?_
              exact ⟨_, _, by rw [readB_none HV.out]; rfl, HBr.out, by rw [SurfR, readB_none HV.out]; exact ⟨rfl, rfl⟩⟩
            | false =>
              rw [hbad] at e3b
              have HPm : Hid (∀ q, q = suF tk fuelE .alts r3 [] → rulesR fuelE 250 tk f (wantR tk q.1 (s1 59)) (rs ++ [⟨t, [], q.2.getD 0⟩]) = parseB s) := fun q hq => HPn.out q hq hbad
              have HAa : Hid (AskS tk fuelE .alts r3) := askAlts HT2.out hat3 hd3 hol3
              have HI5 : Hid (SuI tk .alts r3 (suF tk fuelE .alts r3 [])) := HAa.out.I []
              have HAl : Hid (∀ _ : Unit, _) := fun _ => (allS fuelE).2.2 NoA p p lv tk r3 w4 HAa.out (fun b hb => hb.elim) (PrI.out P4.out I2.out HN2.out HO3.out).su
              have I4 : Hid (RsI p lv tk w r3 rs rv w4) := PrI.out P4.out I2.out HN2.out HO3.out
              have X4 : Hid (w4.heap[w2.heap.size]? = some (.cells #[.string t, (.slice none 0 0), .int .i64 0] 104 (0, 0))) := P4.out.xb
              have OB4 : Hid (OwnB p ((.slice none 0 0)) [] w4) := ownB_base P4.out.par P4.out.bw
              have hpw2 : p < w2.heap.size := hpw2a
              clear HPn HPx hbad P4
              obtain ⟨q, hq⟩ : ∃ q, q = suF tk fuelE .alts r3 [] := ⟨_, rfl⟩
              have HPq := HPm.out q hq
              rw [← hq] at HI5 HAl
              have HPq2 : Hid (rulesR fuelE 250 tk f (wantR tk q.1 (s1 59)) (rs ++ [⟨t, [], q.2.getD 0⟩]) = parseB s) := HPq
              clear hq HPm HPq
              go_wp2_with fail
              refine (HAl.out ()).mono ?_
              rintro e w5 ⟨rfl, hsu5, hf5⟩
              have I5 : Hid (RsI p lv tk w q.1 rs rv w5) := I4.out.step hsu5 hf5
              have X5 : w5.heap[w2.heap.size]? = some (.cells #[.string t, (.slice none 0 0), .int .i64 0] 104 (0, 0)) := hf5.typ _ _ _ _ X4.out (by decide)
              have P5 : OwnB p ((.slice none 0 0)) [] w5 := ownB_fr OB4.out hf5 (by decide)
              have x5c : w5.cell? ⟨w2.heap.size, 2, none⟩ = some (.int .i64 0) := run_cell X5 rfl
              have x5f : w5.frozen? ⟨w2.heap.size, 2, none⟩ = false := run_frozen X5
              have F6 : FrT [104] p w5 (w5.setCell ⟨w2.heap.size, 2, none⟩ (.int .i64 (q.2.getD 0))) := fr_set _ X5 (by simp) (by omega)
              have X6 : Hid ((w5.setCell ⟨w2.heap.size, 2, none⟩ (.int .i64 (q.2.getD 0))).heap[w2.heap.size]? = some (.cells #[.string t, (.slice none 0 0), .int .i64 (q.2.getD 0)] 104 (0, 0))) := by rw [Hid, setCell_self _ X5]; rfl
              have P6 : Hid (OwnB p ((.slice none 0 0)) [] (w5.setCell ⟨w2.heap.size, 2, none⟩ (.int .i64 (q.2.getD 0)))) := ownB_fr P5 F6 (by decide)
              have I6 : Hid (RsI p lv tk w q.1 rs rv (w5.setCell ⟨w2.heap.size, 2, none⟩ (.int .i64 (q.2.getD 0)))) := I5.out.boxed X5 HNe.out (by omega)
              clear hsu5 hf5 HAl I4 X4 OB4 X5 P5 F6
              go_wp2_with fail
              generalize w5.setCell ⟨w2.heap.size, 2, none⟩ (.int .i64 (q.2.getD 0)) = w6 at *
              clear x5c x5f I5
              obtain ⟨ov6, hR6, hN6⟩ := I6.out.su
              refine (want_any (B := p) p lv ov6 tk q.1 (s1 59) w6 hR6.pB (by have := HT2.out.len; omega) hR6.rd hR6.tok).mono ?_
              rintro e w7 ⟨rfl, h1, h2⟩
              have HO7 : Hid ((wantR tk q.1 (s1 59)).out = q.1.out) := (wantR_I tk q.1 (s1 59)).2.2.2.2
              have I7 : Hid (RsI p lv tk w (wantR tk q.1 (s1 59)) rs rv w7) := I6.out.step ⟨ov6, hR6.next h1 h2, by rw [HO7.out]; exact sNodes_rd hN6 h2⟩ (FrR.toS h2)
              have X7 : w7.heap[w2.heap.size]? = some (.cells #[.string t, (.slice none 0 0), .int .i64 (q.2.getD 0)] 104 (0, 0)) := h2.typ _ _ _ _ X6.out (by decide)
              have P7 : Hid (OwnB p ((.slice none 0 0)) [] w7) := ownB_fr P6.out h2 (by decide)
              have c70 := run_cell (j := 0) X7 rfl
              have c71 := run_cell (j := 1) X7 rfl
              have c72 := run_cell (j := 2) X7 rfl
              obtain ⟨ar, cr, rfl⟩ := RowO.slice I7.out.rul
              have o71 := run_cell (j := 1) I7.out.ob rfl
              have hp7 : p ≤ w7.heap.size := by obtain ⟨_, hR7, _⟩ := I7.out.su; exact hR7.lt
              have hrs : rs.length ≤ 250 := by omega
              obtain ⟨cs, hcs, hsn⟩ := RowO.snoc I7.out.rul
              have HCs : Hid (w7.ownsRow p 104 3 (.slice ar rs.length cr) rs.length cs) := hcs
              have HSn : Hid _ := hsn
              have HG5 : Hid (GoI tk r3 q.1 2) := HI5.out.go
              have HLe : Hid (q.1.at_ ≤ tk.length) := HI5.out.le
              clear h1 h2 hR6 hN6 I6 X6 P6 hcs hsn HI5
              go_wp2_with (at_builtin; refine wpList_append_lies _ rfl _ _ 79 rfl p 104 i0 _ 3 48 Try.underlying79 hi hz0 hz1 hz2 rfl (by decide) _ _ _ rfl (World.ownsRow.alloc HCs.out _) ⟨w7.heap.size, 0, none⟩ 1 1 [.string t, (.slice none 0 0), .int .i64 (q.2.getD 0)] rfl rfl (World.news_of_block (cs := #[.string t, (.slice none 0 0), .int .i64 (q.2.getD 0)]) (t := 104) (fr := (0, 0)) (heap_alloc_new w7 _)) (three11 _ _ _ _ _) (by omega) (by unfold maxLen; omega) (by omega) (by simp; omega) (w7.heap.size + 1) (by simp) ?_; intro gg cap w8 hown hgrow hat8 hlt8; have O8 := xb_grown hgrow (xb_alloc I7.out.ob (.cells #[.string t, (.slice none 0 0), .int .i64 (q.2.getD 0)] 104)) (own_offT HCs.out I7.out.ob (by decide)); have o8c := run_cell (j := 1) O8 rfl; have o8f := run_frozen (j := 1) O8)
              have I8 : Hid (RsI p lv tk w (wantR tk q.1 (s1 59)) (rs ++ [⟨t, [], q.2.getD 0⟩]) _ _) := I7.out.rule P7.out HCs.out HSn.out hown hgrow
              clear hown hgrow hat8 hlt8 O8 o8c o8f HCs HSn X7 c70 c71 c72 o71
              have HG7 : Hid (GoI tk r3 (wantR tk q.1 (s1 59)) 2) := HG5.out.trans (goI_want tk q.1 (s1 59))
              go_roundg f
              case measure => omega
              case rel =>
                have g1 := HG7.out.at1
                have g2 := HG7.out.at2
                have g3 := HG7.out.deep
                have g4 := HG7.out.siz
                exact ⟨_, _, _, HPq2.out, by omega, by omega, by omega, by omega, by omega, by rw [List.length_append, List.length_singleton]; omega, I8.out⟩
          | none =>
            rw [kindT, hk] at h1
            have HK1n : Hid (kindR tk r1 1 = none) := hk
            have R2 : Hid (RdS p p lv ov tk r1 w2) := HR.out.next h1 h2
            have HN2 : Hid (SNodesO NoA p ov r1.out w2) := sNodes_rd HN.out h2
            have I2 : Hid (RsI p lv tk w r1 rs rv w2) := IR.out.step ⟨ov, R2.out, HN2.out⟩ (FrR.toS h2)
            have HK6 : Hid (∀ _ : Unit, _) := fun _ => kind11_any (B := p) p lv ov tk r1 6 w2 R2.out.pB (by omega) R2.out.rd R2.out.tok R2.out.low
            clear h1 h2 hk IR HR HN e3 e1
            rw [HLv.out] at HK6
            go_wp2_with fail
            refine (HK6.out ()).mono ?_
            rintro e w3 ⟨rfl, h1, h2⟩
            rw [← HLv.out] at h1
            clear HK6
            cases hk : kindR tk r1 6 with
            | none =>
              rw [kindT, hk] at h1
              have HV : Hid (parseB s = none) := by rw [Hid, ← HE.out]; exact rulesR_not HBd.out hend HK1n.out hk
              have R3 : RdS p p lv ov tk r1 w3 := R2.out.next h1 h2
              have HN3 : Hid (SNodesO NoA p ov r1.out w3) := sNodes_rd HN2.out h2
              have I3 : Hid (RsI p lv tk w r1 rs rv w3) := I2.out.step ⟨ov, R3, HN3.out⟩ (FrR.toS h2)
              have hpw3a : p < w3.heap.size := rdb_lt R3.rd
              have bal : Below w3.heap.size w3 (w3.alloc (.cells #[.string em, .slice none 0 0, .int .i64 0] 104)) := (Below.refl _ _).alloc (Nat.le_refl _) _
              have P3 : Hid (PrI p lv ov tk w3 r1 em (.slice none 0 0) [] (w3.alloc (.cells #[.string em, .slice none 0 0, .int .i64 0] 104))) := ⟨R3.below bal, heap_alloc_new w3 _, ownB_nil11 _ _, FrT.below bal (Nat.le_of_lt hpw3a), bal.size, Nat.le_of_lt hpw3a⟩
              have HO3 : Hid ((wantR tk r1 arrow).out = r1.out) := (wantR_I tk r1 arrow).2.2.2.2
              have HWt : Hid (∀ (W : World), RdS p p lv ov tk r1 W → _) := fun W hR => want_any (B := p) p lv ov tk r1 arrow W hR.pB (by omega) hR.rd hR.tok
              clear h1 h2 hk HE R3 bal R2 HN2 I2
              generalize wantR tk r1 arrow = r3 at *
              go_wp2_with fail
              generalize w3.alloc (.cells #[.string em, .slice none 0 0, .int .i64 0] 104) = W3 at *
              go_quiet (fail)
              have P3d : Hid (PrI p lv ov tk w3 r1 em (.slice none 0 0) [] (W3.drewN nq)) := P3.out.rdr (rdb_drew P3.out.rds.rd nq) (frR_drew P3.out.rds.rd P3.out.rds.pB nq)
              clear P3
              generalize W3.drewN nq = W3d at *
              go_wp2_with fail
              refine (HWt.out W3d P3d.out.rds).mono ?_
              rintro e w4 ⟨rfl, h1, h2⟩
              have P4 : Hid (PrI p lv ov tk w3 r3 em (.slice none 0 0) [] w4) := P3d.out.rdr h1 h2
              clear h1 h2 HWt P3d
              have s3 : w4.cell? ⟨p, 3, none⟩ = some (.bool r3.bad) := run_cell P4.out.rds.rd rfl
              have sf : w4.frozen? ⟨p, 3, none⟩ = false := run_frozen P4.out.rds.rd
              have S5 := rdb_set (B := p) (j := 3) (u := .bool true) (r' := badR r3) P4.out.rds.rd P4.out.rds.pB rfl
              have P5 : Hid (PrI p lv ov tk w3 (badR r3) em (.slice none 0 0) [] (w4.setCell ⟨p, 3, none⟩ (.bool true))) := P4.out.rdr S5.1 S5.2
              have I9 : Hid (RsI p lv tk w (badR r3) rs rv (w4.setCell ⟨p, 3, none⟩ (.bool true))) := PrI.out P5.out I3.out HN3.out HO3.out
              have hbad : (badR r3).bad = true := rfl
              clear S5 P5 P4
              obtain ⟨ov9, hR9, hN9⟩ := I9.out.su
              obtain ⟨an9, cn9, rfl⟩ := RowO.slice hN9
              obtain ⟨ar9, cr9, rfl⟩ := RowO.slice I9.out.rul
              have m4 : (w4.setCell ⟨p, 3, none⟩ (.bool true)).cell? ⟨p, 4, none⟩ = some (.slice an9 (badR r3).out.length cn9) := run_cell hR9.rd rfl
              have m3 : (w4.setCell ⟨p, 3, none⟩ (.bool true)).cell? ⟨p, 3, none⟩ = some (.bool (badR r3).bad) := run_cell hR9.rd rfl
              rw [hbad] at m3
              have b0 : (w4.setCell ⟨p, 3, none⟩ (.bool true)).cell? ⟨p + 1, 0, none⟩ = some (.slice none 0 0) := run_cell I9.out.ob rfl
              have bf : (w4.setCell ⟨p, 3, none⟩ (.bool true)).frozen? ⟨p + 1, 0, none⟩ = false := run_frozen I9.out.ob
              have hlo9 := I9.out.lo
              have n3 : ((w4.setCell ⟨p, 3, none⟩ (.bool true)).setCell ⟨p + 1, 0, none⟩ (.slice an9 (badR r3).out.length cn9)).cell? ⟨p, 3, none⟩ = some (.bool true) := (World.cell?_of_block (setCell_other (k := p) _ (by omega))).trans m3
              have K0 : Hid (((w4.setCell ⟨p, 3, none⟩ (.bool true)).setCell ⟨p + 1, 0, none⟩ (.slice an9 (badR r3).out.length cn9)).heap[w.heap.size]? = some (.cells #[.slice none 0 0, .slice none 0 0] 81 (0, 0))) := (setCell_other (k := w.heap.size) _ (by omega)).trans I9.out.rc
              have HBl : Hid (Below w.heap.size w ((w4.setCell ⟨p, 3, none⟩ (.bool true)).setCell ⟨p + 1, 0, none⟩ (.slice an9 (badR r3).out.length cn9))) := I9.out.bel.setCell (p := ⟨p + 1, 0, none⟩) (by show w.heap.size ≤ p + 1; omega) _
              clear hR9 hN9 I9
              have z0 : ((w4.setCell ⟨p, 3, none⟩ (.bool true)).setCell ⟨p + 1, 0, none⟩ (.slice an9 (badR r3).out.length cn9)).cell? ⟨w.heap.size, 0, none⟩ = some (.slice none 0 0) := run_cell K0.out rfl
              have z1 : ((w4.setCell ⟨p, 3, none⟩ (.bool true)).setCell ⟨p + 1, 0, none⟩ (.slice an9 (badR r3).out.length cn9)).cell? ⟨w.heap.size, 1, none⟩ = some (.slice none 0 0) := run_cell K0.out rfl
              have y0 : ((w4.setCell ⟨p, 3, none⟩ (.bool true)).setCell ⟨p + 1, 0, none⟩ (.slice an9 (badR r3).out.length cn9)).frozen? ⟨w.heap.size, 0, none⟩ = false := run_frozen K0.out
              have y1 : ((w4.setCell ⟨p, 3, none⟩ (.bool true)).setCell ⟨p + 1, 0, none⟩ (.slice an9 (badR r3).out.length cn9)).frozen? ⟨w.heap.size, 1, none⟩ = false := run_frozen K0.out
              have K1 := setTwo (u := (.slice none 0 0)) (v := (.slice none 0 0)) K0.out
              have rr0 : ((((w4.setCell ⟨p, 3, none⟩ (.bool true)).setCell ⟨p + 1, 0, none⟩ (.slice an9 (badR r3).out.length cn9)).setCell ⟨w.heap.size, 0, none⟩ (.slice none 0 0)).setCell ⟨w.heap.size, 1, none⟩ (.slice none 0 0)).cell? ⟨w.heap.size, 0, none⟩ = some (.slice none 0 0) := run_cell K1 rfl
              have rr1 : ((((w4.setCell ⟨p, 3, none⟩ (.bool true)).setCell ⟨p + 1, 0, none⟩ (.slice an9 (badR r3).out.length cn9)).setCell ⟨w.heap.size, 0, none⟩ (.slice none 0 0)).setCell ⟨w.heap.size, 1, none⟩ (.slice none 0 0)).cell? ⟨w.heap.size, 1, none⟩ = some (.slice none 0 0) := run_cell K1 rfl
              have HBr : Hid (Below w.heap.size w ((((w4.setCell ⟨p, 3, none⟩ (.bool true)).setCell ⟨p + 1, 0, none⟩ (.slice an9 (badR r3).out.length cn9)).setCell ⟨w.heap.size, 0, none⟩ (.slice none 0 0)).setCell ⟨w.heap.size, 1, none⟩ (.slice none 0 0))) := (HBl.out.setCell (p := ⟨w.heap.size, 0, none⟩) (Nat.le_refl _) _).setCell (p := ⟨w.heap.size, 1, none⟩) (Nat.le_refl _) _
              go_wp2
              (try simp only [Exit.inBlock, Exit.then])
              refine bodyPost_ret (by simp [results, Try.results36, go_sem, rr0, rr1]; try rfl) rfl ?_
              exact ⟨_, _, by rw [readB_none HV.out]; rfl, HBr.out, by rw [SurfR, readB_none HV.out]; exact ⟨rfl, rfl⟩⟩
            | some t =>
              rw [kindT, hk] at h1
              have R3 : RdS p p lv ov tk (onR r1) w3 := R2.out.next h1 h2
              have HN3 : Hid (SNodesO NoA p ov (onR r1).out w3) := sNodes_rd HN2.out h2
              have I3 : Hid (RsI p lv tk w (onR r1) rs rv w3) := I2.out.step ⟨ov, R3, HN3.out⟩ (FrR.toS h2)
              have hpw3a : p < w3.heap.size := rdb_lt R3.rd
              have bal : Below w3.heap.size w3 (w3.alloc (.cells #[.string t, .slice none 0 0, .int .i64 0] 104)) := (Below.refl _ _).alloc (Nat.le_refl _) _
              have P3 : Hid (PrI p lv ov tk w3 (onR r1) t (.slice none 0 0) [] (w3.alloc (.cells #[.string t, .slice none 0 0, .int .i64 0] 104))) := ⟨R3.below bal, heap_alloc_new w3 _, ownB_nil11 _ _, FrT.below bal (Nat.le_of_lt hpw3a), bal.size, Nat.le_of_lt hpw3a⟩
              obtain ⟨hkl, hkd⟩ : ∃ hl : r1.at_ < tk.length, tk[r1.at_].kind = 6 := by
                obtain ⟨a, b, _⟩ := kindR_kind hk
                exact ⟨a, b⟩
              have HPx0 : Hid (parseB s = openR fuelE 250 tk f r1 rs t) := by rw [Hid, ← HE.out]; exact rulesR_open HK1n.out hk
              have htok := P3.out.rds.tok
              rw [HLv.out] at htok
              obtain ⟨tb, toff, tvs, htr, _, htc, htE⟩ := htok.at hkl
              obtain rfl : at_ = some ⟨tb, toff, none⟩ := by cases htr; rfl
              obtain rfl : tvs = [.int .i64 tk[r1.at_].kind, .string tk[r1.at_].text] := htE
              have t0 : (w3.alloc (.cells #[.string t, .slice none 0 0, .int .i64 0] 104)).cell? ⟨tb, toff + r1.at_ * 2, none⟩ = some (.int .i64 6) := by
                have := htc 0 (by simp)
                rw [List.getElem_cons_zero, hkd] at this
                exact this
              have l0 : (w3.alloc (.cells #[.string t, .slice none 0 0, .int .i64 0] 104)).cell? ⟨p, 0, none⟩ = some (.slice (some ⟨tb, toff, none⟩) tk.length ct_) := by
                rw [← HLv.out]
                exact run_cell P3.out.rds.rd rfl
              have l1 : (w3.alloc (.cells #[.string t, .slice none 0 0, .int .i64 0] 104)).cell? ⟨p, 1, none⟩ = some (.int .i64 ((r1.at_ : Int) + 1)) := run_cell P3.out.rds.rd rfl
              have wz : IntKind.i64.wrap ((r1.at_ : Int) + 1 - 1) = (r1.at_ : Int) := by rw [IntKind.wrap_i64]; omega
              have i6 : (r1.at_ : Int) < (tk.length : Int) := by omega
              have HQo : Hid (∀ (q : RdD) (ps : List ByteArray) (ok : Bool), parsR tk 250 (onR r1) [] true = (q, ps, ok) → parseB s = if ok = false ∨ (wantR tk (wantR tk q (s1 41)) arrow).bad = true then none else rulesR fuelE 250 tk f (wantR tk (suF tk fuelE .alts (wantR tk (wantR tk q (s1 41)) arrow) []).1 (s1 59)) (rs ++ [⟨t, ps, (suF tk fuelE .alts (wantR tk (wantR tk q (s1 41)) arrow) []).2.getD 0⟩])) := fun q ps ok h => HPx0.out.trans (openR_of h)
              have HNe : Hid (rv.ownBlock ≠ some w3.heap.size) := fun e => absurd (RowO.lt I3.out.rul _ e).2 (Nat.lt_irrefl _)
              clear h1 h2 hk HE R3 bal htok htc htr hkd R2 HN2 I2 HPx0 HK1n
              go_wp2_with fail
              generalize w3.alloc (.cells #[.string t, .slice none 0 0, .int .i64 0] 104) = W3 at *
              go_quiet (fail)
              have P3d : Hid (PrI p lv ov tk w3 (onR r1) t (.slice none 0 0) [] (W3.drewN nq)) := P3.out.rdr (rdb_drew P3.out.rds.rd nq) (frR_drew P3.out.rds.rd P3.out.rds.pB nq)
              clear P3 t0 l0 l1 wz i6
              generalize W3.drewN nq = W3d at *
              obtain ⟨qq, hqq⟩ : ∃ qq, qq = parsR tk 250 (onR r1) [] true := ⟨_, rfl⟩
              have HQq : Hid (parsR tk 250 (onR r1) [] true = qq) := hqq.symm
              rw [← hqq] at HQo
              clear hqq
              go_wp2
              go_loopg [9] 250 (fun gg kv wr => ∃ (r4 : RdD) (ps : List ByteArray) (pv : Value) (ok : Bool), kv = .bool ok ∧ parsR tk gg r4 ps ok = qq ∧ tk.length - r4.at_ < gg ∧ gg ≤ 250 ∧ r4.at_ ≤ tk.length ∧ r1.at_ + 1 ≤ r4.at_ ∧ r4.deep = 0 ∧ r4.out = (onR r1).out ∧ ps.length + gg ≤ 250 ∧ PrI p lv ov tk w3 r4 t pv ps wr)
              case atStart => exact ⟨onR r1, [], _, true, rfl, HQq.out, by show tk.length - (r1.at_ + 1) < 250; omega, Nat.le_refl _, hkl, Nat.le_refl _, hdp, rfl, by simp, P3d.out⟩
              case round =>
                obtain ⟨r4, ps, pv, ok, rfl, hE4, hl4, hg4, ha4, hb4, hd4, ho4, hps, hP4⟩ := hrel
                obtain ⟨f4, rfl⟩ : ∃ f4, gk = f4 + 1 := ⟨gk - 1, by omega⟩
                have HE4 : Hid (_ = qq) := (parsR_eq tk f4 r4 ps ok).symm.trans hE4
                have HK4 : Hid (∀ _ : Unit, _) := fun _ => kind11_any (B := p) p lv ov tk r4 1 wr hP4.rds.pB (by omega) hP4.rds.rd hP4.rds.tok hP4.rds.low
                have HP4 : Hid (PrI p lv ov tk w3 r4 t pv ps wr) := hP4
                have HG5 : Hid (GoI tk r4 (kindT tk r4 1) 0) := goI_kind tk r4 1
                have HO5 : Hid ((kindT tk r4 1).out = (onR r1).out) := (kindT_out tk r4 1).trans ho4
                have h5a := HG5.out.at1
                have h5b : (kindT tk r4 1).at_ ≤ tk.length := by have := HG5.out.at2; omega
                have H5d : Hid ((kindT tk r4 1).deep = 0) := HG5.out.deep.trans hd4
                clear hE4 hP4 ho4 P3d HQq HG5 hd4
                generalize kindT tk r4 1 = r5 at *
                generalize (kindR tk r4 1).getD em = t4 at *
                generalize (kindR tk r4 1).isSome = m4 at *
                obtain ⟨pa, pc, rfl⟩ := ownB_form HP4.out.par
                go_wp2_with fail
                refine (HK4.out ()).mono ?_
                rintro e w4 ⟨rfl, h1, h2⟩
                have P4 : Hid (PrI p lv ov tk w3 r5 t (.slice pa ps.length pc) ps w4) := HP4.out.rdr h1 h2
                clear h1 h2 HK4 HP4
                have x41 := run_cell (j := 1) P4.out.xb rfl
                have hsz4 : w3.heap.size ≤ w4.heap.size := P4.out.size
                have hpsl : ps.length ≤ 250 := by omega
                have HSg : Hid (∀ (W : World), RdS p p lv ov tk r5 W → _) := fun W hR => sign_any (B := p) p lv ov tk r5 (s1 44) W hR.pB (by omega) hR.rd hR.tok
                cases ok with
                | true =>
                  rw [Bool.true_and] at HE4
                  go_wp2_with (at_builtin; refine wpList_append_lies _ rfl _ _ 37 rfl w3.heap.size 9 j0 _ 1 16 Try.underlying37 hj hj0 hj1 hj2 rfl (by decide) _ _ _ rfl (World.ownsRow.alloc P4.out.par _) ⟨w4.heap.size, 0, none⟩ 1 1 [.string t4] rfl rfl (cell_one_new _ _ _) (one_str11 _) (by omega) (by unfold maxLen; omega) (by omega) (by simp; omega) (w4.heap.size + 1) (by simp) ?_; intro gg cap w8 hown hgrow hat8 hlt8; have O8 := xb_grown hgrow (xb_alloc P4.out.xb (.cells #[.string t4] 9)) (own_offT P4.out.par P4.out.xb (by decide)); have o8c := run_cell (j := 1) O8 rfl; have o8f := run_frozen (j := 1) O8)
                  have P8 : Hid (PrI p lv ov tk w3 r5 t _ (ps ++ [t4]) _) := PrI.more P4.out hpw3a hown hgrow
                  clear hown hgrow hat8 hlt8 O8 o8c o8f x41 P4
                  generalize w8.setCell ⟨w3.heap.size, 1, none⟩ (.slice (some ⟨gg, 0, none⟩) (ps.length + 1) cap) = w9 at *
                  generalize hpv9 : Value.slice (some ⟨gg, 0, none⟩) (ps.length + 1) cap = pv9 at *
                  go_wp2_with fail
                  refine (HSg.out w9 P8.out.rds).mono ?_
                  rintro e w10 ⟨rfl, h1, h2⟩
                  clear HSg
                  cases hs : isT tk r5 (s1 44) with
                  | true =>
                    rw [signR, if_pos hs] at h1
                    have P10 : Hid (PrI p lv ov tk w3 (onR r5) t pv9 (ps ++ [t4]) w10) := P8.out.rdr h1 h2
                    have HE5 : Hid (parsR tk f4 (onR r5) (ps ++ [t4]) m4 = qq) := by
                      have := HE4.out
                      rwa [if_pos hs] at this
                    have hl5 := isT_lt hs
                    clear h1 h2 hs P8 HE4
                    go_wp2
                    go_roundg f4
                    case measure => omega
                    case rel => exact ⟨onR r5, ps ++ [t4], pv9, m4, rfl, HE5.out, by show tk.length - (r5.at_ + 1) < f4; omega, by omega, by show r5.at_ + 1 ≤ tk.length; omega, by show r1.at_ + 1 ≤ r5.at_ + 1; omega, H5d.out, HO5.out, by rw [List.length_append, List.length_singleton]; omega, P10.out⟩
                  | false =>
                    rw [signR, if_neg (by rw [hs]; decide)] at h1
                    have P10 : Hid (PrI p lv ov tk w3 r5 t pv9 (ps ++ [t4]) w10) := P8.out.rdr h1 h2
                    have HQ5 := HQo.out r5 (ps ++ [t4]) m4 (by
                      have := HE4.out
                      rw [if_neg (by rw [hs]; decide)] at this
                      exact this.symm)
                    have HQ6 : Hid (parseB s = _) := HQ5
                    have HO3 : Hid ((wantR tk (wantR tk r5 (s1 41)) arrow).out = (onR r1).out) := ((wantR_I tk (wantR tk r5 (s1 41)) arrow).2.2.2.2.trans (wantR_I tk r5 (s1 41)).2.2.2.2).trans HO5.out
                    have HGw : Hid (GoI tk r5 (wantR tk (wantR tk r5 (s1 41)) arrow) 0) := (goI_want tk r5 (s1 41)).trans (goI_want tk (wantR tk r5 (s1 41)) arrow)
                    have HW1 : Hid (∀ (W : World), RdS p p lv ov tk r5 W → _) := fun W hR => want_any (B := p) p lv ov tk r5 (s1 41) W hR.pB (by omega) hR.rd hR.tok
                    have HW2 : Hid (∀ (W : World), RdS p p lv ov tk (wantR tk r5 (s1 41)) W → _) := fun W hR => want_any (B := p) p lv ov tk (wantR tk r5 (s1 41)) arrow W hR.pB (by omega) hR.rd hR.tok
                    have hat3 : (wantR tk (wantR tk r5 (s1 41)) arrow).at_ ≤ tk.length := by have := HGw.out.at2; omega
                    have h3at : r1.at_ + 1 ≤ (wantR tk (wantR tk r5 (s1 41)) arrow).at_ := by have := HGw.out.at1; omega
                    have hd3 : (wantR tk (wantR tk r5 (s1 41)) arrow).deep = 0 := HGw.out.deep.trans H5d.out
                    have h3o : (wantR tk (wantR tk r5 (s1 41)) arrow).out.length ≤ r1.out.length := by rw [HO3.out]; exact Nat.le_refl _
                    have hol3 : (wantR tk (wantR tk r5 (s1 41)) arrow).out.length ≤ 4 * (wantR tk (wantR tk r5 (s1 41)) arrow).at_ + 8 := by omega
                    clear h1 h2 hs P8 HE4 HQ5 HQo HGw H5d HO5
                    generalize wantR tk (wantR tk r5 (s1 41)) arrow = r3 at *
                    generalize wantR tk r5 (s1 41) = r6 at *
                    go_wp2_with fail
                    refine (HW1.out w10 P10.out.rds).mono ?_
                    rintro e w11 ⟨rfl, h1, h2⟩
                    have P11 : Hid (PrI p lv ov tk w3 r6 t pv9 (ps ++ [t4]) w11) := P10.out.rdr h1 h2
                    clear h1 h2 P10 HW1
                    go_wp2_with fail
                    refine (HW2.out w11 P11.out.rds).mono ?_
                    rintro e w4 ⟨rfl, h1, h2⟩
                    have P4 : Hid (PrI p lv ov tk w3 r3 t pv9 (ps ++ [t4]) w4) := P11.out.rdr h1 h2
                    clear h1 h2 P11 HW2
                    cases m4 with
                    | false =>
                      have HV : Hid (parseB s = none) := by rw [Hid, HQ6.out, if_pos (by simp)]
                      clear HQ6
                      have s3 : w4.cell? ⟨p, 3, none⟩ = some (.bool r3.bad) := run_cell P4.out.rds.rd rfl
                      have sf : w4.frozen? ⟨p, 3, none⟩ = false := run_frozen P4.out.rds.rd
                      have S5 := rdb_set (B := p) (j := 3) (u := .bool true) (r' := badR r3) P4.out.rds.rd P4.out.rds.pB rfl
                      have P5 : Hid (PrI p lv ov tk w3 (badR r3) t pv9 (ps ++ [t4]) (w4.setCell ⟨p, 3, none⟩ (.bool true))) := P4.out.rdr S5.1 S5.2
                      have I9 : Hid (RsI p lv tk w (badR r3) rs rv (w4.setCell ⟨p, 3, none⟩ (.bool true))) := PrI.out P5.out I3.out HN3.out HO3.out
                      have hbad : (badR r3).bad = true := rfl
                      clear S5 P5 P4
                      obtain ⟨ov9, hR9, hN9⟩ := I9.out.su
                      obtain ⟨an9, cn9, rfl⟩ := RowO.slice hN9
                      obtain ⟨ar9, cr9, rfl⟩ := RowO.slice I9.out.rul
                      have m4 : (w4.setCell ⟨p, 3, none⟩ (.bool true)).cell? ⟨p, 4, none⟩ = some (.slice an9 (badR r3).out.length cn9) := run_cell hR9.rd rfl
                      have m3 : (w4.setCell ⟨p, 3, none⟩ (.bool true)).cell? ⟨p, 3, none⟩ = some (.bool (badR r3).bad) := run_cell hR9.rd rfl
                      rw [hbad] at m3
                      have b0 : (w4.setCell ⟨p, 3, none⟩ (.bool true)).cell? ⟨p + 1, 0, none⟩ = some (.slice none 0 0) := run_cell I9.out.ob rfl
                      have bf : (w4.setCell ⟨p, 3, none⟩ (.bool true)).frozen? ⟨p + 1, 0, none⟩ = false := run_frozen I9.out.ob
                      have hlo9 := I9.out.lo
                      have n3 : ((w4.setCell ⟨p, 3, none⟩ (.bool true)).setCell ⟨p + 1, 0, none⟩ (.slice an9 (badR r3).out.length cn9)).cell? ⟨p, 3, none⟩ = some (.bool true) := (World.cell?_of_block (setCell_other (k := p) _ (by omega))).trans m3
                      have K0 : Hid (((w4.setCell ⟨p, 3, none⟩ (.bool true)).setCell ⟨p + 1, 0, none⟩ (.slice an9 (badR r3).out.length cn9)).heap[w.heap.size]? = some (.cells #[.slice none 0 0, .slice none 0 0] 81 (0, 0))) := (setCell_other (k := w.heap.size) _ (by omega)).trans I9.out.rc
                      have HBl : Hid (Below w.heap.size w ((w4.setCell ⟨p, 3, none⟩ (.bool true)).setCell ⟨p + 1, 0, none⟩ (.slice an9 (badR r3).out.length cn9))) := I9.out.bel.setCell (p := ⟨p + 1, 0, none⟩) (by show w.heap.size ≤ p + 1; omega) _
                      clear hR9 hN9 I9
                      have z0 : ((w4.setCell ⟨p, 3, none⟩ (.bool true)).setCell ⟨p + 1, 0, none⟩ (.slice an9 (badR r3).out.length cn9)).cell? ⟨w.heap.size, 0, none⟩ = some (.slice none 0 0) := run_cell K0.out rfl
                      have z1 : ((w4.setCell ⟨p, 3, none⟩ (.bool true)).setCell ⟨p + 1, 0, none⟩ (.slice an9 (badR r3).out.length cn9)).cell? ⟨w.heap.size, 1, none⟩ = some (.slice none 0 0) := run_cell K0.out rfl
                      have y0 : ((w4.setCell ⟨p, 3, none⟩ (.bool true)).setCell ⟨p + 1, 0, none⟩ (.slice an9 (badR r3).out.length cn9)).frozen? ⟨w.heap.size, 0, none⟩ = false := run_frozen K0.out
                      have y1 : ((w4.setCell ⟨p, 3, none⟩ (.bool true)).setCell ⟨p + 1, 0, none⟩ (.slice an9 (badR r3).out.length cn9)).frozen? ⟨w.heap.size, 1, none⟩ = false := run_frozen K0.out
                      have K1 := setTwo (u := (.slice none 0 0)) (v := (.slice none 0 0)) K0.out
                      have rr0 : ((((w4.setCell ⟨p, 3, none⟩ (.bool true)).setCell ⟨p + 1, 0, none⟩ (.slice an9 (badR r3).out.length cn9)).setCell ⟨w.heap.size, 0, none⟩ (.slice none 0 0)).setCell ⟨w.heap.size, 1, none⟩ (.slice none 0 0)).cell? ⟨w.heap.size, 0, none⟩ = some (.slice none 0 0) := run_cell K1 rfl
                      have rr1 : ((((w4.setCell ⟨p, 3, none⟩ (.bool true)).setCell ⟨p + 1, 0, none⟩ (.slice an9 (badR r3).out.length cn9)).setCell ⟨w.heap.size, 0, none⟩ (.slice none 0 0)).setCell ⟨w.heap.size, 1, none⟩ (.slice none 0 0)).cell? ⟨w.heap.size, 1, none⟩ = some (.slice none 0 0) := run_cell K1 rfl
                      have HBr : Hid (Below w.heap.size w ((((w4.setCell ⟨p, 3, none⟩ (.bool true)).setCell ⟨p + 1, 0, none⟩ (.slice an9 (badR r3).out.length cn9)).setCell ⟨w.heap.size, 0, none⟩ (.slice none 0 0)).setCell ⟨w.heap.size, 1, none⟩ (.slice none 0 0))) := (HBl.out.setCell (p := ⟨w.heap.size, 0, none⟩) (Nat.le_refl _) _).setCell (p := ⟨w.heap.size, 1, none⟩) (Nat.le_refl _) _
                      go_wp2
                      (try simp only [Exit.inBlock, Exit.then])
                      refine bodyPost_ret (by simp [results, Try.results36, go_sem, rr0, rr1]; try rfl) rfl ?_
                      exact ⟨_, _, by rw [readB_none HV.out]; rfl, HBr.out, by rw [SurfR, readB_none HV.out]; exact ⟨rfl, rfl⟩⟩
                    | true =>
                      have HPx : Hid (r3.bad = true → parseB s = none) := fun hb => by rw [HQ6.out, if_pos (.inr hb)]
                      have HPn : Hid (∀ q, q = suF tk fuelE .alts r3 [] → r3.bad = false → rulesR fuelE 250 tk f (wantR tk q.1 (s1 59)) (rs ++ [⟨t, (ps ++ [t4]), q.2.getD 0⟩]) = parseB s) := fun q hq hb => by rw [HQ6.out, if_neg (by rw [hb]; decide), hq]
                      clear HQ6
                      generalize ps ++ [t4] = ps9 at *
                      obtain ⟨pb9, pc9, rfl⟩ := ownB_form P4.out.par
                      have e3b : w4.cell? ⟨p, 3, none⟩ = some (.bool r3.bad) := run_cell P4.out.rds.rd rfl
                      cases hbad : r3.bad with
                      | true =>
                        have HV : Hid (parseB s = none) := HPx.out hbad
                        have I9 : Hid (RsI p lv tk w r3 rs rv w4) := PrI.out P4.out I3.out HN3.out HO3.out
                        rw [hbad] at e3b
                        clear HPn HPx
                        obtain ⟨ov9, hR9, hN9⟩ := I9.out.su
                        obtain ⟨an9, cn9, rfl⟩ := RowO.slice hN9
                        obtain ⟨ar9, cr9, rfl⟩ := RowO.slice I9.out.rul
                        have m4 : w4.cell? ⟨p, 4, none⟩ = some (.slice an9 r3.out.length cn9) := run_cell hR9.rd rfl
                        have m3 : w4.cell? ⟨p, 3, none⟩ = some (.bool r3.bad) := run_cell hR9.rd rfl
                        rw [hbad] at m3
                        have b0 : w4.cell? ⟨p + 1, 0, none⟩ = some (.slice none 0 0) := run_cell I9.out.ob rfl
                        have bf : w4.frozen? ⟨p + 1, 0, none⟩ = false := run_frozen I9.out.ob
                        have hlo9 := I9.out.lo
                        have n3 : (w4.setCell ⟨p + 1, 0, none⟩ (.slice an9 r3.out.length cn9)).cell? ⟨p, 3, none⟩ = some (.bool true) := (World.cell?_of_block (setCell_other (k := p) _ (by omega))).trans m3
                        have K0 : Hid ((w4.setCell ⟨p + 1, 0, none⟩ (.slice an9 r3.out.length cn9)).heap[w.heap.size]? = some (.cells #[.slice none 0 0, .slice none 0 0] 81 (0, 0))) := (setCell_other (k := w.heap.size) _ (by omega)).trans I9.out.rc
                        have HBl : Hid (Below w.heap.size w (w4.setCell ⟨p + 1, 0, none⟩ (.slice an9 r3.out.length cn9))) := I9.out.bel.setCell (p := ⟨p + 1, 0, none⟩) (by show w.heap.size ≤ p + 1; omega) _
                        clear hR9 hN9 I9
                        have z0 : (w4.setCell ⟨p + 1, 0, none⟩ (.slice an9 r3.out.length cn9)).cell? ⟨w.heap.size, 0, none⟩ = some (.slice none 0 0) := run_cell K0.out rfl
                        have z1 : (w4.setCell ⟨p + 1, 0, none⟩ (.slice an9 r3.out.length cn9)).cell? ⟨w.heap.size, 1, none⟩ = some (.slice none 0 0) := run_cell K0.out rfl
                        have y0 : (w4.setCell ⟨p + 1, 0, none⟩ (.slice an9 r3.out.length cn9)).frozen? ⟨w.heap.size, 0, none⟩ = false := run_frozen K0.out
                        have y1 : (w4.setCell ⟨p + 1, 0, none⟩ (.slice an9 r3.out.length cn9)).frozen? ⟨w.heap.size, 1, none⟩ = false := run_frozen K0.out
                        have K1 := setTwo (u := (.slice none 0 0)) (v := (.slice none 0 0)) K0.out
                        have rr0 : (((w4.setCell ⟨p + 1, 0, none⟩ (.slice an9 r3.out.length cn9)).setCell ⟨w.heap.size, 0, none⟩ (.slice none 0 0)).setCell ⟨w.heap.size, 1, none⟩ (.slice none 0 0)).cell? ⟨w.heap.size, 0, none⟩ = some (.slice none 0 0) := run_cell K1 rfl
                        have rr1 : (((w4.setCell ⟨p + 1, 0, none⟩ (.slice an9 r3.out.length cn9)).setCell ⟨w.heap.size, 0, none⟩ (.slice none 0 0)).setCell ⟨w.heap.size, 1, none⟩ (.slice none 0 0)).cell? ⟨w.heap.size, 1, none⟩ = some (.slice none 0 0) := run_cell K1 rfl
                        have HBr : Hid (Below w.heap.size w (((w4.setCell ⟨p + 1, 0, none⟩ (.slice an9 r3.out.length cn9)).setCell ⟨w.heap.size, 0, none⟩ (.slice none 0 0)).setCell ⟨w.heap.size, 1, none⟩ (.slice none 0 0))) := (HBl.out.setCell (p := ⟨w.heap.size, 0, none⟩) (Nat.le_refl _) _).setCell (p := ⟨w.heap.size, 1, none⟩) (Nat.le_refl _) _
                        go_wp2
                        (try simp only [Exit.inBlock, Exit.then])
                        refine bodyPost_ret (by simp [results, Try.results36, go_sem, rr0, rr1]; try rfl) rfl ?_
                        exact ⟨_, _, by rw [readB_none HV.out]; rfl, HBr.out, by rw [SurfR, readB_none HV.out]; exact ⟨rfl, rfl⟩⟩
                      | false =>
                        rw [hbad] at e3b
                        have HPm : Hid (∀ q, q = suF tk fuelE .alts r3 [] → rulesR fuelE 250 tk f (wantR tk q.1 (s1 59)) (rs ++ [⟨t, ps9, q.2.getD 0⟩]) = parseB s) := fun q hq => HPn.out q hq hbad
                        have HAa : Hid (AskS tk fuelE .alts r3) := askAlts HT2.out hat3 hd3 hol3
                        have HI5 : Hid (SuI tk .alts r3 (suF tk fuelE .alts r3 [])) := HAa.out.I []
                        have HAl : Hid (∀ _ : Unit, _) := fun _ => (allS fuelE).2.2 NoA p p lv tk r3 w4 HAa.out (fun b hb => hb.elim) (PrI.out P4.out I3.out HN3.out HO3.out).su
                        have I4 : Hid (RsI p lv tk w r3 rs rv w4) := PrI.out P4.out I3.out HN3.out HO3.out
                        have X4 : Hid (w4.heap[w3.heap.size]? = some (.cells #[.string t, (.slice pb9 ps9.length pc9), .int .i64 0] 104 (0, 0))) := P4.out.xb
                        have OB4 : Hid (OwnB p ((.slice pb9 ps9.length pc9)) ps9 w4) := ownB_base P4.out.par P4.out.bw
                        have hpw3 : p < w3.heap.size := hpw3a
                        clear HPn HPx hbad P4
                        obtain ⟨q, hq⟩ : ∃ q, q = suF tk fuelE .alts r3 [] := ⟨_, rfl⟩
                        have HPq := HPm.out q hq
                        rw [← hq] at HI5 HAl
                        have HPq2 : Hid (rulesR fuelE 250 tk f (wantR tk q.1 (s1 59)) (rs ++ [⟨t, ps9, q.2.getD 0⟩]) = parseB s) := HPq
                        clear hq HPm HPq
                        go_wp2_with fail
                        refine (HAl.out ()).mono ?_
                        rintro e w5 ⟨rfl, hsu5, hf5⟩
                        have I5 : Hid (RsI p lv tk w q.1 rs rv w5) := I4.out.step hsu5 hf5
                        have X5 : w5.heap[w3.heap.size]? = some (.cells #[.string t, (.slice pb9 ps9.length pc9), .int .i64 0] 104 (0, 0)) := hf5.typ _ _ _ _ X4.out (by decide)
                        have P5 : OwnB p ((.slice pb9 ps9.length pc9)) ps9 w5 := ownB_fr OB4.out hf5 (by decide)
                        have x5c : w5.cell? ⟨w3.heap.size, 2, none⟩ = some (.int .i64 0) := run_cell X5 rfl
                        have x5f : w5.frozen? ⟨w3.heap.size, 2, none⟩ = false := run_frozen X5
                        have F6 : FrT [104] p w5 (w5.setCell ⟨w3.heap.size, 2, none⟩ (.int .i64 (q.2.getD 0))) := fr_set _ X5 (by simp) (by omega)
                        have X6 : Hid ((w5.setCell ⟨w3.heap.size, 2, none⟩ (.int .i64 (q.2.getD 0))).heap[w3.heap.size]? = some (.cells #[.string t, (.slice pb9 ps9.length pc9), .int .i64 (q.2.getD 0)] 104 (0, 0))) := by rw [Hid, setCell_self _ X5]; rfl
                        have P6 : Hid (OwnB p ((.slice pb9 ps9.length pc9)) ps9 (w5.setCell ⟨w3.heap.size, 2, none⟩ (.int .i64 (q.2.getD 0)))) := ownB_fr P5 F6 (by decide)
                        have I6 : Hid (RsI p lv tk w q.1 rs rv (w5.setCell ⟨w3.heap.size, 2, none⟩ (.int .i64 (q.2.getD 0)))) := I5.out.boxed X5 HNe.out (by omega)
                        clear hsu5 hf5 HAl I4 X4 OB4 X5 P5 F6
                        go_wp2_with fail
                        generalize w5.setCell ⟨w3.heap.size, 2, none⟩ (.int .i64 (q.2.getD 0)) = w6 at *
                        clear x5c x5f I5
                        obtain ⟨ov6, hR6, hN6⟩ := I6.out.su
                        refine (want_any (B := p) p lv ov6 tk q.1 (s1 59) w6 hR6.pB (by have := HT2.out.len; omega) hR6.rd hR6.tok).mono ?_
                        rintro e w7 ⟨rfl, h1, h2⟩
                        have HO7 : Hid ((wantR tk q.1 (s1 59)).out = q.1.out) := (wantR_I tk q.1 (s1 59)).2.2.2.2
                        have I7 : Hid (RsI p lv tk w (wantR tk q.1 (s1 59)) rs rv w7) := I6.out.step ⟨ov6, hR6.next h1 h2, by rw [HO7.out]; exact sNodes_rd hN6 h2⟩ (FrR.toS h2)
                        have X7 : w7.heap[w3.heap.size]? = some (.cells #[.string t, (.slice pb9 ps9.length pc9), .int .i64 (q.2.getD 0)] 104 (0, 0)) := h2.typ _ _ _ _ X6.out (by decide)
                        have P7 : Hid (OwnB p ((.slice pb9 ps9.length pc9)) ps9 w7) := ownB_fr P6.out h2 (by decide)
                        have c70 := run_cell (j := 0) X7 rfl
                        have c71 := run_cell (j := 1) X7 rfl
                        have c72 := run_cell (j := 2) X7 rfl
                        obtain ⟨ar, cr, rfl⟩ := RowO.slice I7.out.rul
                        have o71 := run_cell (j := 1) I7.out.ob rfl
                        have hp7 : p ≤ w7.heap.size := by obtain ⟨_, hR7, _⟩ := I7.out.su; exact hR7.lt
                        have hrs : rs.length ≤ 250 := by omega
                        obtain ⟨cs, hcs, hsn⟩ := RowO.snoc I7.out.rul
                        have HCs : Hid (w7.ownsRow p 104 3 (.slice ar rs.length cr) rs.length cs) := hcs
                        have HSn : Hid _ := hsn
                        have HG5 : Hid (GoI tk r3 q.1 2) := HI5.out.go
                        have HLe : Hid (q.1.at_ ≤ tk.length) := HI5.out.le
                        clear h1 h2 hR6 hN6 I6 X6 P6 hcs hsn HI5
                        go_wp2_with (at_builtin; refine wpList_append_lies _ rfl _ _ 79 rfl p 104 i0 _ 3 48 Try.underlying79 hi hz0 hz1 hz2 rfl (by decide) _ _ _ rfl (World.ownsRow.alloc HCs.out _) ⟨w7.heap.size, 0, none⟩ 1 1 [.string t, (.slice pb9 ps9.length pc9), .int .i64 (q.2.getD 0)] rfl rfl (World.news_of_block (cs := #[.string t, (.slice pb9 ps9.length pc9), .int .i64 (q.2.getD 0)]) (t := 104) (fr := (0, 0)) (heap_alloc_new w7 _)) (three11 _ _ _ _ _) (by omega) (by unfold maxLen; omega) (by omega) (by simp; omega) (w7.heap.size + 1) (by simp) ?_; intro gg cap w8 hown hgrow hat8 hlt8; have O8 := xb_grown hgrow (xb_alloc I7.out.ob (.cells #[.string t, (.slice pb9 ps9.length pc9), .int .i64 (q.2.getD 0)] 104)) (own_offT HCs.out I7.out.ob (by decide)); have o8c := run_cell (j := 1) O8 rfl; have o8f := run_frozen (j := 1) O8)
                        have I8 : Hid (RsI p lv tk w (wantR tk q.1 (s1 59)) (rs ++ [⟨t, ps9, q.2.getD 0⟩]) _ _) := I7.out.rule P7.out HCs.out HSn.out hown hgrow
                        clear hown hgrow hat8 hlt8 O8 o8c o8f HCs HSn X7 c70 c71 c72 o71
                        have HG7 : Hid (GoI tk r3 (wantR tk q.1 (s1 59)) 2) := HG5.out.trans (goI_want tk q.1 (s1 59))
                        go_roundg f
                        case measure => omega
                        case rel =>
                          have g1 := HG7.out.at1
                          have g2 := HG7.out.at2
                          have g3 := HG7.out.deep
                          have g4 := HG7.out.siz
                          exact ⟨_, _, _, HPq2.out, by omega, by omega, by omega, by omega, by omega, by rw [List.length_append, List.length_singleton]; omega, I8.out⟩
                | false =>
                  rw [Bool.false_and] at HE4
                  go_wp2_with (at_builtin; refine wpList_append_lies _ rfl _ _ 37 rfl w3.heap.size 9 j0 _ 1 16 Try.underlying37 hj hj0 hj1 hj2 rfl (by decide) _ _ _ rfl (World.ownsRow.alloc P4.out.par _) ⟨w4.heap.size, 0, none⟩ 1 1 [.string t4] rfl rfl (cell_one_new _ _ _) (one_str11 _) (by omega) (by unfold maxLen; omega) (by omega) (by simp; omega) (w4.heap.size + 1) (by simp) ?_; intro gg cap w8 hown hgrow hat8 hlt8; have O8 := xb_grown hgrow (xb_alloc P4.out.xb (.cells #[.string t4] 9)) (own_offT P4.out.par P4.out.xb (by decide)); have o8c := run_cell (j := 1) O8 rfl; have o8f := run_frozen (j := 1) O8)
                  have P8 : Hid (PrI p lv ov tk w3 r5 t _ (ps ++ [t4]) _) := PrI.more P4.out hpw3a hown hgrow
                  clear hown hgrow hat8 hlt8 O8 o8c o8f x41 P4
                  generalize w8.setCell ⟨w3.heap.size, 1, none⟩ (.slice (some ⟨gg, 0, none⟩) (ps.length + 1) cap) = w9 at *
                  generalize hpv9 : Value.slice (some ⟨gg, 0, none⟩) (ps.length + 1) cap = pv9 at *
                  go_wp2_with fail
                  refine (HSg.out w9 P8.out.rds).mono ?_
                  rintro e w10 ⟨rfl, h1, h2⟩
                  clear HSg
                  cases hs : isT tk r5 (s1 44) with
                  | true =>
                    rw [signR, if_pos hs] at h1
                    have P10 : Hid (PrI p lv ov tk w3 (onR r5) t pv9 (ps ++ [t4]) w10) := P8.out.rdr h1 h2
                    have HE5 : Hid (parsR tk f4 (onR r5) (ps ++ [t4]) false = qq) := by
                      have := HE4.out
                      rwa [if_pos hs] at this
                    have hl5 := isT_lt hs
                    clear h1 h2 hs P8 HE4
                    go_wp2
                    go_roundg f4
                    case measure => omega
                    case rel => exact ⟨onR r5, ps ++ [t4], pv9, false, rfl, HE5.out, by show tk.length - (r5.at_ + 1) < f4; omega, by omega, by show r5.at_ + 1 ≤ tk.length; omega, by show r1.at_ + 1 ≤ r5.at_ + 1; omega, H5d.out, HO5.out, by rw [List.length_append, List.length_singleton]; omega, P10.out⟩
                  | false =>
                    rw [signR, if_neg (by rw [hs]; decide)] at h1
                    have P10 : Hid (PrI p lv ov tk w3 r5 t pv9 (ps ++ [t4]) w10) := P8.out.rdr h1 h2
                    have HQ5 := HQo.out r5 (ps ++ [t4]) false (by
                      have := HE4.out
                      rw [if_neg (by rw [hs]; decide)] at this
                      exact this.symm)
                    have HQ6 : Hid (parseB s = _) := HQ5
                    have HO3 : Hid ((wantR tk (wantR tk r5 (s1 41)) arrow).out = (onR r1).out) := ((wantR_I tk (wantR tk r5 (s1 41)) arrow).2.2.2.2.trans (wantR_I tk r5 (s1 41)).2.2.2.2).trans HO5.out
                    have HGw : Hid (GoI tk r5 (wantR tk (wantR tk r5 (s1 41)) arrow) 0) := (goI_want tk r5 (s1 41)).trans (goI_want tk (wantR tk r5 (s1 41)) arrow)
                    have HW1 : Hid (∀ (W : World), RdS p p lv ov tk r5 W → _) := fun W hR => want_any (B := p) p lv ov tk r5 (s1 41) W hR.pB (by omega) hR.rd hR.tok
                    have HW2 : Hid (∀ (W : World), RdS p p lv ov tk (wantR tk r5 (s1 41)) W → _) := fun W hR => want_any (B := p) p lv ov tk (wantR tk r5 (s1 41)) arrow W hR.pB (by omega) hR.rd hR.tok
                    have hat3 : (wantR tk (wantR tk r5 (s1 41)) arrow).at_ ≤ tk.length := by have := HGw.out.at2; omega
                    have h3at : r1.at_ + 1 ≤ (wantR tk (wantR tk r5 (s1 41)) arrow).at_ := by have := HGw.out.at1; omega
                    have hd3 : (wantR tk (wantR tk r5 (s1 41)) arrow).deep = 0 := HGw.out.deep.trans H5d.out
                    have h3o : (wantR tk (wantR tk r5 (s1 41)) arrow).out.length ≤ r1.out.length := by rw [HO3.out]; exact Nat.le_refl _
                    have hol3 : (wantR tk (wantR tk r5 (s1 41)) arrow).out.length ≤ 4 * (wantR tk (wantR tk r5 (s1 41)) arrow).at_ + 8 := by omega
                    clear h1 h2 hs P8 HE4 HQ5 HQo HGw H5d HO5
                    generalize wantR tk (wantR tk r5 (s1 41)) arrow = r3 at *
                    generalize wantR tk r5 (s1 41) = r6 at *
                    go_wp2_with fail
                    refine (HW1.out w10 P10.out.rds).mono ?_
                    rintro e w11 ⟨rfl, h1, h2⟩
                    have P11 : Hid (PrI p lv ov tk w3 r6 t pv9 (ps ++ [t4]) w11) := P10.out.rdr h1 h2
                    clear h1 h2 P10 HW1
                    go_wp2_with fail
                    refine (HW2.out w11 P11.out.rds).mono ?_
                    rintro e w4 ⟨rfl, h1, h2⟩
                    have P4 : Hid (PrI p lv ov tk w3 r3 t pv9 (ps ++ [t4]) w4) := P11.out.rdr h1 h2
                    clear h1 h2 P11 HW2
                    have HV : Hid (parseB s = none) := by rw [Hid, HQ6.out, if_pos (by simp)]
                    clear HQ6
                    have s3 : w4.cell? ⟨p, 3, none⟩ = some (.bool r3.bad) := run_cell P4.out.rds.rd rfl
                    have sf : w4.frozen? ⟨p, 3, none⟩ = false := run_frozen P4.out.rds.rd
                    have S5 := rdb_set (B := p) (j := 3) (u := .bool true) (r' := badR r3) P4.out.rds.rd P4.out.rds.pB rfl
                    have P5 : Hid (PrI p lv ov tk w3 (badR r3) t pv9 (ps ++ [t4]) (w4.setCell ⟨p, 3, none⟩ (.bool true))) := P4.out.rdr S5.1 S5.2
                    have I9 : Hid (RsI p lv tk w (badR r3) rs rv (w4.setCell ⟨p, 3, none⟩ (.bool true))) := PrI.out P5.out I3.out HN3.out HO3.out
                    have hbad : (badR r3).bad = true := rfl
                    clear S5 P5 P4
                    obtain ⟨ov9, hR9, hN9⟩ := I9.out.su
                    obtain ⟨an9, cn9, rfl⟩ := RowO.slice hN9
                    obtain ⟨ar9, cr9, rfl⟩ := RowO.slice I9.out.rul
                    have m4 : (w4.setCell ⟨p, 3, none⟩ (.bool true)).cell? ⟨p, 4, none⟩ = some (.slice an9 (badR r3).out.length cn9) := run_cell hR9.rd rfl
                    have m3 : (w4.setCell ⟨p, 3, none⟩ (.bool true)).cell? ⟨p, 3, none⟩ = some (.bool (badR r3).bad) := run_cell hR9.rd rfl
                    rw [hbad] at m3
                    have b0 : (w4.setCell ⟨p, 3, none⟩ (.bool true)).cell? ⟨p + 1, 0, none⟩ = some (.slice none 0 0) := run_cell I9.out.ob rfl
                    have bf : (w4.setCell ⟨p, 3, none⟩ (.bool true)).frozen? ⟨p + 1, 0, none⟩ = false := run_frozen I9.out.ob
                    have hlo9 := I9.out.lo
                    have n3 : ((w4.setCell ⟨p, 3, none⟩ (.bool true)).setCell ⟨p + 1, 0, none⟩ (.slice an9 (badR r3).out.length cn9)).cell? ⟨p, 3, none⟩ = some (.bool true) := (World.cell?_of_block (setCell_other (k := p) _ (by omega))).trans m3
                    have K0 : Hid (((w4.setCell ⟨p, 3, none⟩ (.bool true)).setCell ⟨p + 1, 0, none⟩ (.slice an9 (badR r3).out.length cn9)).heap[w.heap.size]? = some (.cells #[.slice none 0 0, .slice none 0 0] 81 (0, 0))) := (setCell_other (k := w.heap.size) _ (by omega)).trans I9.out.rc
                    have HBl : Hid (Below w.heap.size w ((w4.setCell ⟨p, 3, none⟩ (.bool true)).setCell ⟨p + 1, 0, none⟩ (.slice an9 (badR r3).out.length cn9))) := I9.out.bel.setCell (p := ⟨p + 1, 0, none⟩) (by show w.heap.size ≤ p + 1; omega) _
                    clear hR9 hN9 I9
                    have z0 : ((w4.setCell ⟨p, 3, none⟩ (.bool true)).setCell ⟨p + 1, 0, none⟩ (.slice an9 (badR r3).out.length cn9)).cell? ⟨w.heap.size, 0, none⟩ = some (.slice none 0 0) := run_cell K0.out rfl
                    have z1 : ((w4.setCell ⟨p, 3, none⟩ (.bool true)).setCell ⟨p + 1, 0, none⟩ (.slice an9 (badR r3).out.length cn9)).cell? ⟨w.heap.size, 1, none⟩ = some (.slice none 0 0) := run_cell K0.out rfl
                    have y0 : ((w4.setCell ⟨p, 3, none⟩ (.bool true)).setCell ⟨p + 1, 0, none⟩ (.slice an9 (badR r3).out.length cn9)).frozen? ⟨w.heap.size, 0, none⟩ = false := run_frozen K0.out
                    have y1 : ((w4.setCell ⟨p, 3, none⟩ (.bool true)).setCell ⟨p + 1, 0, none⟩ (.slice an9 (badR r3).out.length cn9)).frozen? ⟨w.heap.size, 1, none⟩ = false := run_frozen K0.out
                    have K1 := setTwo (u := (.slice none 0 0)) (v := (.slice none 0 0)) K0.out
                    have rr0 : ((((w4.setCell ⟨p, 3, none⟩ (.bool true)).setCell ⟨p + 1, 0, none⟩ (.slice an9 (badR r3).out.length cn9)).setCell ⟨w.heap.size, 0, none⟩ (.slice none 0 0)).setCell ⟨w.heap.size, 1, none⟩ (.slice none 0 0)).cell? ⟨w.heap.size, 0, none⟩ = some (.slice none 0 0) := run_cell K1 rfl
                    have rr1 : ((((w4.setCell ⟨p, 3, none⟩ (.bool true)).setCell ⟨p + 1, 0, none⟩ (.slice an9 (badR r3).out.length cn9)).setCell ⟨w.heap.size, 0, none⟩ (.slice none 0 0)).setCell ⟨w.heap.size, 1, none⟩ (.slice none 0 0)).cell? ⟨w.heap.size, 1, none⟩ = some (.slice none 0 0) := run_cell K1 rfl
                    have HBr : Hid (Below w.heap.size w ((((w4.setCell ⟨p, 3, none⟩ (.bool true)).setCell ⟨p + 1, 0, none⟩ (.slice an9 (badR r3).out.length cn9)).setCell ⟨w.heap.size, 0, none⟩ (.slice none 0 0)).setCell ⟨w.heap.size, 1, none⟩ (.slice none 0 0))) := (HBl.out.setCell (p := ⟨w.heap.size, 0, none⟩) (Nat.le_refl _) _).setCell (p := ⟨w.heap.size, 1, none⟩) (Nat.le_refl _) _
                    go_wp2
                    (try simp only [Exit.inBlock, Exit.then])
                    refine bodyPost_ret (by simp [results, Try.results36, go_sem, rr0, rr1]; try rfl) rfl ?_
                    exact ⟨_, _, by rw [readB_none HV.out]; rfl, HBr.out, by rw [SurfR, readB_none HV.out]; exact ⟨rfl, rfl⟩⟩

end Go.Proofs.Ytipkbkhnaekceaa
