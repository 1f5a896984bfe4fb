/- The specification's reader: put. -/
/- What the readers of calls, things, rows and alternatives leave of the reader: in pure terms. -/
/- The specification's reader: call (printed by mk/s11u.py). -/
import Derived.Test.YtipkbkhnaekceaaS11S
import Derived.Test.YtipkbkhnaekceaaS11I
namespace Go.Proofs.Ytipkbkhnaekceaa
open Go.RowKit
set_option linter.unusedVariables false

theorem rdb_out {B p : Nat} {lv ov ov' : Value} {r : RdD} {x : SNodeD} {w : World} (h : RdB p lv ov r w) (hB : B ≤ p) : RdB p lv ov' { r with out := r.out ++ [x] } (w.setCell ⟨p, 4, none⟩ ov') ∧ FrR B w (w.setCell ⟨p, 4, none⟩ ov') :=
  ⟨by rw [RdB, setCell_self _ h]; rfl, fr_set _ h (by simp) hB⟩

set_option maxHeartbeats 6400000 in
set_option maxRecDepth 100000 in
theorem putS_any {A : Nat → Prop} {B p : Nat} {lv ov : Value} {tk : List TokD} {r : RdD} (x : SNodeD) (av kv : Value) (w : World) (hl : r.out.length ≤ 100000) (h : RdS B p lv ov tk r w) (hn : SNodesO A B ov r.out w) (ha : ArgsA A B av x.args w) (hk : OwnZ B kv x.kids w) (hA : ∀ k, kv.ownBlock = some k → ¬ A k) :
    Calls Try.prog 69 #[.pointer (some ⟨p, 0, none⟩), .agg #[.int .i64 x.kind, .string x.text, av, .string x.bind, kv]] w fun e w' => e = .returned (.int .i64 r.out.length) ∧ (∃ ov', RdS B p lv ov' tk (putR r x) w' ∧ SNodesO A B ov' (putR r x).out w') ∧ FrS B w w' := by
  obtain ⟨i0, hi, hz0, hz1, hz2⟩ := info_parts Try.infoSNode
  obtain ⟨ak, ck, rfl⟩ := hk.row.slice
  obtain ⟨aa, ca, rfl⟩ := RowO.slice ha
  obtain ⟨ao, co, rfl⟩ := RowO.slice hn
  have hpw := rdb_lt h.rd
  have hBw := h.lt
  have hpB := h.pB
  have HR0 : Hid (RdS B p lv (.slice ao r.out.length co) tk r w) := h
  have bal : Hid (Below w.heap.size w (w.alloc (.cells #[.int .i64 x.kind, .string x.text, .slice aa x.args.length ca, .string x.bind, .slice ak x.kids.length ck] 121))) := (Below.refl _ _).alloc (Nat.le_refl _) _
  have x0 : (w.alloc (.cells #[.int .i64 x.kind, .string x.text, .slice aa x.args.length ca, .string x.bind, .slice ak x.kids.length ck] 121)).cell? ⟨w.heap.size, 0, none⟩ = some (.int .i64 x.kind) := box10 _ _ _ 0 _ rfl
  have x1 : (w.alloc (.cells #[.int .i64 x.kind, .string x.text, .slice aa x.args.length ca, .string x.bind, .slice ak x.kids.length ck] 121)).cell? ⟨w.heap.size, 1, none⟩ = some (.string x.text) := box10 _ _ _ 1 _ rfl
  have x2 : (w.alloc (.cells #[.int .i64 x.kind, .string x.text, .slice aa x.args.length ca, .string x.bind, .slice ak x.kids.length ck] 121)).cell? ⟨w.heap.size, 2, none⟩ = some (.slice aa x.args.length ca) := box10 _ _ _ 2 _ rfl
  have x3 : (w.alloc (.cells #[.int .i64 x.kind, .string x.text, .slice aa x.args.length ca, .string x.bind, .slice ak x.kids.length ck] 121)).cell? ⟨w.heap.size, 3, none⟩ = some (.string x.bind) := box10 _ _ _ 3 _ rfl
  have x4 : (w.alloc (.cells #[.int .i64 x.kind, .string x.text, .slice aa x.args.length ca, .string x.bind, .slice ak x.kids.length ck] 121)).cell? ⟨w.heap.size, 4, none⟩ = some (.slice ak x.kids.length ck) := box10 _ _ _ 4 _ rfl
  have HR : Hid (RdB p lv (.slice ao r.out.length co) r (w.alloc (.cells #[.int .i64 x.kind, .string x.text, .slice aa x.args.length ca, .string x.bind, .slice ak x.kids.length ck] 121))) := rdb_alloc h.rd _
  have HN : Hid (SNodesO A B (.slice ao r.out.length co) r.out (w.alloc (.cells #[.int .i64 x.kind, .string x.text, .slice aa x.args.length ca, .string x.bind, .slice ak x.kids.length ck] 121))) := sNodes_below hn bal.out
  have HAr : Hid (ArgsA A B (.slice aa x.args.length ca) x.args (w.alloc (.cells #[.int .i64 x.kind, .string x.text, .slice aa x.args.length ca, .string x.bind, .slice ak x.kids.length ck] 121))) := argsA_below ha bal.out
  have HK : Hid (OwnZ B (.slice ak x.kids.length ck) x.kids (w.alloc (.cells #[.int .i64 x.kind, .string x.text, .slice aa x.args.length ca, .string x.bind, .slice ak x.kids.length ck] 121))) := hk.below bal.out
  have HF0 : Hid (FrS B w (w.alloc (.cells #[.int .i64 x.kind, .string x.text, .slice aa x.args.length ca, .string x.bind, .slice ak x.kids.length ck] 121))) := FrT.below bal.out hBw
  have HAw : Hid (∀ k, (Value.slice ak x.kids.length ck).ownBlock = some k → ¬ A k) := hA
  have HP : Hid (∀ _ : Unit, putR r x = { r with out := r.out ++ [x], bad := r.bad || decide (120 < r.out.length + 1) }) := fun _ => rfl
  clear h hn ha hk bal hA
  go_enter Try.func69, Try.ntmps69
  go_wp2_with fail
  generalize hwt : w.alloc (.cells #[.int .i64 x.kind, .string x.text, .slice aa x.args.length ca, .string x.bind, .slice ak x.kids.length ck] 121) = wt at *
  have hszt : w.heap.size < wt.heap.size := by rw [← hwt]; simp
  have HWt : Hid _ := hwt
  clear hwt
  generalize w.heap.size = bx at *
  have cbo : wt.cell? ⟨p, 4, none⟩ = some (.slice ao r.out.length co) := run_cell HR.out rfl
  have fbo : wt.frozen? ⟨p, 4, none⟩ = false := run_frozen HR.out
  obtain ⟨cs, hcs, hsn⟩ := RowO.snoc HN.out
  have HC : Hid (wt.ownsRow B 121 5 (.slice ao r.out.length co) r.out.length cs) := hcs
  have HSn : Hid _ := hsn
  have HNe : Hid ((Value.slice ao r.out.length co).ownBlock ≠ some p) := own_offT hcs HR.out (by decide)
  have cbo2 : (wt.alloc (.cells #[.int .i64 x.kind, .string x.text, .slice aa x.args.length ca, .string x.bind, .slice ak x.kids.length ck] 121)).cell? ⟨p, 4, none⟩ = some (.slice ao r.out.length co) := run_cell (rdb_alloc HR.out _) rfl
  have i9 : IntKind.i64.wrap (((r.out.length : Int) + 1) - 1) = (r.out.length : Int) := by rw [IntKind.wrap_i64]; omega
  clear hcs hsn
  go_region_law ((refine step_append_lies _ (by rfl) _ _ _ (by rfl) B 121 i0 _ 5 88 Try.underlying78 hi hz0 hz1 hz2 rfl (by omega) _ _ _ (by rfl) (World.ownsRow.alloc HC.out _) ⟨wt.heap.size, 0, none⟩ 1 1 [.int .i64 x.kind, .string x.text, .slice aa x.args.length ca, .string x.bind, .slice ak x.kids.length ck] (by rfl) (by rfl) (World.news_of_block (cs := #[.int .i64 x.kind, .string x.text, .slice aa x.args.length ca, .string x.bind, .slice ak x.kids.length ck]) (t := 121) (fr := (0, 0)) (heap_alloc_new wt _)) (five11 _ _ _ _ _ _ _ _ _) (by omega) (by unfold maxLen; omega) (by omega) (by simp; omega) (wt.heap.size + 1) (by simp) ?_; intro gg cap w3 hown3 hgrow hat hlt3; have hb3 := rdb_grown hgrow (rdb_alloc HR.out _) HNe.out; have c3 := run_cell (j := 4) hb3 rfl; have f3 := run_frozen (j := 4) hb3))
  all_goals
    have hg2 : (wt.alloc (.cells #[.int .i64 x.kind, .string x.text, .slice aa x.args.length ca, .string x.bind, .slice ak x.kids.length ck] 121)).grownBy w3 (Value.slice ao r.out.length co).ownBlock := ⟨hgrow.os, hgrow.tape, hgrow.output, hgrow.size, hgrow.block⟩
    have F3 : FrT [121] B wt w3 := (FrT.below ((Below.refl _ _).alloc (Nat.le_refl _) _) (by omega)).trans (fr_grown (World.ownsRow.alloc HC.out _) hg2 (by simp) (by simp; omega))
    have R3 : SNodesO A B (.slice (some ⟨gg, 0, none⟩) (r.out.length + 1) cap) (r.out ++ [x]) w3 := HSn.out _ w3 _ x rfl hown3 (fun vs y hy => snV_fr hy F3 (by decide) (by decide) (by decide)) ⟨_, _, rfl, argsA_fr HAr.out F3 (by decide) (by decide) (by decide), ownZ_fr HK.out F3 (by decide), HAw.out⟩
    have R := rdb_out (B := B) (x := x) (ov' := .slice (some ⟨gg, 0, none⟩) (r.out.length + 1) cap) hb3 hpB
    have R4 : Hid (SNodesO A B (.slice (some ⟨gg, 0, none⟩) (r.out.length + 1) cap) (r.out ++ [x]) (w3.setCell ⟨p, 4, none⟩ (.slice (some ⟨gg, 0, none⟩) (r.out.length + 1) cap))) := sNodes_fr R3 R.2 (by decide) (by decide) (by decide) (by decide)
    have X4 : Hid (RdB p lv (.slice (some ⟨gg, 0, none⟩) (r.out.length + 1) cap) { r with out := r.out ++ [x] } (w3.setCell ⟨p, 4, none⟩ (.slice (some ⟨gg, 0, none⟩) (r.out.length + 1) cap))) := R.1
    have F4 : Hid (FrS B w (w3.setCell ⟨p, 4, none⟩ (.slice (some ⟨gg, 0, none⟩) (r.out.length + 1) cap))) := HF0.out.trans ((FrT.wide F3 (by simp)).trans (FrT.wide R.2 (by simp)))
    have c4 : (w3.setCell ⟨p, 4, none⟩ (.slice (some ⟨gg, 0, none⟩) (r.out.length + 1) cap)).cell? ⟨p, 4, none⟩ = some (.slice (some ⟨gg, 0, none⟩) (r.out.length + 1) cap) := run_cell X4.out rfl
    clear hg2 F3 R3 R hown3 hgrow hat hlt3 hb3 c3 f3
    generalize w3.setCell ⟨p, 4, none⟩ (.slice (some ⟨gg, 0, none⟩) (r.out.length + 1) cap) = w4 at *
    have e3 : w4.cell? ⟨p, 3, none⟩ = some (.bool r.bad) := run_cell X4.out rfl
    have z3 : w4.frozen? ⟨p, 3, none⟩ = false := run_frozen X4.out
    by_cases hbig : 120 < r.out.length + 1
    · have i20 : (120 : Int) < (r.out.length : Int) + 1 := by omega
      have Q := rdb_set (B := B) (j := 3) (u := .bool true) (r' := { r with out := r.out ++ [x], bad := true }) X4.out hpB rfl
      have Q1 : Hid (RdB p lv (.slice (some ⟨gg, 0, none⟩) (r.out.length + 1) cap) { r with out := r.out ++ [x], bad := true } (w4.setCell ⟨p, 3, none⟩ (.bool true))) := Q.1
      have Q2 : Hid (FrR B w4 (w4.setCell ⟨p, 3, none⟩ (.bool true))) := Q.2
      have c5 : (w4.setCell ⟨p, 3, none⟩ (.bool true)).cell? ⟨p, 4, none⟩ = some (.slice (some ⟨gg, 0, none⟩) (r.out.length + 1) cap) := run_cell Q1.out rfl
      have HPv : Hid (putR r x = { r with out := r.out ++ [x], bad := true }) := by rw [Hid, HP.out (), decide_eq_true hbig, Bool.or_true]
      clear Q hbig
      go_wp2
      go_ret
      rw [HPv.out]
      exact ⟨rfl, ⟨_, HR0.out.next (ts := [101, 121]) Q1.out (F4.out.trans (FrT.wide Q2.out (by simp))), sNodes_fr R4.out Q2.out (by decide) (by decide) (by decide) (by decide)⟩, F4.out.trans (FrT.wide Q2.out (by simp))⟩
    · have i20 : ¬ (120 : Int) < (r.out.length : Int) + 1 := by omega
      have HPv : Hid (putR r x = { r with out := r.out ++ [x] }) := by rw [Hid, HP.out (), decide_eq_false hbig, Bool.or_false]
      clear hbig
      go_wp2
      go_ret
      rw [HPv.out]
      exact ⟨rfl, ⟨_, HR0.out.next (ts := [101, 121]) X4.out F4.out, R4.out⟩, F4.out⟩

end Go.Proofs.Ytipkbkhnaekceaa

namespace Go.Proofs.Ytipkbkhnaekceaa
open Go.RowKit

/-- A reader went on to another: how deep it is, where, whether it is wrong, and how many nodes more there are at most. -/
structure GoI (tk : List TokD) (r r' : RdD) (n : Nat) : Prop where
  deep : r'.deep = r.deep
  at1 : r.at_ ≤ r'.at_
  at2 : r'.at_ ≤ max r.at_ tk.length
  bad : r.bad = true → r'.bad = true
  out : r.out.length ≤ r'.out.length
  siz : r'.out.length ≤ r.out.length + 2 * (r'.at_ - r.at_) + n
theorem GoI.refl (tk : List TokD) (r : RdD) : GoI tk r r 0 := ⟨rfl, Nat.le_refl _, by omega, fun h => h, Nat.le_refl _, by omega⟩
theorem GoI.trans {tk : List TokD} {r r1 r2 : RdD} {m n : Nat} (h : GoI tk r r1 m) (k : GoI tk r1 r2 n) : GoI tk r r2 (m + n) := by
  obtain ⟨a, b, c, d, e, f⟩ := h
  obtain ⟨a', b', c', d', e', f'⟩ := k
  exact ⟨a'.trans a, by omega, by omega, fun x => d' (d x), by omega, by omega⟩
theorem GoI.mono {tk : List TokD} {r r1 : RdD} {m n : Nat} (h : GoI tk r r1 m) (hn : m ≤ n) : GoI tk r r1 n := ⟨h.deep, h.at1, h.at2, h.bad, h.out, Nat.le_trans h.siz (by omega)⟩
theorem goI_put (tk : List TokD) (r : RdD) (x : SNodeD) : GoI tk r (putR r x) 1 :=
  ⟨rfl, Nat.le_refl _, by show r.at_ ≤ _; omega, fun h => by show (r.bad || _) = true; rw [h]; rfl, by show _ ≤ (r.out ++ [x]).length; simp, by show (r.out ++ [x]).length ≤ _; simp only [List.length_append, List.length_singleton]; omega⟩
theorem goI_on {tk : List TokD} {r : RdD} (h : r.at_ < tk.length) : GoI tk r (onR r) 0 :=
  ⟨rfl, Nat.le_succ _, by show r.at_ + 1 ≤ _; omega, fun h => h, Nat.le_refl _, by show r.out.length ≤ _; omega⟩
theorem goI_bad (tk : List TokD) (r : RdD) : GoI tk r (badR r) 0 := ⟨rfl, Nat.le_refl _, by show r.at_ ≤ _; omega, fun _ => rfl, Nat.le_refl _, by show r.out.length ≤ _; omega⟩
theorem goI_want (tk : List TokD) (r : RdD) (s : ByteArray) : GoI tk r (wantR tk r s) 0 := by
  obtain ⟨a, b, c, d, e⟩ := wantR_I tk r s
  exact ⟨a, b, c, d, by rw [e]; exact Nat.le_refl _, by rw [e]; omega⟩
theorem wholeR_out (tk : List TokD) (r : RdD) : (wholeR tk r).1.out = r.out := (exF_I tk fuelE .expr r [] 0).out
theorem goI_whole (tk : List TokD) (r : RdD) : GoI tk r (wholeR tk r).1 0 := by
  have h := exF_I tk fuelE .expr r [] 0
  have e : (wholeR tk r).1 = (exF tk fuelE .expr r [] 0).1 := rfl
  have o := h.out
  rw [e]
  exact ⟨h.deep, h.at1, h.at2, h.bad, by rw [o]; exact Nat.le_refl _, by rw [o]; omega⟩
/-- The nodes stay the same. -/
theorem argsR_out (tk : List TokD) : ∀ (f : Nat) (r : RdD) (es : List (List NodeD)), (argsR tk f r es).1.out = r.out
  | 0, _, _ => rfl
  | f + 1, r, es => by
    rw [argsR]
    split
    · rw [argsR_out tk f, wholeR_out]; rfl
    · rfl
theorem goI_args (tk : List TokD) : ∀ (f : Nat) (r : RdD) (es : List (List NodeD)), GoI tk r (argsR tk f r es).1 0
  | 0, r, _ => GoI.refl tk r
  | f + 1, r, es => by
    rw [argsR]
    split
    · rename_i h
      exact ((goI_on (isT_lt h)).trans (goI_whole tk _)).trans (goI_args tk f _ _)
    · exact GoI.refl tk r
theorem callArgs_out (tk : List TokD) (r : RdD) : (callArgs tk r).1.out = r.out := by
  show (wantR tk (argsR tk 250 (wholeR tk r).1 [(wholeR tk r).2]).1 (s1 41)).out = r.out
  rw [(wantR_I tk _ _).2.2.2.2, argsR_out, wholeR_out]
theorem goI_callArgs (tk : List TokD) (r : RdD) : GoI tk r (callArgs tk r).1 0 :=
  ((goI_whole tk r).trans (goI_args tk 250 _ _)).trans (goI_want tk _ _)
theorem goI_call (tk : List TokD) (r : RdD) (name : ByteArray) (opn : Bool) : GoI tk r (callR tk r name opn) 1 := by
  unfold callR
  split
  · exact (goI_callArgs tk r).trans (goI_put tk _ _)
  · split
    · rename_i h
      have h0 := goI_on (isT_lt h)
      split
      · rename_i h1
        exact (h0.trans (goI_on (kindR_lt h1))).trans (goI_put tk _ _)
      · split
        · rename_i h1
          exact ((h0.trans (goI_on (kindR_lt h1))).trans (goI_callArgs tk _)).trans (goI_put tk _ _)
        · exact (h0.trans (goI_bad tk _)).trans (goI_put tk _ _)
    · exact goI_put tk _ _
/-- Of a call at least one node more. -/
theorem call_more (tk : List TokD) (r : RdD) (name : ByteArray) (opn : Bool) : (callR tk r name opn).out.length = r.out.length + 1 := by
  unfold callR
  split
  · show (putR (callArgs tk r).1 _).out.length = _
    show ((callArgs tk r).1.out ++ [_]).length = _
    rw [List.length_append, callArgs_out]; rfl
  · split
    · split
      · show (r.out ++ [_]).length = _
        simp
      · split
        · show ((callArgs tk (onR (onR r))).1.out ++ [_]).length = _
          rw [List.length_append, callArgs_out]; rfl
        · show (r.out ++ [_]).length = _
          simp
    · show (r.out ++ [_]).length = _
      simp

end Go.Proofs.Ytipkbkhnaekceaa

namespace Go.Proofs.Ytipkbkhnaekceaa
open Go.RowKit
set_option linter.unusedVariables false

theorem Try.infoExpr11 : (Try.prog.info? 55).map (fun i => (i.zero, i.size, i.bytes)) = some (some (.agg #[.slice none 0 0]), 1, 24) := by kernel_rfl
theorem one_slice (a : Option Addr) (n c : Nat) : ∀ u ∈ [Value.slice a n c], u.oneCell' = true := by
  intro u hu
  obtain rfl : u = .slice a n c := by simpa using hu
  rfl
/-- A node in a box of its own. -/
def XB (bx : Nat) (x : SNodeD) (av : Value) (w : World) : Prop := w.heap[bx]? = some (.cells #[.int .i64 x.kind, .string x.text, av, .string x.bind, .slice none 0 0] 121 (0, 0))
theorem xb_alloc {bx : Nat} {c : Array Value} {t : TypeId} {w : World} (h : w.heap[bx]? = some (.cells c t (0, 0))) (o : Obj) : (w.alloc o).heap[bx]? = some (.cells c t (0, 0)) := by
  rw [Below.heap_alloc _ _ _ (Array.getElem?_eq_some_iff.1 h).1]; exact h
theorem xb_grown {bx : Nat} {c : Array Value} {t : TypeId} {w w' : World} {k : Option Nat} (hg : w.grownBy w' k) (h : w.heap[bx]? = some (.cells c t (0, 0))) (hne : k ≠ some bx) : w'.heap[bx]? = some (.cells c t (0, 0)) := by
  rw [hg.block bx (Array.getElem?_eq_some_iff.1 h).1 (fun e => hne e.symm)]; exact h
/-- What call knows behind its first row: the reader, the node's box, its args, and that nothing else of old has turned. -/
structure CallI (B p : Nat) (lv ov : Value) (tk : List TokD) (w : World) (r : RdD) (x : SNodeD) (av : Value) (W : World) : Prop where
  rds : RdS B p lv ov tk r W
  xb : XB w.heap.size x av W
  args : ArgsO w.heap.size av x.args W
  fr : FrR B w W
  size : w.heap.size ≤ W.heap.size
  bw : B ≤ w.heap.size
section
variable {B p : Nat} {lv ov av : Value} {tk : List TokD} {w W : World} {r r' : RdD} {x : SNodeD}
theorem CallI.xb_cell (h : CallI B p lv ov tk w r x av W) {j : Nat} {v : Value} (hj : (#[.int .i64 x.kind, .string x.text, av, .string x.bind, .slice none 0 0] : Array Value)[j]? = some v) : W.cell? ⟨w.heap.size, j, none⟩ = some v := run_cell h.xb hj
/-- The reader alone has gone on. -/
theorem CallI.rdr {W' : World} (h : CallI B p lv ov tk w r x av W) (hr : RdB p lv ov r' W') (hf : FrR B W W') : CallI B p lv ov tk w r' x av W' :=
  ⟨h.rds.next hr hf, hf.typ _ _ _ _ h.xb (by decide), args_fr h.args hf (by decide) (by decide) (by decide), h.fr.trans hf, Nat.le_trans h.size hf.bel.size, h.bw⟩
theorem CallI.drew (h : CallI B p lv ov tk w r x av W) : CallI B p lv ov tk w r x av W.drew := h.rdr (rdb_drew h.rds.rd 1) (frR_drew h.rds.rd h.rds.pB 1)
/-- A text of the box written. -/
theorem CallI.text (h : CallI B p lv ov tk w r x av W) (hpw : p < w.heap.size) {j : Nat} {u : Value} {x' : SNodeD} (hc : (#[.int .i64 x.kind, .string x.text, av, .string x.bind, .slice none 0 0] : Array Value).setIfInBounds j u = #[.int .i64 x'.kind, .string x'.text, av, .string x'.bind, .slice none 0 0]) (ha : x'.args = x.args) : CallI B p lv ov tk w r x' av (W.setCell ⟨w.heap.size, j, none⟩ u) := by
  have hB := h.rds.pB
  have hf : FrT [121] w.heap.size W (W.setCell ⟨w.heap.size, j, none⟩ u) := fr_set _ h.xb (by simp) (Nat.le_refl _)
  refine ⟨h.rds.next (ts := [121]) (by rw [RdB, setCell_other _ (by omega)]; exact h.rds.rd) (hf.base (by omega)), by rw [XB, setCell_self _ h.xb, hc], ?_, h.fr.new hf.bel (by omega), Nat.le_trans h.size hf.bel.size, h.bw⟩
  rw [ha]
  exact args_fr h.args hf (by decide) (by decide) (by decide)
/-- An arg more: whole, append and the store into the box. -/
theorem CallI.arg {w5 w6 : World} {nv : Value} {e : List NodeD} {gg cap : Nat} {k : Nat} {cs : List Value} (h : CallI B p lv ov tk w r x av W) (hpw : p < w.heap.size) (hr5 : RdB p lv ov r' w5) (hn5 : NodesO k nv e w5) (hk : w.heap.size ≤ k) (hf5 : FrR B W w5) (hcs : W.ownsRow w.heap.size 55 1 av x.args.length cs)
    (hsn : ∀ (v' : Value) (w2 : World) (vs : List Value) (y : List NodeD), vs.length = 1 → w2.ownsRow w.heap.size 55 1 v' (x.args.length + 1) (cs ++ vs) → (∀ vs y, ExV w.heap.size W vs y → ExV w.heap.size w2 vs y) → ExV w.heap.size w2 vs y → RowO 1 55 (ExV w.heap.size) w.heap.size v' (x.args ++ [y]) w2)
    (hown6 : w6.ownsRow w.heap.size 55 1 (.slice (some ⟨gg, 0, none⟩) (x.args.length + 1) cap) (x.args.length + 1) (cs ++ [nv])) (hg : (w5.alloc (.cells #[nv] 55)).grownBy w6 av.ownBlock) :
    CallI B p lv ov tk w r' { x with args := x.args ++ [e] } (.slice (some ⟨gg, 0, none⟩) (x.args.length + 1) cap) (w6.setCell ⟨w.heap.size, 2, none⟩ (.slice (some ⟨gg, 0, none⟩) (x.args.length + 1) cap)) := by
  have hB := h.rds.pB
  have hw5 : w.heap.size ≤ w5.heap.size := Nat.le_trans h.size hf5.bel.size
  have Z5 := own_frT hcs hf5 (by decide)
  have F6 : FrT [55] w.heap.size w5 w6 := (FrT.below ((Below.refl _ _).alloc (Nat.le_refl _) _) hw5).trans (fr_grown (World.ownsRow.alloc Z5 _) hg (by simp) (by simp; omega))
  have X6 : w6.heap[w.heap.size]? = some (.cells #[.int .i64 x.kind, .string x.text, av, .string x.bind, .slice none 0 0] 121 (0, 0)) := F6.typ _ _ _ _ (hf5.typ _ _ _ _ h.xb (by decide)) (by decide)
  have F7 : FrT [121] w.heap.size w6 (w6.setCell ⟨w.heap.size, 2, none⟩ (.slice (some ⟨gg, 0, none⟩) (x.args.length + 1) cap)) := fr_set _ X6 (by simp) (Nat.le_refl _)
  have hb7 : Below w.heap.size w5 (w6.setCell ⟨w.heap.size, 2, none⟩ (.slice (some ⟨gg, 0, none⟩) (x.args.length + 1) cap)) := F6.bel.trans F7.bel
  have R6 : RdB p lv ov r' w6 := F6.typ _ _ _ _ hr5 (by decide)
  refine ⟨h.rds.go (by rw [RdB, setCell_other _ (by omega)]; exact R6) (hf5.bel.trans (hb7.mono (by omega))), by rw [XB, setCell_self _ X6]; rfl, ?_, (h.fr.trans hf5).new hb7 (by omega), Nat.le_trans hw5 hb7.size, h.bw⟩
  have A6 : ArgsO w.heap.size (.slice (some ⟨gg, 0, none⟩) (x.args.length + 1) cap) (x.args ++ [e]) w6 := hsn _ w6 [nv] e rfl hown6 (fun vs y hy => exV_fr (exV_fr hy hf5 (by decide) (by decide)) F6 (by decide) (by decide)) ⟨nv, rfl, nodesO_fr (nodesO_base hn5 hk) F6 (by decide) (by decide)⟩
  exact args_fr A6 F7 (by decide) (by decide) (by decide)
theorem nodes_form {k : Nat} {nv : Value} {e : List NodeD} {W : World} (h : NodesO k nv e W) : ∃ an ln cn, nv = .slice an ln cn := by
  obtain ⟨a, c, rfl⟩ := RowO.slice h
  exact ⟨a, _, c, rfl⟩
/-- The node is put. -/
theorem call_put {A : Nat → Prop} {ro : List SNodeD} (h : CallI B p lv ov tk w r x av W) (ho : r.out = ro) (hx : x.kids = []) (hl : ro.length ≤ 90000) (hA : ∀ b, A b → b < w.heap.size) (hn : SNodesO A B ov ro w) :
    Calls Try.prog 69 #[.pointer (some ⟨p, 0, none⟩), .agg #[.int .i64 x.kind, .string x.text, av, .string x.bind, .slice none 0 0]] W fun e w' => e = .returned (.int .i64 ro.length) ∧ (∃ ov', RdS B p lv ov' tk (putR r x) w' ∧ SNodesO A B ov' (putR r x).out w') ∧ FrS B w w' := by
  subst ho
  have hBw : B ≤ w.heap.size := by
    exact h.bw
  refine (putS_any (A := A) x av (.slice none 0 0) W (by omega) h.rds (sNodes_fr hn h.fr (by decide) (by decide) (by decide) (by decide)) (argsA_of h.args hBw hA) (by rw [hx]; exact ownZ_nil11 B W) (fun k hk => by cases hk)).mono ?_
  rintro e w' ⟨he, hq, hf⟩
  exact ⟨he, hq, (FrT.wide h.fr (by simp)).trans hf⟩
end
end Go.Proofs.Ytipkbkhnaekceaa
