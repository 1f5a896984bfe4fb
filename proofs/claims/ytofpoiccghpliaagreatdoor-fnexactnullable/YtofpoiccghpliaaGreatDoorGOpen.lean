/- Marks written into a list of texts, and looked for again. -/
/- Grammars opened as arguments (printed by mk/gkit.py). -/
import Derived.Test.YtofpoiccghpliaaGreatDoorSKit
import Derived.Test.YtofpoiccghpliaaGreatDoorGRule
import Derived.Deep.RegionHeld3
import Derived.OpenShut
namespace Go.Proofs.YtofpoiccghpliaaGreatDoor
open Go.RowKit

def smark (k : Nat) (j : Nat) : ByteArray := str (markB (k + j))
def smarks (k n : Nat) : List ByteArray := (List.range n).map (smark k)
theorem smarks_len (k n : Nat) : (smarks k n).length = n := by simp [smarks]
theorem smarks_next (k n : Nat) : smarks k (n + 1) = smarks k n ++ [smark k n] := by simp [smarks, List.range_succ]
theorem smarks_at (k n i : Nat) (h : i < (smarks k n).length) : (smarks k n)[i] = smark k i := by simp [smarks]
theorem sb_set (ss : List ByteArray) (i : Nat) (s : ByteArray) : sb (ss.set i s) = (sb ss).set i (.string s) := by simp [sb, List.map_set]
theorem smarks_set (k i : Nat) (ss : List ByteArray) (h : i < ss.length) : (smarks k i ++ ss.drop i).set i (smark k i) = smarks k (i + 1) ++ ss.drop (i + 1) := by
  rw [smarks_next, List.set_append_right _ _ (by rw [smarks_len]; exact Nat.le_refl _), smarks_len, Nat.sub_self]
  rw [List.append_assoc]
  congr 1
  rw [List.drop_eq_getElem_cons h]
  rfl

set_option maxHeartbeats 800000 in
theorem markStringS_held (B : Nat) (v : Value) (ss : List ByteArray) (k0 : Nat) (w : World) (hn : ss.length ≤ 10000000) (h0 : 0 < k0) (h1 : k0 ≤ 100000000) (hown : OwnB B v ss w) :
    Calls Tryz.prog 11 #[v, .int .i64 k0] w fun e w' => e = .returned (.int .i64 ((k0 + ss.length : Nat) : Int)) ∧ OwnB B v (smarks k0 ss.length) w' ∧ w.grownBy w' v.ownBlock := by
  by_cases hz : ss.length = 0
  · obtain rfl : ss = [] := List.eq_nil_of_length_eq_zero hz
    have HO : Hid (OwnB B v [] w) := hown
    obtain ⟨a, cap, rfl⟩ := hown.row.slice
    clear hown hz
    simp only [List.length_nil]
    go_enter Tryz.func11, Tryz.ntmps11
    go_wp2
    go_loop [1, 5] (fun kv iv => kv = .int .i64 k0 ∧ iv = .int .i64 0) (fun _ _ => 0)
    case atStart => exact ⟨rfl, rfl⟩
    case round =>
      obtain ⟨rfl, rfl⟩ := hrel
      go_wp2
      go_ret
      exact ⟨rfl, HO.out, World.grownBy.refl _ _⟩
  · obtain ⟨g, cap, rfl, hBg, hgl⟩ := World.ownsRow.form hown (by omega)
    have HO : Hid (OwnB B (.slice (some ⟨g, 0, none⟩) ss.length cap) ss w) := hown
    clear hown
    go_enter Tryz.func11, Tryz.ntmps11
    go_wp2
    go_loopw [1, 5] (fun kv iv wr => ∃ i : Nat, kv = .int .i64 ((k0 + i : Nat) : Int) ∧ iv = .int .i64 i ∧ i ≤ ss.length ∧ OwnB B (.slice (some ⟨g, 0, none⟩) ss.length cap) (smarks k0 i ++ ss.drop i) wr ∧ w.grownBy wr (some g)) (fun _ iv _ => ss.length - (intOf iv).toNat)
    case atStart => exact ⟨0, rfl, rfl, Nat.zero_le _, by simpa [smarks] using HO.out, World.grownBy.refl _ _⟩
    case round =>
      obtain ⟨i, rfl, rfl, hi, hown, hgr⟩ := hrel
      have HW : Hid (OwnB B (.slice (some ⟨g, 0, none⟩) ss.length cap) (smarks k0 i ++ ss.drop i) wr) := hown
      have HG : Hid (w.grownBy wr (some g)) := hgr
      have hyl : (smarks k0 i ++ ss.drop i).length = ss.length := by rw [List.length_append, smarks_len, List.length_drop]; omega
      have HYl : Hid ((smarks k0 i ++ ss.drop i).length = ss.length) := hyl
      clear hown hgr hyl
      by_cases hlt : i < ss.length
      · go_wp2_with fail
        refine (mark_any (k0 + i) _ (by omega) (by omega)).mono ?_
        rintro e w1 ⟨rfl, hb1⟩
        have HO1 : Hid (w1.ownsRow B 9 1 (.slice (some ⟨g, 0, none⟩) ss.length cap) ss.length (sb (smarks k0 i ++ ss.drop i))) := by
          have := own_below HW.out hb1
          rwa [HYl.out] at this
        obtain ⟨c0, hc0, f0⟩ := own_cell HO1.out i (by omega)
        have HG1 : Hid (w.grownBy w1 (some g)) := ⟨hb1.os.trans HG.out.os, hb1.tape.trans HG.out.tape, hb1.output.trans HG.out.output, Nat.le_trans HG.out.size hb1.size, fun j hj hr => (hb1.block j (Nat.lt_of_lt_of_le hj HG.out.size)).trans (HG.out.block j hj hr)⟩
        clear hb1
        have HN : Hid (str (markB (k0 + i)) = smark k0 i) := rfl
        generalize str (markB (k0 + i)) = T at *
        go_wp2
        go_roundw
        case rel =>
          have s1 := World.ownsRow.stored HO1.out i (.string T)
          have t1 := s1.2
          refine ⟨i + 1, congrArg (Value.int .i64) (by omega), by go_num, by omega, ?_, ⟨t1.os.trans HG1.out.os, t1.tape.trans HG1.out.tape, t1.output.trans HG1.out.output, Nat.le_trans HG1.out.size t1.size, fun j hj hr => (t1.block j (Nat.lt_of_lt_of_le hj HG1.out.size) hr).trans (HG1.out.block j hj hr)⟩⟩
          rw [← smarks_set k0 i ss hlt]
          unfold OwnB
          rw [List.length_set, HYl.out, sb_set, ← HN.out]
          exact s1.1
        case measure => simp [intOf]; omega
      · obtain rfl : i = ss.length := by omega
        have HF : Hid (OwnB B (.slice (some ⟨g, 0, none⟩) ss.length cap) (smarks k0 ss.length) wr) := by
          have := HW.out
          rwa [List.drop_length, List.append_nil] at this
        clear HW
        go_wp2
        go_ret
        exact ⟨rfl, HF.out, HG.out⟩

set_option maxHeartbeats 1600000 in
theorem heldStringS_any (v : Value) (n k0 : Nat) (w : World) (hn : n ≤ 10000000) (h0 : 0 < k0) (h1 : k0 ≤ 100000000) (h : SRow w v (smarks k0 n)) :
    Calls Tryz.prog 12 #[v, .int .i64 k0] w fun e w' => e = .returned (.int .i64 ((k0 + n : Nat) : Int)) ∧ Below w.heap.size w w' := by
  have HR : Hid (SRow w v (smarks k0 n)) := h
  obtain ⟨a, cap, rfl⟩ := h.slice
  clear h
  rw [smarks_len] at HR ⊢
  go_enter Tryz.func12, Tryz.ntmps12
  go_wp2
  go_loopw [1, 5] (fun kv iv wr => ∃ i : Nat, kv = .int .i64 ((k0 + i : Nat) : Int) ∧ iv = .int .i64 i ∧ i ≤ n ∧ Below w.heap.size w wr) (fun _ iv _ => n - (intOf iv).toNat)
  case atStart => exact ⟨0, rfl, rfl, Nat.zero_le _, Below.refl _ _⟩
  case round =>
    obtain ⟨i, rfl, rfl, hi, hb⟩ := hrel
    have HB : Hid (Below w.heap.size w wr) := hb
    have HRr : Hid (SRow wr (.slice a n cap) (smarks k0 n)) := HR.out.below hb
    clear hb
    by_cases hlt : i < n
    · obtain ⟨b, off, rfl, hc1⟩ := HRr.out.at (k := i) (by rw [smarks_len]; exact hlt)
      rw [smarks_at] at hc1
      have hc1' : wr.cell? ⟨b, off + i, none⟩ = some (.string (str (markB (k0 + i)))) := hc1
      have HM : Hid (∀ W, _) := fun W => mark_any (k0 + i) W (by omega) (by omega)
      clear hc1
      generalize str (markB (k0 + i)) = T at *
      have i4 : (i : Int) < (n : Int) := by omega
      go_wp2
      go_region_held3 (fun W => W.cell? ⟨b, off + i, none⟩ = some (.string T)) ((first | go_keep | exact cell_keep (W := wr.drew) hc1' hb2))
        ((first | (go_at_call 21; refine (HM.out _).mono ?_; rintro e w2 ⟨rfl, hb2⟩)))
      have HB2 : Hid (Below w.heap.size w w2) := HB.out.trans ((bel_of_drew hb2).mono HB.out.size)
      clear hb2
      go_wp2
      go_roundw
      case rel => exact ⟨i + 1, congrArg (Value.int .i64) (by omega), by go_num, by omega, HB2.out⟩
      case measure => simp [intOf]; omega
    · obtain rfl : i = n := by omega
      go_wp2
      go_ret
      exact ⟨rfl, HB.out⟩

end Go.Proofs.YtofpoiccghpliaaGreatDoor

namespace Go.Proofs.YtofpoiccghpliaaGreatDoor
open Go.RowKit

theorem openExpr_gen {H : Type} {enc : TypeId × Value → H} {P : Program} {w : World} {base : Nat} {held : Bool} {e : TypeId} {f0 : Field} (he : P.underlying e = some (.struct #[f0])) (o0 : f0.offset = 0) (c0 : P.cellsOf f0.type = 1) (u0 : ∀ (n : Nat) (v : Value) (y : DataW H × List MemPlace), DataW.trod enc P w base (fun _ => true) held n f0.type [v] = some y → ∃ x, NRow w v x ∧ RowInn NodeIn x)
    {n : Nat} {cs : List Value} {y : DataW H × List MemPlace} (hl : cs.length = 1) (h : DataW.trod enc P w base (fun _ => true) held n e cs = some y) : ∃ x, ExprE w cs x ∧ ExprIn x := by
  obtain ⟨xs, k, hk, hxy, _, hxl, hf⟩ := DataW.trod_struct he h
  match xs, hxl, cs, hl with
  | [y0], _, [v0], _ =>
    have g0 := hf 0 f0 rfl
    simp [o0, c0] at g0
    obtain ⟨x0, hx0, hi0⟩ := u0 _ _ _ g0
    exact ⟨x0, ⟨v0, rfl, hx0⟩, hi0⟩
theorem openExpr {H : Type} {enc : TypeId × Value → H} {w : World} {base : Nat} {held : Bool} {n : Nat} {cs : List Value} {y : DataW H × List MemPlace} (hl : cs.length = 1) (h : DataW.trod enc Tryz.prog w base (fun _ => true) held n 151 cs = some y) : ∃ x, ExprE w cs x ∧ ExprIn x :=
  openExpr_gen Tryz.underlying151 rfl (by kernel_rfl) (fun _ _ _ h => (nArg_of_trod Tryz.underlying149 Tryz.underlying180 (by kernel_rfl) rfl rfl rfl rfl (by kernel_rfl) (by kernel_rfl) (by kernel_rfl) (by kernel_rfl) (by kernel_rfl) (by kernel_rfl) (by kernel_rfl) (by kernel_rfl) Tryz.underlying3 (by kernel_rfl) h).imp fun _ h => ⟨h.1, h.2⟩) hl h

theorem openSym_gen {H : Type} {enc : TypeId × Value → H} {P : Program} {w : World} {base : Nat} {held : Bool} {e : TypeId} {f0 f1 f2 f3 : Field} (he : P.underlying e = some (.struct #[f0, f1, f2, f3])) (o0 : f0.offset = 0) (o1 : f1.offset = 1) (o2 : f2.offset = 2) (o3 : f3.offset = 3) (c0 : P.cellsOf f0.type = 1) (c1 : P.cellsOf f1.type = 1) (c2 : P.cellsOf f2.type = 1) (c3 : P.cellsOf f3.type = 1) (u0 : P.underlying f0.type = some (.int .i64)) (u1 : P.underlying f1.type = some .string) (u2 : ∀ (n : Nat) (v : Value) (y : DataW H × List MemPlace), DataW.trod enc P w base (fun _ => true) held n f2.type [v] = some y → ∃ x, RowC 1 ExprE w v x ∧ RowInn ExprIn x) (u3 : P.underlying f3.type = some .string)
    {n : Nat} {cs : List Value} {y : DataW H × List MemPlace} (hl : cs.length = 4) (h : DataW.trod enc P w base (fun _ => true) held n e cs = some y) : ∃ x, SymE w cs x ∧ SymIn x := by
  obtain ⟨xs, k, hk, hxy, _, hxl, hf⟩ := DataW.trod_struct he h
  match xs, hxl, cs, hl with
  | [y0, y1, y2, y3], _, [v0, v1, v2, v3], _ =>
    have g0 := hf 0 f0 rfl
    have g1 := hf 1 f1 rfl
    have g2 := hf 2 f2 rfl
    have g3 := hf 3 f3 rfl
    simp [o0, o1, o2, o3, c0, c1, c2, c3] at g0 g1 g2 g3
    obtain ⟨z0, e0, _, hz0⟩ := DataW.trod_int u0 g0
    obtain rfl : v0 = .int .i64 z0 := by simpa using e0
    obtain ⟨s1, e1, _, hs1⟩ := DataW.trod_string u1 g1
    obtain rfl : v1 = .string s1 := by simpa using e1
    obtain ⟨x2, hx2, hi2⟩ := u2 _ _ _ g2
    obtain ⟨s3, e3, _, hs3⟩ := DataW.trod_string u3 g3
    obtain rfl : v3 = .string s3 := by simpa using e3
    exact ⟨⟨z0, s1, x2, s3⟩, ⟨v2, rfl, hx2⟩, bounds_i64 hz0, hs1, hi2, hs3⟩
theorem openSym {H : Type} {enc : TypeId × Value → H} {w : World} {base : Nat} {held : Bool} {n : Nat} {cs : List Value} {y : DataW H × List MemPlace} (hl : cs.length = 4) (h : DataW.trod enc Tryz.prog w base (fun _ => true) held n 124 cs = some y) : ∃ x, SymE w cs x ∧ SymIn x :=
  openSym_gen Tryz.underlying124 rfl rfl rfl rfl (by kernel_rfl) (by kernel_rfl) (by kernel_rfl) (by kernel_rfl) Tryz.underlying3 Tryz.underlying9 (fun _ _ _ h => (rowC_of_trod (E := ExprE) (In := ExprIn) (sz := 1) Tryz.underlying122 (by kernel_rfl) (by decide) (fun n cs y hl h => openExpr hl h) h).imp fun _ h => ⟨h.1, h.2⟩) Tryz.underlying9 hl h

theorem openAlt_gen {H : Type} {enc : TypeId × Value → H} {P : Program} {w : World} {base : Nat} {held : Bool} {e : TypeId} {f0 : Field} (he : P.underlying e = some (.struct #[f0])) (o0 : f0.offset = 0) (c0 : P.cellsOf f0.type = 1) (u0 : ∀ (n : Nat) (v : Value) (y : DataW H × List MemPlace), DataW.trod enc P w base (fun _ => true) held n f0.type [v] = some y → ∃ x, RowC 4 SymE w v x ∧ RowInn SymIn x)
    {n : Nat} {cs : List Value} {y : DataW H × List MemPlace} (hl : cs.length = 1) (h : DataW.trod enc P w base (fun _ => true) held n e cs = some y) : ∃ x, AltE w cs x ∧ AltIn x := by
  obtain ⟨xs, k, hk, hxy, _, hxl, hf⟩ := DataW.trod_struct he h
  match xs, hxl, cs, hl with
  | [y0], _, [v0], _ =>
    have g0 := hf 0 f0 rfl
    simp [o0, c0] at g0
    obtain ⟨x0, hx0, hi0⟩ := u0 _ _ _ g0
    exact ⟨x0, ⟨v0, rfl, hx0⟩, hi0⟩
theorem openAlt {H : Type} {enc : TypeId × Value → H} {w : World} {base : Nat} {held : Bool} {n : Nat} {cs : List Value} {y : DataW H × List MemPlace} (hl : cs.length = 1) (h : DataW.trod enc Tryz.prog w base (fun _ => true) held n 90 cs = some y) : ∃ x, AltE w cs x ∧ AltIn x :=
  openAlt_gen Tryz.underlying90 rfl (by kernel_rfl) (fun _ _ _ h => (rowC_of_trod (E := SymE) (In := SymIn) (sz := 4) Tryz.underlying88 (by kernel_rfl) (by decide) (fun n cs y hl h => openSym hl h) h).imp fun _ h => ⟨h.1, h.2⟩) hl h

theorem openRule_gen {H : Type} {enc : TypeId × Value → H} {P : Program} {w : World} {base : Nat} {held : Bool} {e : TypeId} {f0 f1 f2 : Field} (he : P.underlying e = some (.struct #[f0, f1, f2])) (o0 : f0.offset = 0) (o1 : f1.offset = 1) (o2 : f2.offset = 2) (c0 : P.cellsOf f0.type = 1) (c1 : P.cellsOf f1.type = 1) (c2 : P.cellsOf f2.type = 1) (u0 : P.underlying f0.type = some .string) (u1 : ∀ (n : Nat) (v : Value) (y : DataW H × List MemPlace), DataW.trod enc P w base (fun _ => true) held n f1.type [v] = some y → ∃ x, SRow w v x ∧ RowInn StrIn x) (u2 : ∀ (n : Nat) (v : Value) (y : DataW H × List MemPlace), DataW.trod enc P w base (fun _ => true) held n f2.type [v] = some y → ∃ x, RowC 1 AltE w v x ∧ RowInn AltIn x)
    {n : Nat} {cs : List Value} {y : DataW H × List MemPlace} (hl : cs.length = 3) (h : DataW.trod enc P w base (fun _ => true) held n e cs = some y) : ∃ x, RuleE w cs x ∧ RuleIn x := by
  obtain ⟨xs, k, hk, hxy, _, hxl, hf⟩ := DataW.trod_struct he h
  match xs, hxl, cs, hl with
  | [y0, y1, y2], _, [v0, v1, v2], _ =>
    have g0 := hf 0 f0 rfl
    have g1 := hf 1 f1 rfl
    have g2 := hf 2 f2 rfl
    simp [o0, o1, o2, c0, c1, c2] at g0 g1 g2
    obtain ⟨s0, e0, _, hs0⟩ := DataW.trod_string u0 g0
    obtain rfl : v0 = .string s0 := by simpa using e0
    obtain ⟨x1, hx1, hi1⟩ := u1 _ _ _ g1
    obtain ⟨x2, hx2, hi2⟩ := u2 _ _ _ g2
    exact ⟨⟨s0, x1, x2⟩, ⟨v1, v2, rfl, hx1, hx2⟩, hs0, hi1, hi2⟩
theorem openRule {H : Type} {enc : TypeId × Value → H} {w : World} {base : Nat} {held : Bool} {n : Nat} {cs : List Value} {y : DataW H × List MemPlace} (hl : cs.length = 3) (h : DataW.trod enc Tryz.prog w base (fun _ => true) held n 57 cs = some y) : ∃ x, RuleE w cs x ∧ RuleIn x :=
  openRule_gen Tryz.underlying57 rfl rfl rfl (by kernel_rfl) (by kernel_rfl) (by kernel_rfl) Tryz.underlying9 (fun _ _ _ h => (sArg_of_trod Tryz.underlying26 Tryz.underlying9 (by kernel_rfl) h).imp fun _ h => ⟨h.1, h.2⟩) (fun _ _ _ h => (rowC_of_trod (E := AltE) (In := AltIn) (sz := 1) Tryz.underlying55 (by kernel_rfl) (by decide) (fun n cs y hl h => openAlt hl h) h).imp fun _ h => ⟨h.1, h.2⟩) hl h

theorem openGrammar_gen {H : Type} {enc : TypeId × Value → H} {P : Program} {w : World} {base : Nat} {held : Bool} {e : TypeId} {f0 : Field} (he : P.underlying e = some (.struct #[f0])) (o0 : f0.offset = 0) (c0 : P.cellsOf f0.type = 1) (u0 : ∀ (n : Nat) (v : Value) (y : DataW H × List MemPlace), DataW.trod enc P w base (fun _ => true) held n f0.type [v] = some y → ∃ x, RowC 3 RuleE w v x ∧ RowInn RuleIn x)
    {n : Nat} {cs : List Value} {y : DataW H × List MemPlace} (hl : cs.length = 1) (h : DataW.trod enc P w base (fun _ => true) held n e cs = some y) : ∃ x, GrammarE w cs x ∧ GrammarIn x := by
  obtain ⟨xs, k, hk, hxy, _, hxl, hf⟩ := DataW.trod_struct he h
  match xs, hxl, cs, hl with
  | [y0], _, [v0], _ =>
    have g0 := hf 0 f0 rfl
    simp [o0, c0] at g0
    obtain ⟨x0, hx0, hi0⟩ := u0 _ _ _ g0
    exact ⟨x0, ⟨v0, rfl, hx0⟩, hi0⟩
theorem openGrammar {H : Type} {enc : TypeId × Value → H} {w : World} {base : Nat} {held : Bool} {n : Nat} {cs : List Value} {y : DataW H × List MemPlace} (hl : cs.length = 1) (h : DataW.trod enc Tryz.prog w base (fun _ => true) held n 24 cs = some y) : ∃ x, GrammarE w cs x ∧ GrammarIn x :=
  openGrammar_gen Tryz.underlying24 rfl (by kernel_rfl) (fun _ _ _ h => (rowC_of_trod (E := RuleE) (In := RuleIn) (sz := 3) Tryz.underlying22 (by kernel_rfl) (by decide) (fun n cs y hl h => openRule hl h) h).imp fun _ h => ⟨h.1, h.2⟩) hl h

theorem one_cellA {cs : Array Value} (h1 : cs.size = 1) : ∃ u, cs = #[u] :=
  ⟨cs[0], by apply Array.ext; · simp [h1]
             · intro i h2 h3; have : i = 0 := by omega
               subst this; rfl⟩
set_option maxRecDepth 100000 in
theorem gramArg_of {H : Type} {enc : TypeId × Value → H} {w : World} {base : Nat} {held : Bool} {r : Reach} {b0 : Nat} {v : Value} {d : DataW H} {p : List MemPlace}
    (hv : Value.okWide Tryz.prog w r b0 24 v) (h : DataW.Trod enc Tryz.prog w base (fun _ => true) held 24 v d p) : ∃ u xs, v = .agg #[u] ∧ RowC 3 RuleE w u xs ∧ GrammarIn xs := by
  obtain ⟨cs, rfl, hsz⟩ := WideShapes.okWide_struct Tryz.underlying24 hv
  have hC : Tryz.prog.cellsOf 24 = 1 := by kernel_rfl
  obtain ⟨u, rfl⟩ := one_cellA (hsz.trans hC)
  obtain ⟨fuel, hf⟩ := h
  obtain ⟨x, ⟨u', e, hx⟩, hin⟩ := openGrammar (cs := [u]) rfl hf
  cases e
  exact ⟨u, x, rfl, hx, hin⟩

end Go.Proofs.YtofpoiccghpliaaGreatDoor
