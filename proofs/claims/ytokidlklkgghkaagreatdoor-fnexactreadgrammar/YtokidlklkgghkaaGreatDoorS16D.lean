/- The specification reads a sym: l16Sym (printed by mk/s16d.py). -/
import Derived.Test.YtokidlklkgghkaaGreatDoorS16C
import Derived.Test.YtokidlklkgghkaaGreatDoorE16AA
namespace Go.Proofs.YtokidlklkgghkaaGreatDoor
open Go.RowKit
set_option linter.unusedVariables false

def SymC (x : SymD) : Prop := (0 ≤ x.kind ∧ x.kind ≤ 127) ∧ x.text.size ≤ 20000 ∧ x.bind.size ≤ 20000 ∧ ListC 10 (fun e => exprB e = true) x.args
theorem arg_fd {s t : ByteArray} {a b : Nat} {g fl : Bool} {x : List NodeD} (h1 : Fd shortW (fun t => t.size ≤ 20000) ByteArray.size 0 s a false t b g) (ht : listT nodeT x ≤ t.size + 3) (hy : fl = true → listT nodeT x < t.size ∧ ∀ x0, exprB x0 = true → exprT x0 = t.data.toList → x = x0) (hn : fl = false → ∀ x0, exprB x0 = true → exprT x0 ≠ t.data.toList) :
    Fd argW (fun e => exprB e = true) (listT nodeT) 3 s a false x b (g || !fl) := by
  have hlo := h1.lo
  have htot := h1.tot
  refine ⟨hlo, h1.up, by omega, fun e => (by cases e), fun _ e x0 r hx ee => ?_, fun e => ?_, fun e x0 r hx ee => ?_⟩
  · cases hg : g with
    | true => exact h1.no rfl hg _ r (argT_size hx) ee
    | false =>
      obtain ⟨e1, _⟩ := h1.yes hg _ r (argT_size hx) ee
      rw [hg, Bool.false_or, Bool.not_eq_true'] at e
      exact hn e x0 hx (by rw [e1, str_list])
  · rw [Bool.or_eq_false_iff, Bool.not_eq_false'] at e
    have := h1.pos e.1
    have := (hy e.2).1
    omega
  · rw [Bool.or_eq_false_iff, Bool.not_eq_false'] at e
    obtain ⟨e1, e2⟩ := h1.yes e.1 _ r (argT_size hx) ee
    exact ⟨(hy e.2).2 x0 hx (by rw [e1, str_list]), e2⟩
theorem sym_fd {s : ByteArray} {a b1 b2 b3 b4 : Nat} {o : Int} {tx bd : ByteArray} {es : List (List NodeD)} {f0 g1 g2 g3 g4 : Bool} (h1 : Fd (fun n => [byteW n]) (fun n => 0 ≤ n ∧ n ≤ 127) (fun _ => 0) 0 s a f0 o b1 g1)
    (h2 : Fd shortW (fun t => t.size ≤ 20000) ByteArray.size 0 s b1 g1 tx b2 g2) (h3 : Fd shortW (fun t => t.size ≤ 20000) ByteArray.size 0 s b2 g2 bd b3 g3) (h4 : Fd (listW argW) (ListC 10 fun e => exprB e = true) (listT (listT nodeT)) 4 s b3 g3 es b4 g4) :
    Fd symW SymC symT 4 s a f0 ⟨o, tx, es, bd⟩ b4 g4 :=
  (h1.pair (h2.pair (h3.pair h4))).as (by show tx.size + bd.size + listT (listT nodeT) es = 0 + (tx.size + (bd.size + listT (listT nodeT) es)); omega) (by decide) (fun y0 hy => ⟨(y0.kind, y0.text, y0.bind, y0.args), ⟨hy.1, hy.2.1, hy.2.2.1, hy.2.2.2⟩, rfl, fun e => by
    cases y0
    cases e
    rfl⟩)

set_option maxHeartbeats 6400000 in
set_option maxRecDepth 100000 in
theorem spSym_any (p : Nat) (s : ByteArray) (a : Nat) (w : World) (hs : s.size ≤ 1048576) (ha : a ≤ s.size) (h : CuA p s a false w) :
    Calls Tryz.prog 12 #[.pointer (some ⟨p, 0, none⟩)] w fun e w' => SpOut symW SymC symT 4 RdSy p s a false w e w' := by
  obtain ⟨i0, hi, hz0, hz1, hz2⟩ := info_parts Tryz.infoExprR
  have hpw : p < w.heap.size := (Array.getElem?_eq_some_iff.1 h).1
  have bal : Below w.heap.size w (w.alloc (.cells #[.int .i64 0, .string ⟨#[]⟩, .slice none 0 0, .string ⟨#[]⟩] 46)) := (Below.refl _ _).alloc (Nat.le_refl _) _
  have HA1 : Hid (CuA p s a false (w.alloc (.cells #[.int .i64 0, .string ⟨#[]⟩, .slice none 0 0, .string ⟨#[]⟩] 46))) := CuA.below h bal
  have HK1 : Hid (Kp (fun q => q = p) w (w.alloc (.cells #[.int .i64 0, .string ⟨#[]⟩, .slice none 0 0, .string ⟨#[]⟩] 46))) := Kp.below bal
  have HR1 : Hid ((w.alloc (.cells #[.int .i64 0, .string ⟨#[]⟩, .slice none 0 0, .string ⟨#[]⟩] 46)).heap[w.heap.size]? = some (.cells #[.int .i64 0, .string ⟨#[]⟩, .slice none 0 0, .string ⟨#[]⟩] 46 (0, 0))) := heap_alloc_new w _
  clear h bal
  go_enter Tryz.func12, Tryz.ntmps12
  go_wp2_with fail
  generalize w.alloc (.cells #[.int .i64 0, .string ⟨#[]⟩, .slice none 0 0, .string ⟨#[]⟩] 46) = w1 at *
  refine (spByte_any p s a false w1 hs ha HA1.out).mono ?_
  rintro e w2 ⟨hk2, v2, o, b1, g1, rfl, ⟨rfl, ho⟩, hA2, hF2⟩
  have hw1 : w.heap.size < w1.heap.size := (Array.getElem?_eq_some_iff.1 HR1.out).1
  have r2 : w2.heap[w.heap.size]? = some (.cells #[.int .i64 0, .string ⟨#[]⟩, .slice none 0 0, .string ⟨#[]⟩] 46 (0, 0)) := (hk2.block _ hw1 (by omega)).trans HR1.out
  have hw2 : w.heap.size < w2.heap.size := (Array.getElem?_eq_some_iff.1 r2).1
  have bal2 : Below w2.heap.size w2 (w2.alloc (.cells #[.int .i64 o, .string ⟨#[]⟩, .slice none 0 0, .string ⟨#[]⟩] 46)) := (Below.refl _ _).alloc (Nat.le_refl _) _
  have HX3 : Hid ((w2.alloc (.cells #[.int .i64 o, .string ⟨#[]⟩, .slice none 0 0, .string ⟨#[]⟩] 46)).heap[w2.heap.size]? = some (.cells #[.int .i64 o, .string ⟨#[]⟩, .slice none 0 0, .string ⟨#[]⟩] 46 (0, 0))) := heap_alloc_new w2 _
  have HR3 : Hid ((w2.alloc (.cells #[.int .i64 o, .string ⟨#[]⟩, .slice none 0 0, .string ⟨#[]⟩] 46)).heap[w.heap.size]? = some (.cells #[.int .i64 0, .string ⟨#[]⟩, .slice none 0 0, .string ⟨#[]⟩] 46 (0, 0))) := (bal2.block _ hw2).trans r2
  have HA3 : Hid (CuA p s b1 g1 (w2.alloc (.cells #[.int .i64 o, .string ⟨#[]⟩, .slice none 0 0, .string ⟨#[]⟩] 46))) := CuA.below hA2 bal2
  have HK3 : Hid (Kp (fun q => q = p) w (w2.alloc (.cells #[.int .i64 o, .string ⟨#[]⟩, .slice none 0 0, .string ⟨#[]⟩] 46))) := (HK1.out.trans hk2).trans (Kp.below bal2)
  have HF2 : Hid (Fd (fun n => [byteW n]) (fun n => 0 ≤ n ∧ n ≤ 127) (fun _ => 0) 0 s a false o b1 g1) := hF2
  have HX : Hid (w.heap.size < w2.heap.size) := hw2
  have hb1u := hF2.up
  clear hk2 hA2 hF2 r2 bal2 hw1 hw2 HR1 HA1 HK1
  go_wp2_with fail
  generalize w2.alloc (.cells #[.int .i64 o, .string ⟨#[]⟩, .slice none 0 0, .string ⟨#[]⟩] 46) = w3 at *
  generalize w2.heap.size = X at *
  refine (spShort_any p s b1 g1 w3 hs hb1u HA3.out).mono ?_
  rintro e w4 ⟨hk4, v4, tx, b2, g2, rfl, ⟨rfl, htx⟩, hA4, hF4⟩
  have hXw := HX.out
  have hX3 : X < w3.heap.size := (Array.getElem?_eq_some_iff.1 HX3.out).1
  have x4 : w4.heap[X]? = some (.cells #[.int .i64 o, .string ⟨#[]⟩, .slice none 0 0, .string ⟨#[]⟩] 46 (0, 0)) := (hk4.block _ hX3 (by omega)).trans HX3.out
  have c4 := run_cell (j := 1) x4 rfl
  have f4 := run_frozen (j := 1) x4
  have HF4 : Hid (Fd shortW (fun t => t.size ≤ 20000) ByteArray.size 0 s b1 g1 tx b2 g2) := hF4
  have HX4 : Hid ((w4.setCell ⟨X, 1, none⟩ (.string tx)).heap[X]? = some (.cells #[.int .i64 o, .string tx, .slice none 0 0, .string ⟨#[]⟩] 46 (0, 0))) := setCell_self (j := 1) _ x4
  have HR4 : Hid ((w4.setCell ⟨X, 1, none⟩ (.string tx)).heap[w.heap.size]? = some (.cells #[.int .i64 0, .string ⟨#[]⟩, .slice none 0 0, .string ⟨#[]⟩] 46 (0, 0))) := (setCell_other _ (by omega)).trans ((hk4.block _ (by omega) (by omega)).trans HR3.out)
  have HA4 : Hid (CuA p s b2 g2 (w4.setCell ⟨X, 1, none⟩ (.string tx))) := (setCell_other _ (by omega)).trans hA4
  have HK4 : Hid (Kp (fun q => q = p) w (w4.setCell ⟨X, 1, none⟩ (.string tx))) := by
    have h1 := HK3.out.trans hk4
    exact ⟨h1.os, h1.tape, h1.output, by have := h1.size; simpa [World.setCell] using this, fun j hj hF => (setCell_other _ (by omega)).trans (h1.block j hj hF)⟩
  have hb2u := hF4.up
  clear hk4 hA4 hF4 x4 hX3 HX3 HR3 HA3 HK3
  go_wp2_with fail
  generalize w4.setCell ⟨X, 1, none⟩ (.string tx) = w5 at *
  refine (spShort_any p s b2 g2 w5 hs hb2u HA4.out).mono ?_
  rintro e w6 ⟨hk6, v6, bd, b3, g3, rfl, ⟨rfl, hbd⟩, hA6, hF6⟩
  have hX5 : X < w5.heap.size := (Array.getElem?_eq_some_iff.1 HX4.out).1
  have x6 : w6.heap[X]? = some (.cells #[.int .i64 o, .string tx, .slice none 0 0, .string ⟨#[]⟩] 46 (0, 0)) := (hk6.block _ hX5 (by omega)).trans HX4.out
  have c6 := run_cell (j := 3) x6 rfl
  have f6 := run_frozen (j := 3) x6
  have HF6 : Hid (Fd shortW (fun t => t.size ≤ 20000) ByteArray.size 0 s b2 g2 bd b3 g3) := hF6
  have HX6 : Hid ((w6.setCell ⟨X, 3, none⟩ (.string bd)).heap[X]? = some (.cells #[.int .i64 o, .string tx, .slice none 0 0, .string bd] 46 (0, 0))) := setCell_self (j := 3) _ x6
  have HR6 : Hid ((w6.setCell ⟨X, 3, none⟩ (.string bd)).heap[w.heap.size]? = some (.cells #[.int .i64 0, .string ⟨#[]⟩, .slice none 0 0, .string ⟨#[]⟩] 46 (0, 0))) := (setCell_other _ (by omega)).trans ((hk6.block _ (by omega) (by omega)).trans HR4.out)
  have HA6 : Hid (CuA p s b3 g3 (w6.setCell ⟨X, 3, none⟩ (.string bd))) := (setCell_other _ (by omega)).trans hA6
  have HK6 : Hid (Kp (fun q => q = p) w (w6.setCell ⟨X, 3, none⟩ (.string bd))) := by
    have h1 := HK4.out.trans hk6
    exact ⟨h1.os, h1.tape, h1.output, by have := h1.size; simpa [World.setCell] using this, fun j hj hF => (setCell_other _ (by omega)).trans (h1.block j hj hF)⟩
  have hb3u := hF6.up
  clear hk6 hA6 hF6 x6 hX5 HX4 HR4 HA4 HK4 c4 f4
  go_wp2_with fail
  generalize w6.setCell ⟨X, 3, none⟩ (.string bd) = w7 at *
  refine (spVar_any p s b3 g3 w7 hs hb3u HA6.out).mono ?_
  rintro e w8 ⟨hk8, v8, N, a1, g4, rfl, ⟨rfl, hN⟩, hA8, hF8⟩
  have hX7 : X < w7.heap.size := (Array.getElem?_eq_some_iff.1 HX6.out).1
  have HX8 : Hid (w8.heap[X]? = some (.cells #[.int .i64 o, .string tx, .slice none 0 0, .string bd] 46 (0, 0))) := (hk8.block _ hX7 (by omega)).trans HX6.out
  have HR8 : Hid (w8.heap[w.heap.size]? = some (.cells #[.int .i64 0, .string ⟨#[]⟩, .slice none 0 0, .string ⟨#[]⟩] 46 (0, 0))) := (hk8.block _ (by omega) (by omega)).trans HR6.out
  have HA8 : Hid (CuA p s a1 g4 w8) := hA8
  have HK8 : Hid (Kp (fun q => q = p) w w8) := HK6.out.trans hk8
  have HF8 : Hid (Fd varB (· ≤ 1000000000) (fun _ => 0) 0 s b3 g3 N a1 g4) := hF8
  have HS8 : Hid (X + 1 ≤ w8.heap.size) := by have := hk8.size; rw [Hid]; omega
  clear hk8 hA8 hF8 hX7 HX6 HR6 HA6 HK6 c6 f6
  go_wp2
  go_loopw [5] (fun iv wr => ∃ (es : List (List NodeD)) (av : Value) (b : Nat) (g : Bool), iv = .int .i64 (es.length : Int) ∧ (es.length ≤ N ∧ es.length ≤ 10) ∧ wr.heap[X]? = some (.cells #[.int .i64 o, .string tx, av, .string bd] 46 (0, 0)) ∧ wr.heap[w.heap.size]? = some (.cells #[.int .i64 0, .string ⟨#[]⟩, .slice none 0 0, .string ⟨#[]⟩] 46 (0, 0)) ∧ RowF 1 66 ExprF (Nw (X + 1) wr.heap.size) av es wr ∧ CuA p s b g wr ∧ (Kp (fun q => q = p) w wr ∧ X + 1 ≤ wr.heap.size) ∧ LoopS argW (fun e => exprB e = true) (listT nodeT) 3 s a1 g4 N es b g ∧ ∀ e ∈ es, ∀ y ∈ e, NdIn y) (fun iv _ => N - (intOf iv).toNat)
  case atStart => exact ⟨[], _, a1, g4, rfl, ⟨Nat.zero_le _, Nat.zero_le _⟩, HX8.out, HR8.out, RowF.none, HA8.out, ⟨HK8.out, HS8.out⟩, LoopS.start HF8.out.up, fun t ht => by cases ht⟩
  case round =>
    clear HX8 HR8 HA8 HK8 HS8
    obtain ⟨es, av, b, g, rfl, ⟨hkN, hk10⟩, hx0, hr0, ho0, hA0, ⟨hK0, hS0⟩, hL0, hIn0⟩ := hrel
    obtain ⟨wk, rfl⟩ : ∃ W, W = wr := ⟨wr, rfl⟩
    obtain ⟨oa, oc, rfl⟩ := ho0.slice
    have HXk : Hid (wk.heap[X]? = some (.cells #[.int .i64 o, .string tx, .slice oa es.length oc, .string bd] 46 (0, 0))) := hx0
    have HRk : Hid (wk.heap[w.heap.size]? = some (.cells #[.int .i64 0, .string ⟨#[]⟩, .slice none 0 0, .string ⟨#[]⟩] 46 (0, 0))) := hr0
    have HOk : Hid (RowF 1 66 ExprF (Nw (X + 1) wk.heap.size) (.slice oa es.length oc) es wk) := ho0
    have HAk : Hid (CuA p s b g wk) := hA0
    have HKk : Hid (Kp (fun q => q = p) w wk) := hK0
    have HSk : Hid (X + 1 ≤ wk.heap.size) := hS0
    have HLk : Hid (LoopS argW (fun e => exprB e = true) (listT nodeT) 3 s a1 g4 N es b g) := hL0
    have HInk : Hid (∀ e ∈ es, ∀ y ∈ e, NdIn y) := hIn0
    have hbu : b ≤ s.size := hL0.up
    have cfl := run_cell (j := 2) hA0 rfl
    clear hx0 hr0 ho0 hA0 hK0 hS0 hL0 hIn0
    by_cases hgo : (es.length < N ∧ es.length < 10) ∧ g = false
    · obtain ⟨⟨hlt, hlt3⟩, rfl⟩ := hgo
      have i4 : (es.length : Int) < (N : Int) := by omega
      have i5 : (es.length : Int) < 10 := by omega
      go_wp2_with fail
      refine (spShort_any p s b false wk hs hbu HAk.out).mono ?_
      rintro e w5 ⟨hk5, v5, t, b5, g5, rfl, ⟨rfl, ht5⟩, hA5, hF5⟩
      have HA5 : Hid (CuA p s b5 g5 w5) := hA5
      have HK5 : Hid (Kp (fun q => q = p) wk w5) := hk5
      have HF5 : Hid (Fd shortW (fun t => t.size ≤ 20000) ByteArray.size 0 s b false t b5 g5) := hF5
      clear hk5 hA5 hF5 cfl
      go_wp2_with fail
      refine (spExpr_any t w5 ht5).mono ?_
      rintro e w6 ⟨hb6, v6, x, fl, rfl, hro, hin, htt, hyy, hnn⟩
      obtain ⟨ea, ec, rfl⟩ := hro.slice
      have bal6 : Below w6.heap.size w6 (w6.alloc (.cells #[.slice ea x.length ec] 66)) := (Below.refl _ _).alloc (Nat.le_refl _) _
      have hb6a : Below w5.heap.size w5 (w6.alloc (.cells #[.slice ea x.length ec] 66)) := hb6.trans (bal6.mono hb6.size)
      have hk5s := HK5.out.size
      have hb6s := hb6a.size
      have hSk := HSk.out
      have HwZ : Hid (w.heap.size < X ∧ wk.heap.size ≤ w6.heap.size) := ⟨HX.out, by have := hb6.size; omega⟩
      have HA6 : Hid (CuA p s b5 g5 (w6.alloc (.cells #[.slice ea x.length ec] 66))) := CuA.below HA5.out hb6a
      have kwk : Kp (fun q => q = p) wk (w6.alloc (.cells #[.slice ea x.length ec] 66)) := HK5.out.trans (Kp.below hb6a)
      have HKb0 : Hid (Kp (fun q => q = p) w (w6.alloc (.cells #[.slice ea x.length ec] 66))) := HKk.out.trans kwk
      have HXb0 : Hid ((w6.alloc (.cells #[.slice ea x.length ec] 66)).heap[X]? = some (.cells #[.int .i64 o, .string tx, .slice oa es.length oc, .string bd] 46 (0, 0))) := (kwk.block _ (by omega) (by have := HX.out; omega)).trans HXk.out
      have HRb0 : Hid ((w6.alloc (.cells #[.slice ea x.length ec] 66)).heap[w.heap.size]? = some (.cells #[.int .i64 0, .string ⟨#[]⟩, .slice none 0 0, .string ⟨#[]⟩] 46 (0, 0))) := (kwk.block _ (by have := HX.out; omega) (by omega)).trans HRk.out
      have HYb0 : Hid ((w6.alloc (.cells #[.slice ea x.length ec] 66)).heap[w6.heap.size]? = some (.cells #[.slice ea x.length ec] 66 (0, 0))) := heap_alloc_new w6 _
      have HOb0 : Hid (RowF 1 66 ExprF (Nw (X + 1) wk.heap.size) (.slice oa es.length oc) es (w6.alloc (.cells #[.slice ea x.length ec] 66))) := HOk.out.ag stabExpr (kwk.ag (fun q hq e => by have := hq.1; have := HX.out; omega))
      have HEn0 : Hid (RowF 4 93 NodeF (Nw wk.heap.size w6.heap.size) (.slice ea x.length ec) x (w6.alloc (.cells #[.slice ea x.length ec] 66))) := (hro.below stabNode bal6).up (fun q hq => ⟨by have := hq.1; omega, hq.2⟩)
      have HY : Hid (wk.heap.size ≤ w6.heap.size ∧ w6.heap.size < (w6.alloc (.cells #[.slice ea x.length ec] 66)).heap.size) := ⟨HwZ.out.2, by rw [World.size_alloc]; omega⟩
      have HAr : Hid (Fd argW (fun e => exprB e = true) (listT nodeT) 3 s b false x b5 (g5 || !fl)) := arg_fd HF5.out htt hyy hnn
      have HLn0 : Hid (LoopS argW (fun e => exprB e = true) (listT nodeT) 3 s a1 g4 N (es ++ [x]) b5 (g5 || !fl)) := HLk.out.next hlt HAr.out
      have HS5 : Hid (∀ e ∈ es ++ [x], ∀ y ∈ e, NdIn y) := fun e he => by
        rcases List.mem_append.1 he with he | he
        · exact HInk.out e he
        · rw [List.mem_singleton.1 he]; exact hin
      clear hb6 hro hin htt hyy hnn bal6 hb6a kwk HAr hk5s hb6s
      cases fl with
      | true =>
        have HXb := HXb0
        have HRb := HRb0
        have HYb := HYb0
        have HOb := HOb0
        have HKb := HKb0
        have HAb := HA6
        have HwY : Hid (wk.heap.size ≤ (w6.alloc (.cells #[.slice ea x.length ec] 66)).heap.size) := by have := HY.out; rw [Hid]; omega
        have HEn : Hid (ExprF (Nw wk.heap.size (w6.alloc (.cells #[.slice ea x.length ec] 66)).heap.size) (w6.alloc (.cells #[.slice ea x.length ec] 66)) [.slice ea x.length ec] x) := ⟨_, rfl, HEn0.out.up (fun q hq => ⟨hq.1, by have := hq.2; have := HY.out; omega⟩)⟩
        have HLn : Hid (LoopS argW (fun e => exprB e = true) (listT nodeT) 3 s a1 g4 N (es ++ [x]) b5 g5) := by have h1 := HLn0.out; rw [Bool.not_true, Bool.or_false] at h1; exact h1
        have hX11 := HX.out
        have hY11 := HY.out
        have e0 := run_cell (j := 0) HYb.out rfl
        have e2 := run_cell (j := 2) HXb.out rfl
        obtain ⟨cs, hcs, hAdd⟩ := HOb.out.add stabExpr HSk.out HwY.out
        have HCs : Hid (((w6.alloc (.cells #[.slice ea x.length ec] 66))).ownsRow 0 66 1 (.slice oa es.length oc) es.length cs) := hcs
        have HAdd : Hid (_) := hAdd
        have hne : ∀ q, (Value.slice oa es.length oc).ownBlock = some q → X + 1 ≤ q ∧ q < wk.heap.size := fun q hq => (HOb.out.lt q hq).1
        have hz7 : ((w6.alloc (.cells #[.slice ea x.length ec] 66))).heap.size = w6.heap.size + 1 := by simp
        clear hcs hAdd
        go_wp2_with (at_builtin; refine wpList_append_own_at _ rfl _ _ 44 rfl 0 66 i0 _ 1 24 Tryz.underlying44 hi hz0 hz1 hz2 rfl (by decide) _ _ _ rfl (World.ownsRow.alloc HCs.out _) ⟨_, 0, none⟩ 1 1 [.slice ea x.length ec] rfl rfl (by intro j u h; have h7 := cellsR ((w6.alloc (.cells #[.slice ea x.length ec] 66))) [.slice ea x.length ec] 66 j u h; rw [hz7] at h7; exact h7) (by intro u hu; simp only [List.mem_cons, List.not_mem_nil, or_false] at hu; rcases hu with rfl; rfl) (by unfold maxLen; omega) (by omega) (Nat.zero_le _) ?_)
        intro v9 w9 hown9 hgr9 _ hat9
        obtain ⟨a9, k9, rfl⟩ := shapeR hown9
        have hs9 : ((w6.alloc (.cells #[.slice ea x.length ec] 66))).heap.size + 1 ≤ w9.heap.size := by have := hgr9.size; rw [World.size_alloc] at this; exact this
        have hz9 := HwZ.out
        have hgb : ∀ j, j < ((w6.alloc (.cells #[.slice ea x.length ec] 66))).heap.size → (∀ q, (Value.slice oa es.length oc).ownBlock = some q → j ≠ q) → w9.heap[j]? = ((w6.alloc (.cells #[.slice ea x.length ec] 66))).heap[j]? := fun j hj hn => (hgr9.block j (by rw [World.size_alloc]; omega) (fun e => hn _ e.symm rfl)).trans (Below.heap_alloc _ _ j hj)
        have hO9 : RowF 1 66 ExprF (Nw (X + 1) w9.heap.size) (.slice a9 (es.length + 1) k9) (es ++ [x]) w9 := HAdd.out _ w9 _ _ _ x rfl (Below.refl _ _) HEn.out hown9 hgr9 (hat9.imp_right (fun e => by rw [e]; simp))
        have hX9 : w9.heap[X]? = some (.cells #[.int .i64 o, .string tx, .slice oa es.length oc, .string bd] 46 (0, 0)) := (hgb _ (by omega) (fun q hq => by have := hne q hq; omega)).trans HXb.out
        have c9 := run_cell (j := 2) hX9 rfl
        have f9 := run_frozen (j := 2) hX9
        have HX10 : Hid ((w9.setCell ⟨X, 2, none⟩ (.slice a9 (es.length + 1) k9)).heap[X]? = some (.cells #[.int .i64 o, .string tx, .slice a9 (es.length + 1) k9, .string bd] 46 (0, 0))) := setCell_self (j := 2) _ hX9
        have HR10 : Hid ((w9.setCell ⟨X, 2, none⟩ (.slice a9 (es.length + 1) k9)).heap[w.heap.size]? = some (.cells #[.int .i64 0, .string ⟨#[]⟩, .slice none 0 0, .string ⟨#[]⟩] 46 (0, 0))) := (setCell_other _ (by omega)).trans ((hgb _ (by omega) (fun q hq => by have := hne q hq; omega)).trans HRb.out)
        have HA10 : Hid (CuA p s b5 g5 (w9.setCell ⟨X, 2, none⟩ (.slice a9 (es.length + 1) k9))) := (setCell_other _ (by omega)).trans ((hgb _ (by omega) (fun q hq => by have := hne q hq; omega)).trans HAb.out)
        have HO10 : Hid (RowF 1 66 ExprF (Nw (X + 1) (w9.setCell ⟨X, 2, none⟩ (.slice a9 (es.length + 1) k9)).heap.size) (.slice a9 (es.length + 1) k9) (es ++ [x]) (w9.setCell ⟨X, 2, none⟩ (.slice a9 (es.length + 1) k9))) :=
          (hO9.ag stabExpr ((Kp.store (F := fun q => q = X) (w := w9) (o := 2) (u := .slice a9 (es.length + 1) k9) rfl).ag (fun q hq e => by have := hq.1; omega))).up (fun q hq => ⟨hq.1, by have h4 := hq.2; simpa [World.setCell] using h4⟩)
        have HK10 : Hid (Kp (fun q => q = p) w (w9.setCell ⟨X, 2, none⟩ (.slice a9 (es.length + 1) k9))) := ⟨hgr9.os.trans HKb.out.os, hgr9.tape.trans HKb.out.tape, hgr9.output.trans HKb.out.output, by have := HKb.out.size; simp [World.setCell]; omega, fun j hj hF => (setCell_other _ (by omega)).trans ((hgb j (by omega) (fun q hq => by have := hne q hq; omega)).trans (HKb.out.block j hj hF))⟩
        have HS10 : Hid (X + 1 ≤ (w9.setCell ⟨X, 2, none⟩ (.slice a9 (es.length + 1) k9)).heap.size) := by rw [Hid]; simp [World.setCell]; omega
        clear hown9 hgr9 hat9 hgb hO9 hX9
        go_wp2
        go_roundw
        case rel => exact ⟨es ++ [x], _, b5, g5, by rw [List.length_append, List.length_singleton]; go_num, ⟨by rw [List.length_append, List.length_singleton]; omega, by rw [List.length_append, List.length_singleton]; omega⟩, HX10.out, HR10.out, HO10.out, HA10.out, ⟨HK10.out, HS10.out⟩, HLn.out, HS5.out⟩
        case measure => simp [intOf]; omega
      | false =>
        have fz := run_frozen (j := 2) HA6.out
        have cz := run_cell (j := 2) HA6.out rfl
        have hXlt := HX.out
        have hYlt := HY.out
        have hSk2 := HSk.out
        have HKs : Hid (Kp (fun q => q = p) (w6.alloc (.cells #[.slice ea x.length ec] 66)) ((w6.alloc (.cells #[.slice ea x.length ec] 66)).setCell ⟨p, 2, none⟩ (.bool true))) := Kp.store rfl
        have HXb : Hid (((w6.alloc (.cells #[.slice ea x.length ec] 66)).setCell ⟨p, 2, none⟩ (.bool true)).heap[X]? = some (.cells #[.int .i64 o, .string tx, .slice oa es.length oc, .string bd] 46 (0, 0))) := (setCell_other _ (by omega)).trans HXb0.out
        have HRb : Hid (((w6.alloc (.cells #[.slice ea x.length ec] 66)).setCell ⟨p, 2, none⟩ (.bool true)).heap[w.heap.size]? = some (.cells #[.int .i64 0, .string ⟨#[]⟩, .slice none 0 0, .string ⟨#[]⟩] 46 (0, 0))) := (setCell_other _ (by omega)).trans HRb0.out
        have HYb : Hid (((w6.alloc (.cells #[.slice ea x.length ec] 66)).setCell ⟨p, 2, none⟩ (.bool true)).heap[w6.heap.size]? = some (.cells #[.slice ea x.length ec] 66 (0, 0))) := (setCell_other _ (by omega)).trans HYb0.out
        have HOb : Hid (RowF 1 66 ExprF (Nw (X + 1) wk.heap.size) (.slice oa es.length oc) es ((w6.alloc (.cells #[.slice ea x.length ec] 66)).setCell ⟨p, 2, none⟩ (.bool true))) := HOb0.out.ag stabExpr (HKs.out.ag (fun q hq e => by have := hq.1; omega))
        have HKb : Hid (Kp (fun q => q = p) w ((w6.alloc (.cells #[.slice ea x.length ec] 66)).setCell ⟨p, 2, none⟩ (.bool true))) := HKb0.out.trans HKs.out
        have HAb : Hid (CuA p s b5 true ((w6.alloc (.cells #[.slice ea x.length ec] 66)).setCell ⟨p, 2, none⟩ (.bool true))) := cu_bad HA6.out
        have hsz : ((w6.alloc (.cells #[.slice ea x.length ec] 66)).setCell ⟨p, 2, none⟩ (.bool true)).heap.size = (w6.alloc (.cells #[.slice ea x.length ec] 66)).heap.size := by simp [World.setCell]
        have HwY : Hid (wk.heap.size ≤ ((w6.alloc (.cells #[.slice ea x.length ec] 66)).setCell ⟨p, 2, none⟩ (.bool true)).heap.size) := by rw [Hid]; omega
        have HEn : Hid (ExprF (Nw wk.heap.size ((w6.alloc (.cells #[.slice ea x.length ec] 66)).setCell ⟨p, 2, none⟩ (.bool true)).heap.size) ((w6.alloc (.cells #[.slice ea x.length ec] 66)).setCell ⟨p, 2, none⟩ (.bool true)) [.slice ea x.length ec] x) := ⟨_, rfl, (HEn0.out.ag stabNode (HKs.out.ag (fun q hq e => by have := hq.1; omega))).up (fun q hq => ⟨hq.1, by have := hq.2; omega⟩)⟩
        have HLn : Hid (LoopS argW (fun e => exprB e = true) (listT nodeT) 3 s a1 g4 N (es ++ [x]) b5 true) := by have h1 := HLn0.out; rw [Bool.not_false, Bool.or_true] at h1; exact h1
        have HY7 : Hid (wk.heap.size ≤ w6.heap.size ∧ w6.heap.size < ((w6.alloc (.cells #[.slice ea x.length ec] 66)).setCell ⟨p, 2, none⟩ (.bool true)).heap.size) := by rw [hsz]; exact hYlt
        clear HXb0 HRb0 HYb0 HOb0 HKb0 HA6 HKs HLn0 HEn0 HY hXlt hYlt hSk2 hsz
        have HY := HY7
        have hX11 := HX.out
        have hY11 := HY.out
        have e0 := run_cell (j := 0) HYb.out rfl
        have e2 := run_cell (j := 2) HXb.out rfl
        obtain ⟨cs, hcs, hAdd⟩ := HOb.out.add stabExpr HSk.out HwY.out
        have HCs : Hid (((w6.alloc (.cells #[.slice ea x.length ec] 66)).setCell ⟨p, 2, none⟩ (.bool true)).ownsRow 0 66 1 (.slice oa es.length oc) es.length cs) := hcs
        have HAdd : Hid (_) := hAdd
        have hne : ∀ q, (Value.slice oa es.length oc).ownBlock = some q → X + 1 ≤ q ∧ q < wk.heap.size := fun q hq => (HOb.out.lt q hq).1
        have hz7 : ((w6.alloc (.cells #[.slice ea x.length ec] 66)).setCell ⟨p, 2, none⟩ (.bool true)).heap.size = w6.heap.size + 1 := by simp [World.setCell]
        clear hcs hAdd
        go_wp2_with (at_builtin; refine wpList_append_own_at _ rfl _ _ 44 rfl 0 66 i0 _ 1 24 Tryz.underlying44 hi hz0 hz1 hz2 rfl (by decide) _ _ _ rfl (World.ownsRow.alloc HCs.out _) ⟨_, 0, none⟩ 1 1 [.slice ea x.length ec] rfl rfl (by intro j u h; have h7 := cellsR ((w6.alloc (.cells #[.slice ea x.length ec] 66)).setCell ⟨p, 2, none⟩ (.bool true)) [.slice ea x.length ec] 66 j u h; rw [hz7] at h7; exact h7) (by intro u hu; simp only [List.mem_cons, List.not_mem_nil, or_false] at hu; rcases hu with rfl; rfl) (by unfold maxLen; omega) (by omega) (Nat.zero_le _) ?_)
        intro v9 w9 hown9 hgr9 _ hat9
        obtain ⟨a9, k9, rfl⟩ := shapeR hown9
        have hs9 : ((w6.alloc (.cells #[.slice ea x.length ec] 66)).setCell ⟨p, 2, none⟩ (.bool true)).heap.size + 1 ≤ w9.heap.size := by have := hgr9.size; rw [World.size_alloc] at this; exact this
        have hz9 := HwZ.out
        have hgb : ∀ j, j < ((w6.alloc (.cells #[.slice ea x.length ec] 66)).setCell ⟨p, 2, none⟩ (.bool true)).heap.size → (∀ q, (Value.slice oa es.length oc).ownBlock = some q → j ≠ q) → w9.heap[j]? = ((w6.alloc (.cells #[.slice ea x.length ec] 66)).setCell ⟨p, 2, none⟩ (.bool true)).heap[j]? := fun j hj hn => (hgr9.block j (by rw [World.size_alloc]; omega) (fun e => hn _ e.symm rfl)).trans (Below.heap_alloc _ _ j hj)
        have hO9 : RowF 1 66 ExprF (Nw (X + 1) w9.heap.size) (.slice a9 (es.length + 1) k9) (es ++ [x]) w9 := HAdd.out _ w9 _ _ _ x rfl (Below.refl _ _) HEn.out hown9 hgr9 (hat9.imp_right (fun e => by rw [e]; simp [World.setCell]))
        have hX9 : w9.heap[X]? = some (.cells #[.int .i64 o, .string tx, .slice oa es.length oc, .string bd] 46 (0, 0)) := (hgb _ (by omega) (fun q hq => by have := hne q hq; omega)).trans HXb.out
        have c9 := run_cell (j := 2) hX9 rfl
        have f9 := run_frozen (j := 2) hX9
        have HX10 : Hid ((w9.setCell ⟨X, 2, none⟩ (.slice a9 (es.length + 1) k9)).heap[X]? = some (.cells #[.int .i64 o, .string tx, .slice a9 (es.length + 1) k9, .string bd] 46 (0, 0))) := setCell_self (j := 2) _ hX9
        have HR10 : Hid ((w9.setCell ⟨X, 2, none⟩ (.slice a9 (es.length + 1) k9)).heap[w.heap.size]? = some (.cells #[.int .i64 0, .string ⟨#[]⟩, .slice none 0 0, .string ⟨#[]⟩] 46 (0, 0))) := (setCell_other _ (by omega)).trans ((hgb _ (by omega) (fun q hq => by have := hne q hq; omega)).trans HRb.out)
        have HA10 : Hid (CuA p s b5 true (w9.setCell ⟨X, 2, none⟩ (.slice a9 (es.length + 1) k9))) := (setCell_other _ (by omega)).trans ((hgb _ (by omega) (fun q hq => by have := hne q hq; omega)).trans HAb.out)
        have HO10 : Hid (RowF 1 66 ExprF (Nw (X + 1) (w9.setCell ⟨X, 2, none⟩ (.slice a9 (es.length + 1) k9)).heap.size) (.slice a9 (es.length + 1) k9) (es ++ [x]) (w9.setCell ⟨X, 2, none⟩ (.slice a9 (es.length + 1) k9))) :=
          (hO9.ag stabExpr ((Kp.store (F := fun q => q = X) (w := w9) (o := 2) (u := .slice a9 (es.length + 1) k9) rfl).ag (fun q hq e => by have := hq.1; omega))).up (fun q hq => ⟨hq.1, by have h4 := hq.2; simpa [World.setCell] using h4⟩)
        have HK10 : Hid (Kp (fun q => q = p) w (w9.setCell ⟨X, 2, none⟩ (.slice a9 (es.length + 1) k9))) := ⟨hgr9.os.trans HKb.out.os, hgr9.tape.trans HKb.out.tape, hgr9.output.trans HKb.out.output, by have := HKb.out.size; simp [World.setCell]; omega, fun j hj hF => (setCell_other _ (by omega)).trans ((hgb j (by omega) (fun q hq => by have := hne q hq; omega)).trans (HKb.out.block j hj hF))⟩
        have HS10 : Hid (X + 1 ≤ (w9.setCell ⟨X, 2, none⟩ (.slice a9 (es.length + 1) k9)).heap.size) := by rw [Hid]; simp [World.setCell]; omega
        clear hown9 hgr9 hat9 hgb hO9 hX9
        go_wp2
        go_roundw
        case rel => exact ⟨es ++ [x], _, b5, true, by rw [List.length_append, List.length_singleton]; go_num, ⟨by rw [List.length_append, List.length_singleton]; omega, by rw [List.length_append, List.length_singleton]; omega⟩, HX10.out, HR10.out, HO10.out, HA10.out, ⟨HK10.out, HS10.out⟩, HLn.out, HS5.out⟩
        case measure => simp [intOf]; omega
    · have HEx : Hid (g = false → N ≤ es.length ∨ 10 ≤ es.length) := fun e => by
        by_cases h1 : es.length < N
        · by_cases h2 : es.length < 10
          · exact absurd ⟨⟨h1, h2⟩, e⟩ hgo
          · exact .inr (by omega)
        · exact .inl (by omega)
      have HFd : Hid (Fd symW SymC symT 4 s a false ⟨o, tx, es, bd⟩ b g) := sym_fd HF2.out HF4.out HF6.out (HLk.out.fin (by decide) HF8.out hkN HEx.out)
      have hor : (¬ es.length < N) ∨ (es.length < N ∧ ¬ es.length < 10) ∨ ((es.length < N ∧ es.length < 10) ∧ g = true) := by
        by_cases h1 : es.length < N
        · by_cases h2 : es.length < 10
          · exact .inr (.inr ⟨⟨h1, h2⟩, by cases g <;> simp_all⟩)
          · exact .inr (.inl ⟨h1, h2⟩)
        · exact .inl h1
      have hSk := HSk.out
      have hXlt := HX.out
      have x0 := run_cell (j := 0) HXk.out rfl
      have x1 := run_cell (j := 1) HXk.out rfl
      have x2 := run_cell (j := 2) HXk.out rfl
      have x3 := run_cell (j := 3) HXk.out rfl
      have y0 := run_cell (j := 0) HRk.out rfl
      have y1 := run_cell (j := 1) HRk.out rfl
      have y2 := run_cell (j := 2) HRk.out rfl
      have y3 := run_cell (j := 3) HRk.out rfl
      have f0 := run_frozen (j := 0) HRk.out
      have f1 := run_frozen (j := 1) HRk.out
      have f2 := run_frozen (j := 2) HRk.out
      have f3 := run_frozen (j := 3) HRk.out
      obtain ⟨V', hV'⟩ : ∃ V', V' = ((((wk.setCell ⟨w.heap.size, 0, none⟩ (.int .i64 o)).setCell ⟨w.heap.size, 1, none⟩ (.string tx)).setCell ⟨w.heap.size, 2, none⟩ (.slice oa es.length oc)).setCell ⟨w.heap.size, 3, none⟩ (.string bd)) := ⟨_, rfl⟩
      have HVe : Hid (V' = _) := hV'
      have hz : V'.heap[w.heap.size]? = some (.cells #[.int .i64 o, .string tx, .slice oa es.length oc, .string bd] 46 (0, 0)) := by
        rw [hV', setCell_self _ (setCell_self _ (setCell_self _ (setCell_self _ HRk.out)))]
        rfl
      have z0 : V'.cell? ⟨w.heap.size, 0, none⟩ = some (.int .i64 o) := run_cell hz rfl
      have z1 : V'.cell? ⟨w.heap.size, 1, none⟩ = some (.string tx) := run_cell hz rfl
      have z2 : V'.cell? ⟨w.heap.size, 2, none⟩ = some (.slice oa es.length oc) := run_cell hz rfl
      have z3 : V'.cell? ⟨w.heap.size, 3, none⟩ = some (.string bd) := run_cell hz rfl
      have k1 : Kp (fun q => q = w.heap.size) wk V' := by
        have st : ∀ (U : World) (j : Nat) (u : Value), Kp (fun q => q = w.heap.size) U (U.setCell ⟨w.heap.size, j, none⟩ u) := fun U j u => Kp.store rfl
        rw [hV']
        exact (((st _ _ _).trans (st _ _ _)).trans (st _ _ _)).trans (st _ _ _)
      have hks := k1.size
      have HR9 : Hid (RowF 1 66 ExprF (Nw w.heap.size V'.heap.size) (.slice oa es.length oc) es V') :=
        (HOk.out.ag stabExpr (k1.ag (fun q hq e => by have := hq.1; omega))).up (fun q hq => ⟨by have := hq.1; omega, by have := hq.2; omega⟩)
      have HA9 : Hid (CuA p s b g V') := (k1.block p (by omega) (by omega)).trans HAk.out
      have HK9 : Hid (Kp (fun q => q = p) w V') := ⟨k1.os.trans HKk.out.os, k1.tape.trans HKk.out.tape, k1.output.trans HKk.out.output, by have := HKk.out.size; omega, fun j hj hF => (k1.block j (by omega) (by omega)).trans (HKk.out.block j hj hF)⟩
      clear hV' hz k1 HLk HEx hgo
      rcases hor with hno | ⟨hyes, hno⟩ | ⟨⟨hyes, hyes3⟩, rfl⟩
      · have i4 : ¬ (es.length : Int) < (N : Int) := by omega
        go_wp2
        rw [← HVe.out]
        refine bodyPost_ret (by simp [results, Tryz.results12, go_sem, z0, z1, z2, z3]; try rfl) rfl ?_
        exact ⟨HK9.out, _, ⟨o, tx, es, bd⟩, b, g, rfl, ⟨_, rfl, HR9.out, ho, htx, hbd, HInk.out⟩, HA9.out, HFd.out⟩
      · have i4 : (es.length : Int) < (N : Int) := by omega
        have i5 : ¬ (es.length : Int) < 10 := by omega
        go_wp2
        rw [← HVe.out]
        refine bodyPost_ret (by simp [results, Tryz.results12, go_sem, z0, z1, z2, z3]; try rfl) rfl ?_
        exact ⟨HK9.out, _, ⟨o, tx, es, bd⟩, b, g, rfl, ⟨_, rfl, HR9.out, ho, htx, hbd, HInk.out⟩, HA9.out, HFd.out⟩
      · have i4 : (es.length : Int) < (N : Int) := by omega
        have i5 : (es.length : Int) < 10 := by omega
        go_wp2
        rw [← HVe.out]
        refine bodyPost_ret (by simp [results, Tryz.results12, go_sem, z0, z1, z2, z3]; try rfl) rfl ?_
        exact ⟨HK9.out, _, ⟨o, tx, es, bd⟩, b, true, rfl, ⟨_, rfl, HR9.out, ho, htx, hbd, HInk.out⟩, HA9.out, HFd.out⟩

end Go.Proofs.YtokidlklkgghkaaGreatDoor
