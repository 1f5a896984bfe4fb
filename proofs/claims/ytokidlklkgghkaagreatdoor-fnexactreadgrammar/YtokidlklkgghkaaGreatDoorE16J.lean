/- The program's writers of texts, args, syms, alternatives and rules (printed by mk/e16j.py). -/
import Derived.Test.YtokidlklkgghkaaGreatDoorINam
import Derived.Test.YtokidlklkgghkaaGreatDoorGmA
namespace Go.Proofs.YtokidlklkgghkaaGreatDoor
open Go.RowKit
set_option linter.unusedVariables false

theorem WrO.pre {B b : Nat} {m : List UInt8} {w w1 w2 : World} {e : Ending} (hb : Below w.heap.size w w1) (hBw : B ≤ w.heap.size) (k : WrO B b m w1 e w2) : WrO B b m w e w2 :=
  ⟨k.1, k.2.1, (hb.mono hBw).trans k.2.2.1, (okept_below hb).trans k.2.2.2⟩
theorem WrO.cons {B b : Nat} {l m : List UInt8} {w w1 w2 : World} {e e' : Ending} (h : WrO B b l w e w1) (k : WrO B b m w1 e' w2) : WrO B b m w e' w2 :=
  ⟨k.1, k.2.1, h.2.2.1.trans k.2.2.1, h.2.2.2.trans k.2.2.2⟩
theorem stepJ {α : Type} (f : α → List UInt8) (xs : List α) (k : Nat) (h : k < xs.length) (L : List UInt8) : L ++ (varB xs.length ++ ((xs.take (k + 1)).map f).flatten) = (L ++ (varB xs.length ++ ((xs.take k).map f).flatten)) ++ f xs[k] := by
  rw [listW_next f xs k h, List.append_assoc, List.append_assoc, List.append_assoc]
theorem flatJ {α : Type} (f : α → List UInt8) (xs : List α) (k : Nat) (h : k < xs.length) : (varB xs.length ++ ((xs.take k).map f).flatten).length + (f xs[k]).length ≤ (listW f xs).length := by
  have h1 := flat_take_le f xs (k + 1)
  rw [listW_next f xs k h, List.length_append] at h1
  exact h1
theorem endJ {α : Type} (f : α → List UInt8) (xs : List α) (L : List UInt8) : L ++ (varB xs.length ++ ((xs.take xs.length).map f).flatten) = L ++ listW f xs := by rw [List.take_length]; rfl
theorem startJ {α : Type} (f : α → List UInt8) (xs : List α) (L : List UInt8) : L ++ (varB xs.length ++ ((xs.take 0).map f).flatten) = L ++ varB xs.length := by rw [List.take_zero, List.map_nil, List.flatten_nil, List.append_nil]

/-- What may be written. -/
def SymP (x : SymD) : Prop := SymZ x ∧ (∀ e ∈ x.args, NIn e) ∧ x.args.length ≤ 1048576
def AltP (a : List SymD) : Prop := (∀ s ∈ a, SymP s) ∧ a.length ≤ 1048576
def RuleP (r : RuleD) : Prop := r.name.size ≤ 100 ∧ (∀ p ∈ r.params, p.size ≤ 100) ∧ r.params.length ≤ 1048576 ∧ (∀ a ∈ r.alts, AltP a) ∧ r.alts.length ≤ 1048576

set_option maxHeartbeats 2000000 in
set_option maxRecDepth 100000 in
theorem wrsstring_any (w0 : World) (B b : Nat) (l : List UInt8) (v : Value) (xs : List (ByteArray)) (w : World) (hB0 : w0.heap.size = B) (h : WrB B b l w) (hv : SRow w0 v xs) (hb0 : Below B w0 w) (hs : ∀ x ∈ xs, x.size ≤ 100) (hn : xs.length ≤ 1048576) (hlen : l.length + (listW shortW xs).length ≤ 900000000) :
    Calls Tryz.prog 70 #[.pointer (some ⟨b, 0, none⟩), .func (.func 69) #[.pointer (some ⟨b, 0, none⟩)] #[], v] w fun e w' => WrO B b (l ++ listW shortW xs) w e w' := by
  have HV : Hid (SRow w0 v xs) := hv
  have HB0 : Hid (Below w0.heap.size w0 w) := by rw [Hid, hB0]; exact hb0
  have HBe : Hid (w0.heap.size = B) := hB0
  have hBw : B ≤ w.heap.size := by rw [← hB0]; exact HB0.out.size
  obtain ⟨a, cap, rfl⟩ := hv.slice
  have HW : Hid (WrB B b l w) := h
  have HS : Hid (∀ x ∈ xs, x.size ≤ 100) := hs

  have HLn : Hid (l.length + (listW shortW xs).length ≤ 900000000) := hlen
  clear h hv hs hb0 hB0 
  go_enter Tryz.func70, Tryz.ntmps70
  go_wp2_with fail
  refine (wrNumber_any B b l xs.length _ HW.out (by omega) (by omega) hBw).mono ?_
  rintro e w1 ⟨rfl, h1, hb1, hk1⟩
  have HO1 : Hid (WrO B b (l ++ varB xs.length) w (.returned (.tuple #[])) w1) := ⟨rfl, h1, hb1, hk1⟩
  clear h1 hb1 hk1
  go_wp2
  go_loopw [14] (fun iv wr => ∃ k : Nat, iv = .int .i64 k ∧ k ≤ xs.length ∧ WrO B b (l ++ (varB xs.length ++ ((xs.take k).map shortW).flatten)) w (.returned (.tuple #[])) wr) (fun iv _ => xs.length - (intOf iv).toNat)
  case atStart => exact ⟨0, rfl, Nat.zero_le _, by rw [startJ]; exact HO1.out⟩
  case round =>
    obtain ⟨k, rfl, hkl, ho⟩ := hrel
    have HO : Hid (WrO B b (l ++ (varB xs.length ++ ((xs.take k).map shortW).flatten)) w (.returned (.tuple #[])) wr) := ho
    clear ho
    by_cases hlt : k < xs.length
    · have HB0r : Hid (Below w0.heap.size w0 wr) := HB0.out.trans (by rw [HBe.out]; exact HO.out.2.2.1)
      have i4 : (k : Int) < (xs.length : Int) := by omega
      obtain ⟨g, off, rfl, m0⟩ := HV.out.at hlt
      have n0 := cell_keep m0 HB0r.out
      clear m0
      have hxs := HS.out xs[k] (List.getElem_mem hlt)
      have HXs : Hid ((fun x : ByteArray => x.size ≤ 100) xs[k]) := hxs
      have HN : Hid (l ++ (varB xs.length ++ ((xs.take (k + 1)).map shortW).flatten) = (l ++ (varB xs.length ++ ((xs.take k).map shortW).flatten)) ++ shortW xs[k]) := stepJ shortW xs k hlt l
      have hpl : (l ++ (varB xs.length ++ ((xs.take k).map shortW).flatten)).length + (shortW xs[k]).length ≤ 900000000 := by
        have h1 := flatJ shortW xs k hlt
        have h2 := HLn.out
        rw [List.length_append]
        omega
      clear hxs
      generalize xs[k] = x at *
      generalize l ++ (varB xs.length ++ ((xs.take k).map shortW).flatten) = pre at *
      have hsz := HO.out.2.2.1.size
      have hx2 : x.size ≤ 100 := HXs.out
      go_wp2_with fail
      refine (wrShort_any B b pre x _ HO.out.2.1 (by omega) (by omega) (by omega)).mono ?_
      rintro e w2 ⟨rfl, h2, hb2, hk2⟩
      have HO2 : Hid (WrO B b (pre ++ shortW x) w (.returned (.tuple #[])) w2) := HO.out.cons ⟨rfl, h2, hb2, hk2⟩
      clear h2 hb2 hk2
      go_wp2
      go_roundw
      case rel => exact ⟨k + 1, by go_num, by omega, by rw [HN.out]; exact HO2.out⟩
      case measure => simp [intOf]; omega
    · obtain rfl : k = xs.length := by omega
      rw [endJ] at HO
      go_wp2
      go_end0
      exact HO.out

set_option maxHeartbeats 2000000 in
set_option maxRecDepth 100000 in
theorem wrExpr_any (w0 : World) (B b : Nat) (l : List UInt8) (x : List NodeD) (r0 : Value) (w : World) (hB0 : w0.heap.size = B) (hb0 : Below B w0 w) (h : WrB B b l w) (hg : errTy w0) (hx : NIn x) (hr : NRow w0 r0 x) (hlen : l.length + (argW x).length ≤ 900000000) :
    Calls Tryz.prog 109 #[.pointer (some ⟨b, 0, none⟩), .agg #[r0]] w fun e w' => WrO B b (l ++ argW x) w e w' := by
  have HR : Hid (NRow w0 r0 x) := hr
  obtain ⟨a, cap, rfl⟩ := hr.slice
  have HB0 : Hid (Below w0.heap.size w0 w) := by rw [Hid, hB0]; exact hb0
  have hBw : B ≤ w.heap.size := by rw [← hB0]; exact HB0.out.size
  have HW : Hid (WrB B b l w) := h
  have HG : Hid (errTy w0) := hg
  have HX : Hid (NIn x) := hx
  have HBx : Hid (Below w.heap.size w (w.alloc (.cells #[.slice a x.length cap] 66))) := (Below.refl _ _).alloc (Nat.le_refl _) _
  have HB1 : Hid (Below w0.heap.size w0 (w.alloc (.cells #[.slice a x.length cap] 66))) := HB0.out.trans (HBx.out.mono HB0.out.size)
  have c0 : (w.alloc (.cells #[.slice a x.length cap] 66)).cell? ⟨w.heap.size, 0, none⟩ = some (.slice a x.length cap) := by rw [Lib.cell_of_heap (heap_alloc_new w _)]; rfl
  have het := exprT_le x
  have hes : (str (exprT x)).size ≤ 20000 := by rw [str_size]; omega
  clear hr hb0 hB0 h hg hx het
  go_enter Tryz.func109, Tryz.ntmps109
  go_wp2_with fail
  generalize (w.alloc (.cells #[.slice a x.length cap] 66)) = w1 at *
  refine (implExprText_any _ x _ (HG.out.below HB1.out) HX.out (HR.out.below HB1.out)).mono ?_
  rintro e w2 ⟨rfl, hb2⟩
  have HB2 : Hid (Below w.heap.size w w2) := HBx.out.trans (hb2.mono HBx.out.size)
  have hs2 := HB2.out.size
  have HSh : Hid (∀ W, WrB B b l W → B ≤ W.heap.size → Calls Tryz.prog 69 #[.pointer (some ⟨b, 0, none⟩), .string (str (exprT x))] W fun e w' => WrO B b (l ++ argW x) W e w') := fun W hW hBW => wrShort_any B b l (str (exprT x)) W hW hes (by omega) hBW
  clear hb2 c0
  generalize str (exprT x) = et at *
  generalize exprB x = bb at *
  go_wp2_with fail
  refine (HSh.out _ (HW.out.below HB2.out) (by omega)).mono ?_
  rintro e w3 ⟨rfl, h3, hb3, hk3⟩
  have HO : Hid (WrO B b (l ++ argW x) w (.returned (.tuple #[])) w3) := WrO.pre HB2.out hBw ⟨rfl, h3, hb3, hk3⟩
  clear h3 hb3 hk3
  go_wp2
  go_end0
  exact HO.out

set_option maxHeartbeats 2000000 in
set_option maxRecDepth 100000 in
theorem wrsExpr_any (w0 : World) (B b : Nat) (l : List UInt8) (v : Value) (xs : List (List NodeD)) (w : World) (hB0 : w0.heap.size = B) (h : WrB B b l w) (hv : RowC 1 ExprE w0 v xs) (hb0 : Below B w0 w) (hg : errTy w0) (hs : ∀ x ∈ xs, NIn x) (hn : xs.length ≤ 1048576) (hlen : l.length + (listW argW xs).length ≤ 900000000) :
    Calls Tryz.prog 108 #[.pointer (some ⟨b, 0, none⟩), .func (.func 109) #[.pointer (some ⟨b, 0, none⟩)] #[], v] w fun e w' => WrO B b (l ++ listW argW xs) w e w' := by
  have HV : Hid (RowC 1 ExprE w0 v xs) := hv
  have HB0 : Hid (Below w0.heap.size w0 w) := by rw [Hid, hB0]; exact hb0
  have HBe : Hid (w0.heap.size = B) := hB0
  have hBw : B ≤ w.heap.size := by rw [← hB0]; exact HB0.out.size
  obtain ⟨a, cap, rfl⟩ := hv.slice
  have HW : Hid (WrB B b l w) := h
  have HS : Hid (∀ x ∈ xs, NIn x) := hs
  have HG : Hid (errTy w0) := hg
  have HLn : Hid (l.length + (listW argW xs).length ≤ 900000000) := hlen
  clear h hv hs hb0 hB0 hg
  go_enter Tryz.func108, Tryz.ntmps108
  go_wp2_with fail
  refine (wrNumber_any B b l xs.length _ HW.out (by omega) (by omega) hBw).mono ?_
  rintro e w1 ⟨rfl, h1, hb1, hk1⟩
  have HO1 : Hid (WrO B b (l ++ varB xs.length) w (.returned (.tuple #[])) w1) := ⟨rfl, h1, hb1, hk1⟩
  clear h1 hb1 hk1
  go_wp2
  go_loopw [14] (fun iv wr => ∃ k : Nat, iv = .int .i64 k ∧ k ≤ xs.length ∧ WrO B b (l ++ (varB xs.length ++ ((xs.take k).map argW).flatten)) w (.returned (.tuple #[])) wr) (fun iv _ => xs.length - (intOf iv).toNat)
  case atStart => exact ⟨0, rfl, Nat.zero_le _, by rw [startJ]; exact HO1.out⟩
  case round =>
    obtain ⟨k, rfl, hkl, ho⟩ := hrel
    have HO : Hid (WrO B b (l ++ (varB xs.length ++ ((xs.take k).map argW).flatten)) w (.returned (.tuple #[])) wr) := ho
    clear ho
    by_cases hlt : k < xs.length
    · have HB0r : Hid (Below w0.heap.size w0 wr) := HB0.out.trans (by rw [HBe.out]; exact HO.out.2.2.1)
      have i4 : (k : Int) < (xs.length : Int) := by omega
      obtain ⟨g, off, aa, ca, rfl, m0, hR⟩ := gexpr_at HV.out hlt
      have n0 := cell_keep m0 HB0r.out
      have HR : Hid (NRow w0 (.slice aa xs[k].length ca) xs[k]) := hR
      clear m0 hR
      have hxs := HS.out xs[k] (List.getElem_mem hlt)
      have HXs : Hid ((fun x : List NodeD => NIn x) xs[k]) := hxs
      have HN : Hid (l ++ (varB xs.length ++ ((xs.take (k + 1)).map argW).flatten) = (l ++ (varB xs.length ++ ((xs.take k).map argW).flatten)) ++ argW xs[k]) := stepJ argW xs k hlt l
      have hpl : (l ++ (varB xs.length ++ ((xs.take k).map argW).flatten)).length + (argW xs[k]).length ≤ 900000000 := by
        have h1 := flatJ argW xs k hlt
        have h2 := HLn.out
        rw [List.length_append]
        omega
      clear hxs
      generalize xs[k] = x at *
      generalize l ++ (varB xs.length ++ ((xs.take k).map argW).flatten) = pre at *
      have hsz := HO.out.2.2.1.size
      have HBx : Hid (Below wr.heap.size wr (wr.alloc (.cells #[.slice aa x.length ca] 66))) := (Below.refl _ _).alloc (Nat.le_refl _) _
      have HB2 : Hid (Below B w0 (wr.alloc (.cells #[.slice aa x.length ca] 66))) := by
        have h1 := HB0r.out.trans (HBx.out.mono HB0r.out.size)
        rw [HBe.out] at h1
        exact h1
      go_wp2_with fail
      refine (wrExpr_any w0 B b pre x (.slice aa x.length ca) _ HBe.out HB2.out (HO.out.2.1.below HBx.out) HG.out HXs.out HR.out hpl).mono ?_
      rintro e w2 ⟨rfl, h2, hb2, hk2⟩
      have HO2 : Hid (WrO B b (pre ++ argW x) w (.returned (.tuple #[])) w2) := HO.out.cons (WrO.pre HBx.out (by omega) ⟨rfl, h2, hb2, hk2⟩)
      clear h2 hb2 hk2
      go_wp2
      go_roundw
      case rel => exact ⟨k + 1, by go_num, by omega, by rw [HN.out]; exact HO2.out⟩
      case measure => simp [intOf]; omega
    · obtain rfl : k = xs.length := by omega
      rw [endJ] at HO
      go_wp2
      go_end0
      exact HO.out

set_option maxHeartbeats 2000000 in
set_option maxRecDepth 100000 in
theorem wrSym_any (w0 : World) (B b : Nat) (l : List UInt8) (x : SymD) (r0 : Value) (w : World) (hB0 : w0.heap.size = B) (hb0 : Below B w0 w) (h : WrB B b l w) (hg : errTy w0) (hx : SymP x) (hr : RowC 1 ExprE w0 r0 x.args) (hlen : l.length + (symW x).length ≤ 900000000) :
    Calls Tryz.prog 90 #[.pointer (some ⟨b, 0, none⟩), .agg #[.int .i64 x.kind, .string x.text, r0, .string x.bind]] w fun e w' => WrO B b (l ++ symW x) w e w' := by
  have HR : Hid (RowC 1 ExprE w0 r0 x.args) := hr
  obtain ⟨a, cap, rfl⟩ := hr.slice
  have HBe : Hid (w0.heap.size = B) := hB0
  have HB0 : Hid (Below B w0 w) := hb0
  have hBw : B ≤ w.heap.size := by rw [← hB0]; have h1 : Below w0.heap.size w0 w := by rw [hB0]; exact hb0
                                   exact h1.size
  have HW : Hid (WrB B b l w) := h
  have HG : Hid (errTy w0) := hg
  have HX : Hid (SymP x) := hx
  have hkd : 0 ≤ x.kind ∧ x.kind ≤ 127 := by have := hx.1.k.1; omega
  have htx := hx.1.text
  have hbd := hx.1.bind
  have hag := hx.2.2
  have hbl := h.lt
  have HWd : Hid (symW x = ((([byteW x.kind] ++ shortW x.text) ++ shortW x.bind) ++ listW argW x.args)) := by rw [Hid, symW]; simp
  have hl0 := congrArg List.length HWd.out
  rw [List.length_append, List.length_append, List.length_append] at hl0
  have H1 : Hid (Below w.heap.size w (w.alloc (.cells #[.int .i64 x.kind, .string x.text, .slice a x.args.length cap, .string x.bind] 46))) := (Below.refl _ _).alloc (Nat.le_refl _) _
  have bx0 : (w.alloc (.cells #[.int .i64 x.kind, .string x.text, .slice a x.args.length cap, .string x.bind] 46)).heap[w.heap.size]? = some (.cells #[.int .i64 x.kind, .string x.text, .slice a x.args.length cap, .string x.bind] 46 (0, 0)) := heap_alloc_new w _
  have HSz0 : Hid ((w.alloc (.cells #[.int .i64 x.kind, .string x.text, .slice a x.args.length cap, .string x.bind] 46)).heap.size = w.heap.size + 1) := by rw [Hid]; simp
  have c0 : (w.alloc (.cells #[.int .i64 x.kind, .string x.text, .slice a x.args.length cap, .string x.bind] 46)).cell? ⟨w.heap.size, 0, none⟩ = some (.int .i64 x.kind) := by rw [Lib.cell_of_heap bx0]; rfl
  have HBx0 : Hid (_ = _) := bx0
  have HKp : Hid (Lib.OthersKept 5 (some b) w (w.alloc (.cells #[.int .i64 x.kind, .string x.text, .slice a x.args.length cap, .string x.bind] 46))) := (Lib.OthersKept.refl _ _ _).alloc _
  clear bx0 h hg hx hr hb0 hB0
  go_enter Tryz.func90, Tryz.ntmps90
  go_wp2_with fail
  generalize (w.alloc (.cells #[.int .i64 x.kind, .string x.text, .slice a x.args.length cap, .string x.bind] 46)) = wa at *
  have al : Below wa.heap.size wa (wa.alloc (.cells #[.int .i64 x.kind] 3)) := (Below.refl _ _).alloc (Nat.le_refl _) _
  have bx1 : (wa.alloc (.cells #[.int .i64 x.kind] 3)).heap[w.heap.size]? = some (.cells #[.int .i64 x.kind, .string x.text, .slice a x.args.length cap, .string x.bind] 46 (0, 0)) := by
    rw [al.block _ (by have := HSz0.out; omega)]; exact HBx0.out
  have nb : (wa.alloc (.cells #[.int .i64 x.kind] 3)).heap[w.heap.size + 1]? = some (.cells #[.int .i64 x.kind] 3 (0, 0)) := by rw [← HSz0.out]; exact heap_alloc_new wa _
  have W1 : WrB B b l (wa.alloc (.cells #[.int .i64 x.kind] 3)) := (HW.out.below H1.out).below al
  have hs1 : B ≤ (wa.alloc (.cells #[.int .i64 x.kind] 3)).heap.size := by have := al.size; have := HSz0.out; omega
  have BB1 : Below B w (wa.alloc (.cells #[.int .i64 x.kind] 3)) := (H1.out.mono hBw).trans (al.mono (by have := HSz0.out; omega))
  have KK1 : Lib.OthersKept 5 (some b) w (wa.alloc (.cells #[.int .i64 x.kind] 3)) := HKp.out.alloc _
  refine (wrSingle_any B b l (.slice (some ⟨w.heap.size + 1, 0, none⟩) 1 1) [x.kind] _ W1 (fun W _ hK => iRow_lit (okept_cell hK nb (by omega) (by decide))) (fun k hk => by simp at hk; subst hk; exact hkd) (by simp) (by omega) hs1).mono ?_
  rintro e w1 ⟨rfl, h1, hb1, hk1⟩
  have bx2 := okept_cell hk1 bx1 (by omega) (by decide)
  have BB2 := BB1.trans hb1
  have KK2 := KK1.trans hk1
  have hs2 : B ≤ w1.heap.size := by have := hb1.size; omega
  have c1 : w1.cell? ⟨w.heap.size, 1, none⟩ = some (.string x.text) := by rw [Lib.cell_of_heap bx2]; rfl
  have HBx2 : Hid (_ = _) := bx2
  have h1' : WrB B b (l ++ [byteW x.kind]) w1 := h1
  clear hb1 hk1 bx1 bx2 nb W1 BB1 KK1 al c0 h1
  go_wp2_with fail
  refine (wrShort_any B b (l ++ [byteW x.kind]) x.text _ h1' (by omega) (by simp; omega) hs2).mono ?_
  rintro e w2 ⟨rfl, h2, hb2, hk2⟩
  have bx3 := okept_cell hk2 HBx2.out (by omega) (by decide)
  have BB3 := BB2.trans hb2
  have KK3 := KK2.trans hk2
  have hs3 : B ≤ w2.heap.size := by have := hb2.size; omega
  have c2 : w2.cell? ⟨w.heap.size, 3, none⟩ = some (.string x.bind) := by rw [Lib.cell_of_heap bx3]; rfl
  have HBx3 : Hid (_ = _) := bx3
  clear hb2 hk2 bx3 HBx2 BB2 KK2 hs2 h1' c1
  go_wp2_with fail
  refine (wrShort_any B b _ x.bind _ h2 (by omega) (by simp at hl0 ⊢; omega) hs3).mono ?_
  rintro e w3 ⟨rfl, h3, hb3, hk3⟩
  have bx4 := okept_cell hk3 HBx3.out (by omega) (by decide)
  have BB4 := BB3.trans hb3
  have KK4 := KK3.trans hk3
  have c3 : w3.cell? ⟨w.heap.size, 2, none⟩ = some (.slice a x.args.length cap) := by rw [Lib.cell_of_heap bx4]; rfl
  have B04 : Below B w0 w3 := HB0.out.trans BB4
  clear hb3 hk3 bx4 HBx3 BB3 KK3 hs3 h2 c2
  go_wp2_with fail
  refine (wrsExpr_any w0 B b _ (.slice a x.args.length cap) x.args _ HBe.out h3 HR.out B04 HG.out HX.out.2.1 hag (by simp at hl0 ⊢; omega)).mono ?_
  rintro e w4 ⟨rfl, h4, hb4, hk4⟩
  have HF : Hid (WrO B b (l ++ symW x) w (.returned (.tuple #[])) w4) := by
    refine ⟨rfl, ?_, BB4.trans hb4, KK4.trans hk4⟩
    rw [HWd.out]
    simpa using h4
  clear h4 hb4 hk4 BB4 KK4 h3
  go_wp2
  go_end0
  exact HF.out

set_option maxHeartbeats 2000000 in
set_option maxRecDepth 100000 in
theorem wrsSym_any (w0 : World) (B b : Nat) (l : List UInt8) (v : Value) (xs : List (SymD)) (w : World) (hB0 : w0.heap.size = B) (h : WrB B b l w) (hv : RowC 4 SymE w0 v xs) (hb0 : Below B w0 w) (hg : errTy w0) (hs : ∀ x ∈ xs, SymP x) (hn : xs.length ≤ 1048576) (hlen : l.length + (listW symW xs).length ≤ 900000000) :
    Calls Tryz.prog 89 #[.pointer (some ⟨b, 0, none⟩), .func (.func 90) #[.pointer (some ⟨b, 0, none⟩)] #[], v] w fun e w' => WrO B b (l ++ listW symW xs) w e w' := by
  have HV : Hid (RowC 4 SymE w0 v xs) := hv
  have HB0 : Hid (Below w0.heap.size w0 w) := by rw [Hid, hB0]; exact hb0
  have HBe : Hid (w0.heap.size = B) := hB0
  have hBw : B ≤ w.heap.size := by rw [← hB0]; exact HB0.out.size
  obtain ⟨a, cap, rfl⟩ := hv.slice
  have HW : Hid (WrB B b l w) := h
  have HS : Hid (∀ x ∈ xs, SymP x) := hs
  have HG : Hid (errTy w0) := hg
  have HLn : Hid (l.length + (listW symW xs).length ≤ 900000000) := hlen
  clear h hv hs hb0 hB0 hg
  go_enter Tryz.func89, Tryz.ntmps89
  go_wp2_with fail
  refine (wrNumber_any B b l xs.length _ HW.out (by omega) (by omega) hBw).mono ?_
  rintro e w1 ⟨rfl, h1, hb1, hk1⟩
  have HO1 : Hid (WrO B b (l ++ varB xs.length) w (.returned (.tuple #[])) w1) := ⟨rfl, h1, hb1, hk1⟩
  clear h1 hb1 hk1
  go_wp2
  go_loopw [14] (fun iv wr => ∃ k : Nat, iv = .int .i64 k ∧ k ≤ xs.length ∧ WrO B b (l ++ (varB xs.length ++ ((xs.take k).map symW).flatten)) w (.returned (.tuple #[])) wr) (fun iv _ => xs.length - (intOf iv).toNat)
  case atStart => exact ⟨0, rfl, Nat.zero_le _, by rw [startJ]; exact HO1.out⟩
  case round =>
    obtain ⟨k, rfl, hkl, ho⟩ := hrel
    have HO : Hid (WrO B b (l ++ (varB xs.length ++ ((xs.take k).map symW).flatten)) w (.returned (.tuple #[])) wr) := ho
    clear ho
    by_cases hlt : k < xs.length
    · have HB0r : Hid (Below w0.heap.size w0 wr) := HB0.out.trans (by rw [HBe.out]; exact HO.out.2.2.1)
      have i4 : (k : Int) < (xs.length : Int) := by omega
      obtain ⟨g, off, aa, ca, rfl, m0, m1, m2, m3, hR⟩ := gsym_at HV.out hlt
      have n0 := cell_keep m0 HB0r.out
      have n1 := cell_keep m1 HB0r.out
      have n2 := cell_keep m2 HB0r.out
      have n3 := cell_keep m3 HB0r.out
      have HR : Hid (RowC 1 ExprE w0 (.slice aa xs[k].args.length ca) xs[k].args) := hR
      clear m0 m1 m2 m3 hR
      have hxs := HS.out xs[k] (List.getElem_mem hlt)
      have HXs : Hid ((fun x : SymD => SymP x) xs[k]) := hxs
      have HN : Hid (l ++ (varB xs.length ++ ((xs.take (k + 1)).map symW).flatten) = (l ++ (varB xs.length ++ ((xs.take k).map symW).flatten)) ++ symW xs[k]) := stepJ symW xs k hlt l
      have hpl : (l ++ (varB xs.length ++ ((xs.take k).map symW).flatten)).length + (symW xs[k]).length ≤ 900000000 := by
        have h1 := flatJ symW xs k hlt
        have h2 := HLn.out
        rw [List.length_append]
        omega
      clear hxs
      generalize xs[k] = x at *
      generalize l ++ (varB xs.length ++ ((xs.take k).map symW).flatten) = pre at *
      have hsz := HO.out.2.2.1.size
      have HBx : Hid (Below wr.heap.size wr (wr.alloc (.cells #[.int .i64 x.kind, .string x.text, .slice aa x.args.length ca, .string x.bind] 46))) := (Below.refl _ _).alloc (Nat.le_refl _) _
      have HB2 : Hid (Below B w0 (wr.alloc (.cells #[.int .i64 x.kind, .string x.text, .slice aa x.args.length ca, .string x.bind] 46))) := by
        have h1 := HB0r.out.trans (HBx.out.mono HB0r.out.size)
        rw [HBe.out] at h1
        exact h1
      go_wp2_with fail
      refine (wrSym_any w0 B b pre x (.slice aa x.args.length ca) _ HBe.out HB2.out (HO.out.2.1.below HBx.out) HG.out HXs.out HR.out hpl).mono ?_
      rintro e w2 ⟨rfl, h2, hb2, hk2⟩
      have HO2 : Hid (WrO B b (pre ++ symW x) w (.returned (.tuple #[])) w2) := HO.out.cons (WrO.pre HBx.out (by omega) ⟨rfl, h2, hb2, hk2⟩)
      clear h2 hb2 hk2
      go_wp2
      go_roundw
      case rel => exact ⟨k + 1, by go_num, by omega, by rw [HN.out]; exact HO2.out⟩
      case measure => simp [intOf]; omega
    · obtain rfl : k = xs.length := by omega
      rw [endJ] at HO
      go_wp2
      go_end0
      exact HO.out

set_option maxHeartbeats 2000000 in
set_option maxRecDepth 100000 in
theorem wrAlt_any (w0 : World) (B b : Nat) (l : List UInt8) (x : List SymD) (r0 : Value) (w : World) (hB0 : w0.heap.size = B) (hb0 : Below B w0 w) (h : WrB B b l w) (hg : errTy w0) (hx : AltP x) (hr : RowC 4 SymE w0 r0 x) (hlen : l.length + (altW x).length ≤ 900000000) :
    Calls Tryz.prog 72 #[.pointer (some ⟨b, 0, none⟩), .agg #[r0]] w fun e w' => WrO B b (l ++ altW x) w e w' := by
  have HR : Hid (RowC 4 SymE w0 r0 x) := hr
  obtain ⟨a, cap, rfl⟩ := hr.slice
  have HBe : Hid (w0.heap.size = B) := hB0
  have HB0 : Hid (Below B w0 w) := hb0
  have hBw : B ≤ w.heap.size := by rw [← hB0]; have h1 : Below w0.heap.size w0 w := by rw [hB0]; exact hb0
                                   exact h1.size
  have HW : Hid (WrB B b l w) := h
  have HG : Hid (errTy w0) := hg
  have HX : Hid (AltP x) := hx
  have HBx : Hid (Below w.heap.size w (w.alloc (.cells #[.slice a x.length cap] 43))) := (Below.refl _ _).alloc (Nat.le_refl _) _
  have HB1 : Hid (Below B w0 (w.alloc (.cells #[.slice a x.length cap] 43))) := HB0.out.trans (HBx.out.mono hBw)
  have c0 : (w.alloc (.cells #[.slice a x.length cap] 43)).cell? ⟨w.heap.size, 0, none⟩ = some (.slice a x.length cap) := by rw [Lib.cell_of_heap (heap_alloc_new w _)]; rfl
  clear hr hb0 hB0 h hg hx
  go_enter Tryz.func72, Tryz.ntmps72
  go_wp2_with fail
  generalize (w.alloc (.cells #[.slice a x.length cap] 43)) = w1 at *
  refine (wrsSym_any w0 B b l (.slice a x.length cap) x _ HBe.out (HW.out.below HBx.out) HR.out HB1.out HG.out HX.out.1 HX.out.2 hlen).mono ?_
  rintro e w3 ⟨rfl, h3, hb3, hk3⟩
  have HO : Hid (WrO B b (l ++ altW x) w (.returned (.tuple #[])) w3) := WrO.pre HBx.out hBw ⟨rfl, h3, hb3, hk3⟩
  clear h3 hb3 hk3
  go_wp2
  go_end0
  exact HO.out

set_option maxHeartbeats 2000000 in
set_option maxRecDepth 100000 in
theorem wrsAlt_any (w0 : World) (B b : Nat) (l : List UInt8) (v : Value) (xs : List (List SymD)) (w : World) (hB0 : w0.heap.size = B) (h : WrB B b l w) (hv : RowC 1 AltE w0 v xs) (hb0 : Below B w0 w) (hg : errTy w0) (hs : ∀ x ∈ xs, AltP x) (hn : xs.length ≤ 1048576) (hlen : l.length + (listW altW xs).length ≤ 900000000) :
    Calls Tryz.prog 71 #[.pointer (some ⟨b, 0, none⟩), .func (.func 72) #[.pointer (some ⟨b, 0, none⟩)] #[], v] w fun e w' => WrO B b (l ++ listW altW xs) w e w' := by
  have HV : Hid (RowC 1 AltE w0 v xs) := hv
  have HB0 : Hid (Below w0.heap.size w0 w) := by rw [Hid, hB0]; exact hb0
  have HBe : Hid (w0.heap.size = B) := hB0
  have hBw : B ≤ w.heap.size := by rw [← hB0]; exact HB0.out.size
  obtain ⟨a, cap, rfl⟩ := hv.slice
  have HW : Hid (WrB B b l w) := h
  have HS : Hid (∀ x ∈ xs, AltP x) := hs
  have HG : Hid (errTy w0) := hg
  have HLn : Hid (l.length + (listW altW xs).length ≤ 900000000) := hlen
  clear h hv hs hb0 hB0 hg
  go_enter Tryz.func71, Tryz.ntmps71
  go_wp2_with fail
  refine (wrNumber_any B b l xs.length _ HW.out (by omega) (by omega) hBw).mono ?_
  rintro e w1 ⟨rfl, h1, hb1, hk1⟩
  have HO1 : Hid (WrO B b (l ++ varB xs.length) w (.returned (.tuple #[])) w1) := ⟨rfl, h1, hb1, hk1⟩
  clear h1 hb1 hk1
  go_wp2
  go_loopw [14] (fun iv wr => ∃ k : Nat, iv = .int .i64 k ∧ k ≤ xs.length ∧ WrO B b (l ++ (varB xs.length ++ ((xs.take k).map altW).flatten)) w (.returned (.tuple #[])) wr) (fun iv _ => xs.length - (intOf iv).toNat)
  case atStart => exact ⟨0, rfl, Nat.zero_le _, by rw [startJ]; exact HO1.out⟩
  case round =>
    obtain ⟨k, rfl, hkl, ho⟩ := hrel
    have HO : Hid (WrO B b (l ++ (varB xs.length ++ ((xs.take k).map altW).flatten)) w (.returned (.tuple #[])) wr) := ho
    clear ho
    by_cases hlt : k < xs.length
    · have HB0r : Hid (Below w0.heap.size w0 wr) := HB0.out.trans (by rw [HBe.out]; exact HO.out.2.2.1)
      have i4 : (k : Int) < (xs.length : Int) := by omega
      obtain ⟨g, off, aa, ca, rfl, m0, hR⟩ := galt_at HV.out hlt
      have n0 := cell_keep m0 HB0r.out
      have HR : Hid (RowC 4 SymE w0 (.slice aa xs[k].length ca) xs[k]) := hR
      clear m0 hR
      have hxs := HS.out xs[k] (List.getElem_mem hlt)
      have HXs : Hid ((fun x : List SymD => AltP x) xs[k]) := hxs
      have HN : Hid (l ++ (varB xs.length ++ ((xs.take (k + 1)).map altW).flatten) = (l ++ (varB xs.length ++ ((xs.take k).map altW).flatten)) ++ altW xs[k]) := stepJ altW xs k hlt l
      have hpl : (l ++ (varB xs.length ++ ((xs.take k).map altW).flatten)).length + (altW xs[k]).length ≤ 900000000 := by
        have h1 := flatJ altW xs k hlt
        have h2 := HLn.out
        rw [List.length_append]
        omega
      clear hxs
      generalize xs[k] = x at *
      generalize l ++ (varB xs.length ++ ((xs.take k).map altW).flatten) = pre at *
      have hsz := HO.out.2.2.1.size
      have HBx : Hid (Below wr.heap.size wr (wr.alloc (.cells #[.slice aa x.length ca] 43))) := (Below.refl _ _).alloc (Nat.le_refl _) _
      have HB2 : Hid (Below B w0 (wr.alloc (.cells #[.slice aa x.length ca] 43))) := by
        have h1 := HB0r.out.trans (HBx.out.mono HB0r.out.size)
        rw [HBe.out] at h1
        exact h1
      go_wp2_with fail
      refine (wrAlt_any w0 B b pre x (.slice aa x.length ca) _ HBe.out HB2.out (HO.out.2.1.below HBx.out) HG.out HXs.out HR.out hpl).mono ?_
      rintro e w2 ⟨rfl, h2, hb2, hk2⟩
      have HO2 : Hid (WrO B b (pre ++ altW x) w (.returned (.tuple #[])) w2) := HO.out.cons (WrO.pre HBx.out (by omega) ⟨rfl, h2, hb2, hk2⟩)
      clear h2 hb2 hk2
      go_wp2
      go_roundw
      case rel => exact ⟨k + 1, by go_num, by omega, by rw [HN.out]; exact HO2.out⟩
      case measure => simp [intOf]; omega
    · obtain rfl : k = xs.length := by omega
      rw [endJ] at HO
      go_wp2
      go_end0
      exact HO.out

set_option maxHeartbeats 2000000 in
set_option maxRecDepth 100000 in
theorem wrRule_any (w0 : World) (B b : Nat) (l : List UInt8) (x : RuleD) (r0 r1 : Value) (w : World) (hB0 : w0.heap.size = B) (hb0 : Below B w0 w) (h : WrB B b l w) (hg : errTy w0) (hx : RuleP x) (hr : SRow w0 r0 x.params ∧ RowC 1 AltE w0 r1 x.alts) (hlen : l.length + (ruleW x).length ≤ 900000000) :
    Calls Tryz.prog 45 #[.pointer (some ⟨b, 0, none⟩), .agg #[.string x.name, r0, r1]] w fun e w' => WrO B b (l ++ ruleW x) w e w' := by
  have HR : Hid (SRow w0 r0 x.params) := hr.1
  have HR2 : Hid (RowC 1 AltE w0 r1 x.alts) := hr.2
  obtain ⟨a, cap, rfl⟩ := hr.1.slice
  obtain ⟨c, cap', rfl⟩ := hr.2.slice
  have HBe : Hid (w0.heap.size = B) := hB0
  have HB0 : Hid (Below B w0 w) := hb0
  have hBw : B ≤ w.heap.size := by rw [← hB0]; have h1 : Below w0.heap.size w0 w := by rw [hB0]; exact hb0
                                   exact h1.size
  have HW : Hid (WrB B b l w) := h
  have HG : Hid (errTy w0) := hg
  have HX : Hid (RuleP x) := hx
  have htx := hx.1
  have hpl := hx.2.2.1
  have hal := hx.2.2.2.2
  have hbl := h.lt
  have HWd : Hid (ruleW x = ((shortW x.name ++ listW shortW x.params) ++ listW altW x.alts)) := by rw [Hid, ruleW]; simp
  have hl0 := congrArg List.length HWd.out
  rw [List.length_append, List.length_append] at hl0
  have H1 : Hid (Below w.heap.size w (w.alloc (.cells #[.string x.name, .slice a x.params.length cap, .slice c x.alts.length cap'] 40))) := (Below.refl _ _).alloc (Nat.le_refl _) _
  have bx0 : (w.alloc (.cells #[.string x.name, .slice a x.params.length cap, .slice c x.alts.length cap'] 40)).heap[w.heap.size]? = some (.cells #[.string x.name, .slice a x.params.length cap, .slice c x.alts.length cap'] 40 (0, 0)) := heap_alloc_new w _
  have c0 : (w.alloc (.cells #[.string x.name, .slice a x.params.length cap, .slice c x.alts.length cap'] 40)).cell? ⟨w.heap.size, 0, none⟩ = some (.string x.name) := by rw [Lib.cell_of_heap bx0]; rfl
  have HBx0 : Hid (_ = _) := bx0
  have HKp : Hid (Lib.OthersKept 5 (some b) w (w.alloc (.cells #[.string x.name, .slice a x.params.length cap, .slice c x.alts.length cap'] 40))) := (Lib.OthersKept.refl _ _ _).alloc _
  have hsz : (w.alloc (.cells #[.string x.name, .slice a x.params.length cap, .slice c x.alts.length cap'] 40)).heap.size = w.heap.size + 1 := by simp
  have HSz : Hid (_) := hsz
  clear bx0 h hg hx hr hb0 hB0 hsz
  go_enter Tryz.func45, Tryz.ntmps45
  go_wp2_with fail
  generalize (w.alloc (.cells #[.string x.name, .slice a x.params.length cap, .slice c x.alts.length cap'] 40)) = wa at *
  refine (wrShort_any B b l x.name _ (HW.out.below H1.out) (by omega) (by omega) (by have := HSz.out; omega)).mono ?_
  rintro e w1 ⟨rfl, h1, hb1, hk1⟩
  have bx2 := okept_cell hk1 HBx0.out (by omega) (by decide)
  have BB2 := (H1.out.mono hBw).trans hb1
  have KK2 := HKp.out.trans hk1
  have c1 : w1.cell? ⟨w.heap.size, 1, none⟩ = some (.slice a x.params.length cap) := by rw [Lib.cell_of_heap bx2]; rfl
  have HBx2 : Hid (_ = _) := bx2
  have B02 : Below B w0 w1 := HB0.out.trans BB2
  clear hb1 hk1 bx2 c0
  go_wp2_with fail
  refine (wrsstring_any w0 B b (l ++ shortW x.name) (.slice a x.params.length cap) x.params _ HBe.out h1 HR.out B02 HX.out.2.1 hpl (by simp; omega)).mono ?_
  rintro e w2 ⟨rfl, h2, hb2, hk2⟩
  have bx3 := okept_cell hk2 HBx2.out (by omega) (by decide)
  have BB3 := BB2.trans hb2
  have KK3 := KK2.trans hk2
  have c2 : w2.cell? ⟨w.heap.size, 2, none⟩ = some (.slice c x.alts.length cap') := by rw [Lib.cell_of_heap bx3]; rfl
  have B03 : Below B w0 w2 := HB0.out.trans BB3
  clear hb2 hk2 bx3 HBx2 BB2 KK2 h1 c1
  go_wp2_with fail
  refine (wrsAlt_any w0 B b _ (.slice c x.alts.length cap') x.alts _ HBe.out h2 HR2.out B03 HG.out HX.out.2.2.2.1 hal (by simp; omega)).mono ?_
  rintro e w4 ⟨rfl, h4, hb4, hk4⟩
  have HF : Hid (WrO B b (l ++ ruleW x) w (.returned (.tuple #[])) w4) := by
    refine ⟨rfl, ?_, BB3.trans hb4, KK3.trans hk4⟩
    rw [HWd.out]
    simpa using h4
  clear h4 hb4 hk4 BB3 KK3 h2
  go_wp2
  go_end0
  exact HF.out

set_option maxHeartbeats 2000000 in
set_option maxRecDepth 100000 in
theorem wrsRule_any (w0 : World) (B b : Nat) (l : List UInt8) (v : Value) (xs : List (RuleD)) (w : World) (hB0 : w0.heap.size = B) (h : WrB B b l w) (hv : RowC 3 RuleE w0 v xs) (hb0 : Below B w0 w) (hg : errTy w0) (hs : ∀ x ∈ xs, RuleP x) (hn : xs.length ≤ 1048576) (hlen : l.length + (listW ruleW xs).length ≤ 900000000) :
    Calls Tryz.prog 44 #[.pointer (some ⟨b, 0, none⟩), .func (.func 45) #[.pointer (some ⟨b, 0, none⟩)] #[], v] w fun e w' => WrO B b (l ++ listW ruleW xs) w e w' := by
  have HV : Hid (RowC 3 RuleE w0 v xs) := hv
  have HB0 : Hid (Below w0.heap.size w0 w) := by rw [Hid, hB0]; exact hb0
  have HBe : Hid (w0.heap.size = B) := hB0
  have hBw : B ≤ w.heap.size := by rw [← hB0]; exact HB0.out.size
  obtain ⟨a, cap, rfl⟩ := hv.slice
  have HW : Hid (WrB B b l w) := h
  have HS : Hid (∀ x ∈ xs, RuleP x) := hs
  have HG : Hid (errTy w0) := hg
  have HLn : Hid (l.length + (listW ruleW xs).length ≤ 900000000) := hlen
  clear h hv hs hb0 hB0 hg
  go_enter Tryz.func44, Tryz.ntmps44
  go_wp2_with fail
  refine (wrNumber_any B b l xs.length _ HW.out (by omega) (by omega) hBw).mono ?_
  rintro e w1 ⟨rfl, h1, hb1, hk1⟩
  have HO1 : Hid (WrO B b (l ++ varB xs.length) w (.returned (.tuple #[])) w1) := ⟨rfl, h1, hb1, hk1⟩
  clear h1 hb1 hk1
  go_wp2
  go_loopw [14] (fun iv wr => ∃ k : Nat, iv = .int .i64 k ∧ k ≤ xs.length ∧ WrO B b (l ++ (varB xs.length ++ ((xs.take k).map ruleW).flatten)) w (.returned (.tuple #[])) wr) (fun iv _ => xs.length - (intOf iv).toNat)
  case atStart => exact ⟨0, rfl, Nat.zero_le _, by rw [startJ]; exact HO1.out⟩
  case round =>
    obtain ⟨k, rfl, hkl, ho⟩ := hrel
    have HO : Hid (WrO B b (l ++ (varB xs.length ++ ((xs.take k).map ruleW).flatten)) w (.returned (.tuple #[])) wr) := ho
    clear ho
    by_cases hlt : k < xs.length
    · have HB0r : Hid (Below w0.heap.size w0 wr) := HB0.out.trans (by rw [HBe.out]; exact HO.out.2.2.1)
      have i4 : (k : Int) < (xs.length : Int) := by omega
      obtain ⟨g, off, pa, pc, ea, ec, rfl, m0, m1, m2, hR1, hR2⟩ := grule_at HV.out hlt
      have n0 := cell_keep m0 HB0r.out
      have n1 := cell_keep m1 HB0r.out
      have n2 := cell_keep m2 HB0r.out
      have HR : Hid (SRow w0 (.slice pa xs[k].params.length pc) xs[k].params ∧ RowC 1 AltE w0 (.slice ea xs[k].alts.length ec) xs[k].alts) := ⟨hR1, hR2⟩
      clear m0 m1 m2 hR1 hR2
      have hxs := HS.out xs[k] (List.getElem_mem hlt)
      have HXs : Hid ((fun x : RuleD => RuleP x) xs[k]) := hxs
      have HN : Hid (l ++ (varB xs.length ++ ((xs.take (k + 1)).map ruleW).flatten) = (l ++ (varB xs.length ++ ((xs.take k).map ruleW).flatten)) ++ ruleW xs[k]) := stepJ ruleW xs k hlt l
      have hpl : (l ++ (varB xs.length ++ ((xs.take k).map ruleW).flatten)).length + (ruleW xs[k]).length ≤ 900000000 := by
        have h1 := flatJ ruleW xs k hlt
        have h2 := HLn.out
        rw [List.length_append]
        omega
      clear hxs
      generalize xs[k] = x at *
      generalize l ++ (varB xs.length ++ ((xs.take k).map ruleW).flatten) = pre at *
      have hsz := HO.out.2.2.1.size
      have HBx : Hid (Below wr.heap.size wr (wr.alloc (.cells #[.string x.name, .slice pa x.params.length pc, .slice ea x.alts.length ec] 40))) := (Below.refl _ _).alloc (Nat.le_refl _) _
      have HB2 : Hid (Below B w0 (wr.alloc (.cells #[.string x.name, .slice pa x.params.length pc, .slice ea x.alts.length ec] 40))) := by
        have h1 := HB0r.out.trans (HBx.out.mono HB0r.out.size)
        rw [HBe.out] at h1
        exact h1
      go_wp2_with fail
      refine (wrRule_any w0 B b pre x (.slice pa x.params.length pc) (.slice ea x.alts.length ec) _ HBe.out HB2.out (HO.out.2.1.below HBx.out) HG.out HXs.out HR.out hpl).mono ?_
      rintro e w2 ⟨rfl, h2, hb2, hk2⟩
      have HO2 : Hid (WrO B b (pre ++ ruleW x) w (.returned (.tuple #[])) w2) := HO.out.cons (WrO.pre HBx.out (by omega) ⟨rfl, h2, hb2, hk2⟩)
      clear h2 hb2 hk2
      go_wp2
      go_roundw
      case rel => exact ⟨k + 1, by go_num, by omega, by rw [HN.out]; exact HO2.out⟩
      case measure => simp [intOf]; omega
    · obtain rfl : k = xs.length := by omega
      rw [endJ] at HO
      go_wp2
      go_end0
      exact HO.out

end Go.Proofs.YtokidlklkgghkaaGreatDoor
