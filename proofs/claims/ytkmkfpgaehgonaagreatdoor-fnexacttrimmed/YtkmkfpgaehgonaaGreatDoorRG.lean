/- The laws' to-functions on grammars: what they answer, with its shape (printed by mk/gts.py). -/
/- Grammars whose lists lie each in a block of its own: read, kept, and to be marked. -/
import Derived.Test.YtkmkfpgaehgonaaGreatDoorGTo
import Derived.Test.YtkmkfpgaehgonaaGreatDoorOShR
import Derived.Test.YtkmkfpgaehgonaaGreatDoorRF
namespace Go.Proofs.YtkmkfpgaehgonaaGreatDoor
open Go.RowKit
set_option linter.unusedVariables false

def cntExpr (x : List NodeD) : Nat := (x.map fun y => 3 + y.kids.length).sum
def cntSym (x : SymD) : Nat := 3 + (x.args.map cntExpr).sum
def cntAlt (x : List SymD) : Nat := (x.map cntSym).sum
def cntRule (x : RuleD) : Nat := 1 + x.params.length + (x.alts.map cntAlt).sum
theorem cntExpr_le (x : List NodeD) : cntExpr x ≤ 3 * exprTot x := by
  have : ∀ l : List NodeD, (l.map fun y => 3 + y.kids.length).sum ≤ 3 * (l.length + (l.map fun y => y.name.size + y.kids.length).sum) := by
    intro l
    induction l with
    | nil => simp
    | cons y l ih => simp only [List.map_cons, List.sum_cons, List.length_cons]; omega
  exact this x
theorem cnt_le_of {α : Type} {f g : α → Nat} (h : ∀ x, f x ≤ 3 * (g x + 1)) (xs : List α) : (xs.map f).sum ≤ 3 * rowTot g xs := by
  unfold rowTot
  induction xs with
  | nil => simp
  | cons x xs ih => have := h x; simp only [List.map_cons, List.sum_cons, List.length_cons] at *; omega
theorem cntArgs_le (xs : List (List NodeD)) : (xs.map cntExpr).sum ≤ 3 * rowTot exprTot xs := cnt_le_of (fun x => by have := cntExpr_le x; omega) xs
theorem cntSym_le (x : SymD) : cntSym x ≤ 3 * (symTot x + 1) := by
  have := cntArgs_le x.args
  have e : symTot x = x.text.size + rowTot exprTot x.args + x.bind.size := rfl
  unfold cntSym
  omega
theorem cntAlt_le (x : List SymD) : cntAlt x ≤ 3 * altTot x := cnt_le_of cntSym_le x
theorem cntAlts_le (xs : List (List SymD)) : (xs.map cntAlt).sum ≤ 3 * rowTot altTot xs := cnt_le_of (fun x => by have := cntAlt_le x; omega) xs
theorem cntRule_le (x : RuleD) : cntRule x ≤ 3 * (ruleTot x + 1) := by
  have h1 := cntAlts_le x.alts
  have h2 := rowTot_len ByteArray.size x.params
  have e : ruleTot x = x.name.size + rowTot ByteArray.size x.params + rowTot altTot x.alts := rfl
  unfold cntRule
  omega
theorem cntGram_le (g : List RuleD) : (g.map cntRule).sum ≤ 3 * grammarTot g := cnt_le_of cntRule_le g
theorem ShK.low {τ : TypeId → List FK} {B B' : Nat} {k : FK} {w : World} {v : Value} {m : Nat} (h : ShK τ B k w v m) (hB : B' ≤ B) : ShK τ B' k w v m := by
  obtain ⟨H, n, c, h1, h2⟩ := h
  exact ⟨H, n, c, h1, shp_mono hB (Nat.le_refl _) n n (Nat.le_refl _) _ _ _ h2⟩
theorem ones_sum (n : Nat) : (List.replicate n 1).sum = n := by
  induction n with
  | zero => rfl
  | succ n ih => rw [List.replicate_succ, List.sum_cons, ih]; omega
theorem shK_ownB {B : Nat} {v : Value} {ss : List ByteArray} {w : World} (h : OwnB B v ss w) : ShK tau B (.row 9) w v ss.length := by
  have e : ss.length = (List.replicate ss.length 1).sum := (ones_sum _).symm
  rw [e]
  refine ShK.row (len := ss.length) (cs := sb ss) h (by simp [sb]) (fun i hi hi' => ⟨.str, by show [FK.str][i % 1]? = _; rw [Nat.mod_one]; rfl, ?_⟩)
  simp only [sb, List.getElem_map, List.getElem_replicate]
  exact ShK.str _
theorem shK_ownZ {B : Nat} {v : Value} {ks : List Int} {w : World} (h : OwnZ B v ks w) : ShK tau B (.row 3) w v ks.length := by
  have e : ks.length = (List.replicate ks.length 1).sum := (ones_sum _).symm
  rw [e]
  refine ShK.row (len := ks.length) (cs := zv ks) h (by simp [zv]) (fun i hi hi' => ⟨.int, by show [FK.int][i % 1]? = _; rw [Nat.mod_one]; rfl, ?_⟩)
  simp only [zv, List.getElem_map, List.getElem_replicate]
  exact ShK.int _
theorem shK_ownN {B : Nat} {v : Value} {ns : List NodeD} {w : World} (h : OwnN B v ns w) : ShK tau B (.row 90) w v (cntExpr ns) := by
  obtain ⟨qs, rfl, h, hk⟩ := h
  have hs : (qs.map fun q => [1, 1, 1, q.1.kids.length]).flatten.sum ≤ cntExpr (qs.map (·.1)) := by
    clear h hk
    unfold cntExpr
    induction qs with
    | nil => simp
    | cons q qs ih => simp only [List.map_cons, List.flatten_cons, List.sum_append, List.sum_cons, List.sum_nil] at *; omega
  refine (ShK.row (len := qs.length) (cs := nv qs) (ms := (qs.map fun q => [1, 1, 1, q.1.kids.length]).flatten) h ?_ (fun i hi hi' => ?_)).more hs
  · clear h hk hs
    induction qs with
    | nil => rfl
    | cons q qs ih =>
      have e : nv (q :: qs) = [.int .i64 q.1.op, .int .i64 q.1.num, .string q.1.name, q.2] ++ nv qs := rfl
      simp only [e, List.map_cons, List.flatten_cons, List.length_append, List.length_cons, List.length_nil, ih]
  · have en : ∀ l : List (NodeD × Value), nv l = (l.map fun q => [Value.int .i64 q.1.op, .int .i64 q.1.num, .string q.1.name, q.2]).flatten := by
      intro l
      induction l with
      | nil => rfl
      | cons q l ih => show [Value.int .i64 q.1.op, .int .i64 q.1.num, .string q.1.name, q.2] ++ nv l = _; rw [ih]; rfl
    have key := flat_shapes (sz := 4) (fun r v m => ∃ k, (tau 90)[r]? = some k ∧ ShK tau B k w v m) (qs.map fun q => [Value.int .i64 q.1.op, .int .i64 q.1.num, .string q.1.name, q.2]) (qs.map fun q => [1, 1, 1, q.1.kids.length]) (by simp) (fun vs hv => by obtain ⟨q, _, rfl⟩ := List.mem_map.1 hv; rfl) (fun ms hm => by obtain ⟨q, _, rfl⟩ := List.mem_map.1 hm; rfl) (fun q h1 h2 r h3 h4 => by
      have hq : q < qs.length := by simpa using h1
      simp only [List.getElem_map, List.length_cons, List.length_nil] at h3 h4 ⊢
      have hz := hk qs[q] (List.getElem_mem hq)
      match r, h3 with
      | 0, _ => exact ⟨.int, rfl, ShK.int _⟩
      | 1, _ => exact ⟨.int, rfl, ShK.int _⟩
      | 2, _ => exact ⟨.str, rfl, ShK.str _⟩
      | 3, _ => exact ⟨.row 3, rfl, shK_ownZ hz⟩) i (by rw [← en]; exact hi) hi'
    have e4 : (tau 90).length = 4 := rfl
    rw [e4]
    simp only [en qs]
    exact key
theorem withExpr {Bx : Nat} {W : World} {v : Value} {x : List NodeD} (h : NRow W v x) (hs : ShK tau Bx (.row 90) W v (cntExpr x)) : WithS tau Bx 88 ExprE cntExpr W [v] x :=
  ⟨⟨_, rfl, h⟩, [cntExpr x], rfl, by simp, fun r h1 h2 => match r, h1 with | 0, _ => ⟨_, rfl, hs⟩⟩
theorem withSym {Bx : Nat} {W : World} {v : Value} {x : SymD} (h : RowC 1 ExprE W v x.args) (hs : ShK tau Bx (.row 88) W v ((x.args.map cntExpr).sum)) : WithS tau Bx 63 SymE cntSym W [.int .i64 x.kind, .string x.text, v, .string x.bind] x :=
  ⟨⟨_, rfl, h⟩, [1, 1, (x.args.map cntExpr).sum, 1], rfl, by unfold cntSym; simp only [List.sum_cons, List.sum_nil]; omega, fun r h1 h2 => match r, h1 with | 0, _ => ⟨_, rfl, ShK.int _⟩ | 1, _ => ⟨_, rfl, ShK.str _⟩ | 2, _ => ⟨_, rfl, hs⟩ | 3, _ => ⟨_, rfl, ShK.str _⟩⟩
theorem withAlt {Bx : Nat} {W : World} {v : Value} {x : List SymD} (h : RowC 4 SymE W v x) (hs : ShK tau Bx (.row 63) W v ((x.map cntSym).sum)) : WithS tau Bx 60 AltE cntAlt W [v] x :=
  ⟨⟨_, rfl, h⟩, [(x.map cntSym).sum], rfl, by unfold cntAlt; simp, fun r h1 h2 => match r, h1 with | 0, _ => ⟨_, rfl, hs⟩⟩
theorem withRule {Bx : Nat} {W : World} {v u : Value} {x : RuleD} (h : SRow W v x.params) (hs : ShK tau Bx (.row 9) W v x.params.length) (h1 : RowC 1 AltE W u x.alts) (hs1 : ShK tau Bx (.row 60) W u ((x.alts.map cntAlt).sum)) : WithS tau Bx 42 RuleE cntRule W [.string x.name, v, u] x :=
  ⟨⟨_, _, rfl, h, h1⟩, [1, x.params.length, (x.alts.map cntAlt).sum], rfl, by unfold cntRule; simp only [List.sum_cons, List.sum_nil]; omega, fun r h2 h3 => match r, h2 with | 0, _ => ⟨_, rfl, ShK.str _⟩ | 1, _ => ⟨_, rfl, hs⟩ | 2, _ => ⟨_, rfl, hs1⟩⟩

theorem gtsStringS (Bx : Nat) (v : Value) (xs : List ByteArray) (w : World) (hBx : Bx ≤ w.heap.size) (hz : rowTot ByteArray.size xs ≤ 1048576) (h : SRow w v xs) :
    Calls Tryz.prog 54 #[v] w fun e w' => ∃ a c, e = .returned (.slice a xs.length c) ∧ Fresh w.heap.size w' (fun W => SRow W (.slice a xs.length c) xs ∧ ShK tau Bx (.row 9) W (.slice a xs.length c) xs.length) ∧ Below w.heap.size w w' := by
  refine (toStringS_any v xs w (by have := rowTot_len ByteArray.size xs; omega) h).mono ?_
  rintro e w' ⟨o, rfl, ho, hb⟩
  obtain ⟨a, c, rfl⟩ := ho.row.slice
  exact ⟨a, c, rfl, (fresh_sRow ho).and ((shK_ownB ho).fresh.imp fun W h => h.low hBx), hb⟩
theorem gtsExpr (Bx : Nat) (v : Value) (x : List NodeD) (w : World) (hBx : Bx ≤ w.heap.size) (hz : exprTot x ≤ 1048576) (h : NRow w v x) :
    Calls Tryz.prog 148 #[.agg #[v]] w fun e w' => ∃ a0 c0, e = .returned (.agg #[.slice a0 x.length c0]) ∧ Fresh w.heap.size w' (fun W => NRow W (.slice a0 x.length c0) x ∧ ShK tau Bx (.row 90) W (.slice a0 x.length c0) (cntExpr x)) ∧ Below w.heap.size w w' := by
  have e : exprTot x = x.length + (x.map fun y => y.name.size + y.kids.length).sum := rfl
  refine (toExpr_any v x w (by omega) (fun y hy => ?_) h).mono ?_
  · have : y.name.size + y.kids.length ≤ (x.map fun y => y.name.size + y.kids.length).sum := sum_mem (fun y : NodeD => y.name.size + y.kids.length) hy
    omega
  · rintro e w' ⟨o, rfl, ho, hb⟩
    obtain ⟨a, c, rfl⟩ := ho.row.slice
    exact ⟨a, c, rfl, (fresh_nRow ho).and ((shK_ownN ho).fresh.imp fun W h => h.low hBx), hb⟩

set_option maxHeartbeats 3200000 in
set_option maxRecDepth 100000 in
theorem gtsExprS (Bx : Nat) (v : Value) (xs : List (List NodeD)) (w : World) (hBx : Bx ≤ w.heap.size) (hz : rowTot exprTot xs ≤ 1048576) (h : RowC 1 ExprE w v xs) :
    Calls Tryz.prog 137 #[v] w fun e w' => ∃ a c, e = .returned (.slice a xs.length c) ∧ Fresh w.heap.size w' (fun W => RowC 1 ExprE W (.slice a xs.length c) xs ∧ ShK tau Bx (.row 88) W (.slice a xs.length c) ((xs.map cntExpr).sum)) ∧ Below w.heap.size w w' := by
  obtain ⟨i0, hi, hz0, hz1, hz2⟩ := info_parts Tryz.infoExpr
  have hn := rowTot_len exprTot xs
  have HR : Hid (RowC 1 ExprE w v xs) := h
  obtain ⟨a, cap, rfl⟩ := h.slice
  clear h
  go_enter Tryz.func137, Tryz.ntmps137
  go_wp2_with (at_make; refine wpList_make_full _ rfl _ _ 61 rfl w.heap.size 88 i0 _ 1 Tryz.underlying61 hi hz0 hz1 .i64 .i64 _ _ xs.length rfl rfl rfl rfl (by rw [hz2]; omega) (by unfold maxLen; omega) (Nat.le_refl _) ?_; intro w1 hown hg1)
  have HO : Hid (RowTo 1 (WithS tau Bx 88 ExprE cntExpr) 88 w.heap.size w.heap.size xs 0 w1) := rowTo_start hown
  have HB1 : Hid (Below w.heap.size w w1) := (Below.refl _ _).grown hg1 (Nat.le_refl _) (fun k h => by cases h)
  clear hown hg1
  go_loopw [4] (fun iv wr => ∃ k : Nat, iv = .int .i64 k ∧ k ≤ xs.length ∧ RowTo 1 (WithS tau Bx 88 ExprE cntExpr) 88 w.heap.size w.heap.size xs k wr ∧ Below w.heap.size w wr) (fun iv _ => xs.length - (intOf iv).toNat)
  case atStart => exact ⟨0, rfl, Nat.zero_le _, HO.out, HB1.out⟩
  case round =>
    obtain ⟨k, rfl, hk, hrow, hb⟩ := hrel
    have HW : Hid (RowTo 1 (WithS tau Bx 88 ExprE cntExpr) 88 w.heap.size w.heap.size xs k wr) := hrow
    have HB : Hid (Below w.heap.size w wr) := hb
    have HRr : Hid (RowC 1 ExprE wr (.slice a xs.length cap) xs) := RowC.below ExprE_stable HR.out hb
    have hgt : w.heap.size + 1 ≤ wr.heap.size := by
      obtain ⟨cs, ho⟩ := hrow.own
      exact (World.ownsRow.lt ho w.heap.size rfl).2
    clear hb hrow HO HB1
    by_cases hlt : k < xs.length
    · obtain ⟨b, off, vs, rfl, _, hc, hE⟩ := HRr.out.at hlt
      obtain ⟨r0, rfl, hh0⟩ := hE
      have n0 : wr.cell? ⟨b, off + k, none⟩ = some (r0) := by have h := hc 0 (by simp); rw [Nat.mul_one] at h; exact h
      have HT : Hid (∀ W, Below wr.heap.size wr W → _) := fun W hW => gtsExpr Bx r0 xs[k] W (by have := hW.size; omega) (by have := rowTot_mem exprTot (List.getElem_mem hlt); omega) (hh0.below hW)
      obtain ⟨aa0, ca0, rfl⟩ := hh0.slice
      clear hc hh0
      go_wp2_with fail
      refine (HT.out _ (Below.refl _ _)).mono ?_
      rintro e w2 ⟨o0, c0, rfl, f0, hb2⟩
      have HB2 : Hid (Below w.heap.size w w2) := HB.out.trans (hb2.mono HB.out.size)
      have HW2 : Hid (RowTo 1 (WithS tau Bx 88 ExprE cntExpr) 88 w.heap.size w.heap.size xs k w2) := HW.out.below hb2
      have HE2 : Hid (Fresh (w.heap.size + 1) w2 (fun W => WithS tau Bx 88 ExprE cntExpr W [.slice o0 xs[k].length c0] xs[k])) := fun W h1 h2 => withExpr ((f0.base hgt) W h1 h2).1 ((f0.base hgt) W h1 h2).2
      obtain ⟨cs, O2⟩ := HW2.out.own
      obtain ⟨d0, hd0, hf0⟩ := own_cell O2 (k) (by omega)
      clear O2 hb2 HT HW f0
      go_wp2
      have HN : Hid (RowTo 1 (WithS tau Bx 88 ExprE cntExpr) 88 w.heap.size w.heap.size xs (k + 1) (setsW w2 w.heap.size (k * 1) [.slice o0 xs[k].length c0])) := HW2.out.next hlt rfl HE2.out
      have HB3 : Hid (Below w.heap.size w (setsW w2 w.heap.size (k * 1) [.slice o0 xs[k].length c0])) := setsW_below HB2.out (Nat.le_refl _) _ _
      simp only [Nat.mul_one] at HN HB3
      go_roundw
      case rel => exact ⟨k + 1, by go_num, by omega, HN.out, HB3.out⟩
      case measure => simp [intOf]; omega
    · obtain rfl : k = xs.length := by omega
      have HF : Hid (Fresh w.heap.size wr (fun W => RowC 1 ExprE W (.slice (some ⟨w.heap.size, 0, none⟩) xs.length xs.length) xs ∧ ShK tau Bx (.row 88) W (.slice (some ⟨w.heap.size, 0, none⟩) xs.length xs.length) ((xs.map cntExpr).sum))) := RowTo.done2 rfl hBx HW.out
      clear HW
      go_wp2
      go_ret
      exact ⟨_, _, rfl, HF.out, HB.out⟩

set_option maxHeartbeats 3200000 in
set_option maxRecDepth 100000 in
theorem gtsSym (Bx : Nat) (r0 : Value) (x : SymD) (w : World) (hBx : Bx ≤ w.heap.size) (hz : symTot x ≤ 1048576) (hh0 : RowC 1 ExprE w r0 x.args) :
    Calls Tryz.prog 120 #[.agg #[.int .i64 x.kind, .string x.text, r0, .string x.bind]] w fun e w' => ∃ o0 c0, e = .returned (.agg #[.int .i64 x.kind, .string x.text, .slice o0 x.args.length c0, .string x.bind]) ∧ Fresh w.heap.size w' (fun W => RowC 1 ExprE W (.slice o0 x.args.length c0) x.args ∧ ShK tau Bx (.row 88) W (.slice o0 x.args.length c0) ((x.args.map cntExpr).sum)) ∧ Below w.heap.size w w' := by
  have HTt : symTot x = x.text.size + rowTot exprTot x.args + x.bind.size := rfl
  have R0 : Hid (RowC 1 ExprE w r0 x.args) := hh0
  obtain ⟨aa0, ca0, rfl⟩ := hh0.slice
  have hz0 : rowTot exprTot x.args ≤ 1048576 := by omega
  clear HTt hz hh0
  obtain ⟨B, hB⟩ : ∃ B, w.heap.size = B := ⟨_, rfl⟩
  go_enter Tryz.func120, Tryz.ntmps120
  go_wp2_with fail
  obtain ⟨k0, k1, k2⟩ := box_three w #[.int .i64 x.kind, .string x.text, .slice aa0 x.args.length ca0, .string x.bind] #[.int .i64 0, .string ⟨#[]⟩, .slice none 0 0, .string ⟨#[]⟩] #[.int .i64 x.kind, .string x.text, .slice none 0 0, .string ⟨#[]⟩] 150 63 hB
  have P0 : Hid ((((w.alloc (.cells #[.int .i64 x.kind, .string x.text, .slice aa0 x.args.length ca0, .string x.bind] 150)).alloc (.cells #[.int .i64 0, .string ⟨#[]⟩, .slice none 0 0, .string ⟨#[]⟩] 63)).alloc (.cells #[.int .i64 x.kind, .string x.text, .slice none 0 0, .string ⟨#[]⟩] 63)).heap[B]? = some (.cells #[.int .i64 x.kind, .string x.text, .slice aa0 x.args.length ca0, .string x.bind] 150)) := k0
  have P1 : Hid ((((w.alloc (.cells #[.int .i64 x.kind, .string x.text, .slice aa0 x.args.length ca0, .string x.bind] 150)).alloc (.cells #[.int .i64 0, .string ⟨#[]⟩, .slice none 0 0, .string ⟨#[]⟩] 63)).alloc (.cells #[.int .i64 x.kind, .string x.text, .slice none 0 0, .string ⟨#[]⟩] 63)).heap[B + 1]? = some (.cells #[.int .i64 0, .string ⟨#[]⟩, .slice none 0 0, .string ⟨#[]⟩] 63)) := k1
  have P2 : Hid ((((w.alloc (.cells #[.int .i64 x.kind, .string x.text, .slice aa0 x.args.length ca0, .string x.bind] 150)).alloc (.cells #[.int .i64 0, .string ⟨#[]⟩, .slice none 0 0, .string ⟨#[]⟩] 63)).alloc (.cells #[.int .i64 x.kind, .string x.text, .slice none 0 0, .string ⟨#[]⟩] 63)).heap[B + 2]? = some (.cells #[.int .i64 x.kind, .string x.text, .slice none 0 0, .string ⟨#[]⟩] 63)) := k2
  have BW : Hid (Below w.heap.size w (((w.alloc (.cells #[.int .i64 x.kind, .string x.text, .slice aa0 x.args.length ca0, .string x.bind] 150)).alloc (.cells #[.int .i64 0, .string ⟨#[]⟩, .slice none 0 0, .string ⟨#[]⟩] 63)).alloc (.cells #[.int .i64 x.kind, .string x.text, .slice none 0 0, .string ⟨#[]⟩] 63))) := (((Below.refl _ _).alloc (Nat.le_refl _) _).alloc (by simp) _).alloc (by simp; omega) _
  have hsz : B + 3 ≤ (((w.alloc (.cells #[.int .i64 x.kind, .string x.text, .slice aa0 x.args.length ca0, .string x.bind] 150)).alloc (.cells #[.int .i64 0, .string ⟨#[]⟩, .slice none 0 0, .string ⟨#[]⟩] 63)).alloc (.cells #[.int .i64 x.kind, .string x.text, .slice none 0 0, .string ⟨#[]⟩] 63)).heap.size := by simp [hB]
  clear k0 k1 k2
  generalize ((w.alloc (.cells #[.int .i64 x.kind, .string x.text, .slice aa0 x.args.length ca0, .string x.bind] 150)).alloc (.cells #[.int .i64 0, .string ⟨#[]⟩, .slice none 0 0, .string ⟨#[]⟩] 63)).alloc (.cells #[.int .i64 x.kind, .string x.text, .slice none 0 0, .string ⟨#[]⟩] 63) = W0 at *
  refine (gtsExprS Bx _ x.args W0 (by omega) hz0 (RowC.below ExprE_stable R0.out BW.out)).mono ?_
  rintro e w0 ⟨o0, c0, rfl, f0, hb0⟩
  have B0 : Hid (Below w.heap.size w w0) := BW.out.trans (hb0.mono BW.out.size)
  have F0_0 : Hid (Fresh (B + 3) w0 (fun W => RowC 1 ExprE W (.slice o0 x.args.length c0) x.args ∧ ShK tau Bx (.row 88) W (.slice o0 x.args.length c0) ((x.args.map cntExpr).sum))) := f0.base hsz
  have q00_0 : Hid (w0.heap[B]? = some (.cells #[.int .i64 x.kind, .string x.text, .slice aa0 x.args.length ca0, .string x.bind] 150)) := (hb0.block B (by omega)).trans P0.out
  have q01_0 : Hid (w0.heap[B + 1]? = some (.cells #[.int .i64 0, .string ⟨#[]⟩, .slice none 0 0, .string ⟨#[]⟩] 63)) := (hb0.block (B + 1) (by omega)).trans P1.out
  have q02_0 : Hid (w0.heap[B + 2]? = some (.cells #[.int .i64 x.kind, .string x.text, .slice none 0 0, .string ⟨#[]⟩] 63)) := (hb0.block (B + 2) (by omega)).trans P2.out
  have hsz0 : B + 3 ≤ w0.heap.size := Nat.le_trans hsz hb0.size
  clear P0 P1 P2 f0 hb0 hsz BW
  have y0_2 : (w0).cell? ⟨B + 1 + 1, 2, none⟩ = some (.slice none 0 0) := cell_block (b := B + 2) q02_0.out rfl
  have g0_2 : (w0).frozen? ⟨B + 1 + 1, 2, none⟩ = false := frozen_block (b := B + 2) q02_0.out
  have q00_1 : Hid ((w0.setCell ⟨B + 1 + 1, 2, none⟩ (.slice o0 x.args.length c0)).heap[B]? = some (.cells #[.int .i64 x.kind, .string x.text, .slice aa0 x.args.length ca0, .string x.bind] 150)) := (block_other (b := B) (b' := B + 1 + 1) (by omega)).trans q00_0.out
  have q01_1 : Hid ((w0.setCell ⟨B + 1 + 1, 2, none⟩ (.slice o0 x.args.length c0)).heap[B + 1]? = some (.cells #[.int .i64 0, .string ⟨#[]⟩, .slice none 0 0, .string ⟨#[]⟩] 63)) := (block_other (b := B + 1) (b' := B + 1 + 1) (by omega)).trans q01_0.out
  have q02_1 : Hid ((w0.setCell ⟨B + 1 + 1, 2, none⟩ (.slice o0 x.args.length c0)).heap[B + 2]? = some (.cells #[.int .i64 x.kind, .string x.text, .slice o0 x.args.length c0, .string ⟨#[]⟩] 63)) := block_set (b := B + 2) q02_0.out
  have a0_3 : (w0.setCell ⟨B + 1 + 1, 2, none⟩ (.slice o0 x.args.length c0)).cell? ⟨B, 3, none⟩ = some (.string x.bind) := cell_block q00_1.out rfl
  have y0_3 : (w0.setCell ⟨B + 1 + 1, 2, none⟩ (.slice o0 x.args.length c0)).cell? ⟨B + 1 + 1, 3, none⟩ = some (.string ⟨#[]⟩) := cell_block (b := B + 2) q02_1.out rfl
  have g0_3 : (w0.setCell ⟨B + 1 + 1, 2, none⟩ (.slice o0 x.args.length c0)).frozen? ⟨B + 1 + 1, 3, none⟩ = false := frozen_block (b := B + 2) q02_1.out
  have q00_2 : Hid (((w0.setCell ⟨B + 1 + 1, 2, none⟩ (.slice o0 x.args.length c0)).setCell ⟨B + 1 + 1, 3, none⟩ (.string x.bind)).heap[B]? = some (.cells #[.int .i64 x.kind, .string x.text, .slice aa0 x.args.length ca0, .string x.bind] 150)) := (block_other (b := B) (b' := B + 1 + 1) (by omega)).trans q00_1.out
  have q01_2 : Hid (((w0.setCell ⟨B + 1 + 1, 2, none⟩ (.slice o0 x.args.length c0)).setCell ⟨B + 1 + 1, 3, none⟩ (.string x.bind)).heap[B + 1]? = some (.cells #[.int .i64 0, .string ⟨#[]⟩, .slice none 0 0, .string ⟨#[]⟩] 63)) := (block_other (b := B + 1) (b' := B + 1 + 1) (by omega)).trans q01_1.out
  have q02_2 : Hid (((w0.setCell ⟨B + 1 + 1, 2, none⟩ (.slice o0 x.args.length c0)).setCell ⟨B + 1 + 1, 3, none⟩ (.string x.bind)).heap[B + 2]? = some (.cells #[.int .i64 x.kind, .string x.text, .slice o0 x.args.length c0, .string x.bind] 63)) := block_set (b := B + 2) q02_1.out
  have C0 : Hid (Below w.heap.size w ((w0.setCell ⟨B + 1 + 1, 2, none⟩ (.slice o0 x.args.length c0)).setCell ⟨B + 1 + 1, 3, none⟩ (.string x.bind))) := ((B0.out.setCell (show w.heap.size ≤ B + 1 + 1 by omega) _).setCell (show w.heap.size ≤ B + 1 + 1 by omega) _)
  have G0_0 : Hid (Fresh (B + 3) ((w0.setCell ⟨B + 1 + 1, 2, none⟩ (.slice o0 x.args.length c0)).setCell ⟨B + 1 + 1, 3, none⟩ (.string x.bind)) (fun W => RowC 1 ExprE W (.slice o0 x.args.length c0) x.args ∧ ShK tau Bx (.row 88) W (.slice o0 x.args.length c0) ((x.args.map cntExpr).sum))) := ((F0_0.out.setLow (by omega) _ _).setLow (by omega) _ _)
  have v0 : B + 3 ≤ ((w0.setCell ⟨B + 1 + 1, 2, none⟩ (.slice o0 x.args.length c0)).setCell ⟨B + 1 + 1, 3, none⟩ (.string x.bind)).heap.size := by simpa using hsz0
  have y9_0 : ((w0.setCell ⟨B + 1 + 1, 2, none⟩ (.slice o0 x.args.length c0)).setCell ⟨B + 1 + 1, 3, none⟩ (.string x.bind)).cell? ⟨B + 1 + 1, 0, none⟩ = some (.int .i64 x.kind) := cell_block (b := B + 2) q02_2.out rfl
  have z9_0 : ((w0.setCell ⟨B + 1 + 1, 2, none⟩ (.slice o0 x.args.length c0)).setCell ⟨B + 1 + 1, 3, none⟩ (.string x.bind)).cell? ⟨B + 1, 0, none⟩ = some (.int .i64 0) := cell_block q01_2.out rfl
  have g9_0 : ((w0.setCell ⟨B + 1 + 1, 2, none⟩ (.slice o0 x.args.length c0)).setCell ⟨B + 1 + 1, 3, none⟩ (.string x.bind)).frozen? ⟨B + 1, 0, none⟩ = false := frozen_block q01_2.out
  have y9_1 : ((w0.setCell ⟨B + 1 + 1, 2, none⟩ (.slice o0 x.args.length c0)).setCell ⟨B + 1 + 1, 3, none⟩ (.string x.bind)).cell? ⟨B + 1 + 1, 1, none⟩ = some (.string x.text) := cell_block (b := B + 2) q02_2.out rfl
  have z9_1 : ((w0.setCell ⟨B + 1 + 1, 2, none⟩ (.slice o0 x.args.length c0)).setCell ⟨B + 1 + 1, 3, none⟩ (.string x.bind)).cell? ⟨B + 1, 1, none⟩ = some (.string ⟨#[]⟩) := cell_block q01_2.out rfl
  have g9_1 : ((w0.setCell ⟨B + 1 + 1, 2, none⟩ (.slice o0 x.args.length c0)).setCell ⟨B + 1 + 1, 3, none⟩ (.string x.bind)).frozen? ⟨B + 1, 1, none⟩ = false := frozen_block q01_2.out
  have y9_2 : ((w0.setCell ⟨B + 1 + 1, 2, none⟩ (.slice o0 x.args.length c0)).setCell ⟨B + 1 + 1, 3, none⟩ (.string x.bind)).cell? ⟨B + 1 + 1, 2, none⟩ = some (.slice o0 x.args.length c0) := cell_block (b := B + 2) q02_2.out rfl
  have z9_2 : ((w0.setCell ⟨B + 1 + 1, 2, none⟩ (.slice o0 x.args.length c0)).setCell ⟨B + 1 + 1, 3, none⟩ (.string x.bind)).cell? ⟨B + 1, 2, none⟩ = some (.slice none 0 0) := cell_block q01_2.out rfl
  have g9_2 : ((w0.setCell ⟨B + 1 + 1, 2, none⟩ (.slice o0 x.args.length c0)).setCell ⟨B + 1 + 1, 3, none⟩ (.string x.bind)).frozen? ⟨B + 1, 2, none⟩ = false := frozen_block q01_2.out
  have y9_3 : ((w0.setCell ⟨B + 1 + 1, 2, none⟩ (.slice o0 x.args.length c0)).setCell ⟨B + 1 + 1, 3, none⟩ (.string x.bind)).cell? ⟨B + 1 + 1, 3, none⟩ = some (.string x.bind) := cell_block (b := B + 2) q02_2.out rfl
  have z9_3 : ((w0.setCell ⟨B + 1 + 1, 2, none⟩ (.slice o0 x.args.length c0)).setCell ⟨B + 1 + 1, 3, none⟩ (.string x.bind)).cell? ⟨B + 1, 3, none⟩ = some (.string ⟨#[]⟩) := cell_block q01_2.out rfl
  have g9_3 : ((w0.setCell ⟨B + 1 + 1, 2, none⟩ (.slice o0 x.args.length c0)).setCell ⟨B + 1 + 1, 3, none⟩ (.string x.bind)).frozen? ⟨B + 1, 3, none⟩ = false := frozen_block q01_2.out
  go_wp2
  have P1 : Hid (((w0.setCell ⟨B + 1 + 1, 2, none⟩ (.slice o0 x.args.length c0)).setCell ⟨B + 1 + 1, 3, none⟩ (.string x.bind)).heap[B + 1]? = some (.cells #[.int .i64 0, .string ⟨#[]⟩, .slice none 0 0, .string ⟨#[]⟩] 63)) := q01_2.out
  clear a0_3 y0_2 g0_2 y0_3 g0_3 y9_0 z9_0 g9_0 y9_1 z9_1 g9_1 y9_2 z9_2 g9_2 y9_3 z9_3 g9_3 q00_0 q00_1 q00_2 q01_0 q01_1 q01_2 q02_0 q02_1 q02_2
  generalize (w0.setCell ⟨B + 1 + 1, 2, none⟩ (.slice o0 x.args.length c0)).setCell ⟨B + 1 + 1, 3, none⟩ (.string x.bind) = WL at *
  have FB : Hid (Below w.heap.size w ((((WL.setCell ⟨B + 1, 0, none⟩ (.int .i64 x.kind)).setCell ⟨B + 1, 1, none⟩ (.string x.text)).setCell ⟨B + 1, 2, none⟩ (.slice o0 x.args.length c0)).setCell ⟨B + 1, 3, none⟩ (.string x.bind))) := ((((C0.out.setCell (show w.heap.size ≤ B + 1 by omega) _).setCell (show w.heap.size ≤ B + 1 by omega) _).setCell (show w.heap.size ≤ B + 1 by omega) _).setCell (show w.heap.size ≤ B + 1 by omega) _)
  have FF0 : Hid (Fresh w.heap.size ((((WL.setCell ⟨B + 1, 0, none⟩ (.int .i64 x.kind)).setCell ⟨B + 1, 1, none⟩ (.string x.text)).setCell ⟨B + 1, 2, none⟩ (.slice o0 x.args.length c0)).setCell ⟨B + 1, 3, none⟩ (.string x.bind)) (fun W => RowC 1 ExprE W (.slice o0 x.args.length c0) x.args ∧ ShK tau Bx (.row 88) W (.slice o0 x.args.length c0) ((x.args.map cntExpr).sum))) := Fresh.base (((((G0_0.out.setLow (by omega) _ _).setLow (by omega) _ _).setLow (by omega) _ _).setLow (by omega) _ _)) (show w.heap.size ≤ B + 3 by omega)
  have rp : ((((WL.setCell ⟨B + 1, 0, none⟩ (.int .i64 x.kind)).setCell ⟨B + 1, 1, none⟩ (.string x.text)).setCell ⟨B + 1, 2, none⟩ (.slice o0 x.args.length c0)).setCell ⟨B + 1, 3, none⟩ (.string x.bind)).heap[B + 1]? = some (.cells #[.int .i64 x.kind, .string x.text, .slice o0 x.args.length c0, .string x.bind] 63) := block_set (block_set (block_set (block_set P1.out)))
  have rr0 : ((((WL.setCell ⟨B + 1, 0, none⟩ (.int .i64 x.kind)).setCell ⟨B + 1, 1, none⟩ (.string x.text)).setCell ⟨B + 1, 2, none⟩ (.slice o0 x.args.length c0)).setCell ⟨B + 1, 3, none⟩ (.string x.bind)).cell? ⟨B + 1, 0, none⟩ = some (.int .i64 x.kind) := cell_block rp rfl
  have rr1 : ((((WL.setCell ⟨B + 1, 0, none⟩ (.int .i64 x.kind)).setCell ⟨B + 1, 1, none⟩ (.string x.text)).setCell ⟨B + 1, 2, none⟩ (.slice o0 x.args.length c0)).setCell ⟨B + 1, 3, none⟩ (.string x.bind)).cell? ⟨B + 1, 1, none⟩ = some (.string x.text) := cell_block rp rfl
  have rr2 : ((((WL.setCell ⟨B + 1, 0, none⟩ (.int .i64 x.kind)).setCell ⟨B + 1, 1, none⟩ (.string x.text)).setCell ⟨B + 1, 2, none⟩ (.slice o0 x.args.length c0)).setCell ⟨B + 1, 3, none⟩ (.string x.bind)).cell? ⟨B + 1, 2, none⟩ = some (.slice o0 x.args.length c0) := cell_block rp rfl
  have rr3 : ((((WL.setCell ⟨B + 1, 0, none⟩ (.int .i64 x.kind)).setCell ⟨B + 1, 1, none⟩ (.string x.text)).setCell ⟨B + 1, 2, none⟩ (.slice o0 x.args.length c0)).setCell ⟨B + 1, 3, none⟩ (.string x.bind)).cell? ⟨B + 1, 3, none⟩ = some (.string x.bind) := cell_block rp rfl
  clear rp P1 v0
  generalize (((WL.setCell ⟨B + 1, 0, none⟩ (.int .i64 x.kind)).setCell ⟨B + 1, 1, none⟩ (.string x.text)).setCell ⟨B + 1, 2, none⟩ (.slice o0 x.args.length c0)).setCell ⟨B + 1, 3, none⟩ (.string x.bind) = W9 at *
  (try simp only [Exit.inBlock, Exit.then])
  refine bodyPost_ret (by simp [results, Tryz.results120, go_sem, rr0, rr1, rr2, rr3]; try rfl) rfl ?_
  exact ⟨_, _, rfl, FF0.out, FB.out⟩

set_option maxHeartbeats 3200000 in
set_option maxRecDepth 100000 in
theorem gtsSymS (Bx : Nat) (v : Value) (xs : List (SymD)) (w : World) (hBx : Bx ≤ w.heap.size) (hz : rowTot symTot xs ≤ 1048576) (h : RowC 4 SymE w v xs) :
    Calls Tryz.prog 94 #[v] w fun e w' => ∃ a c, e = .returned (.slice a xs.length c) ∧ Fresh w.heap.size w' (fun W => RowC 4 SymE W (.slice a xs.length c) xs ∧ ShK tau Bx (.row 63) W (.slice a xs.length c) ((xs.map cntSym).sum)) ∧ Below w.heap.size w w' := by
  obtain ⟨i0, hi, hz0, hz1, hz2⟩ := info_parts Tryz.infoSym
  have hn := rowTot_len symTot xs
  have HR : Hid (RowC 4 SymE w v xs) := h
  obtain ⟨a, cap, rfl⟩ := h.slice
  clear h
  go_enter Tryz.func94, Tryz.ntmps94
  go_wp2_with (at_make; refine wpList_make_full _ rfl _ _ 58 rfl w.heap.size 63 i0 _ 4 Tryz.underlying58 hi hz0 hz1 .i64 .i64 _ _ xs.length rfl rfl rfl rfl (by rw [hz2]; omega) (by unfold maxLen; omega) (Nat.le_refl _) ?_; intro w1 hown hg1)
  have HO : Hid (RowTo 4 (WithS tau Bx 63 SymE cntSym) 63 w.heap.size w.heap.size xs 0 w1) := rowTo_start hown
  have HB1 : Hid (Below w.heap.size w w1) := (Below.refl _ _).grown hg1 (Nat.le_refl _) (fun k h => by cases h)
  clear hown hg1
  go_loopw [4] (fun iv wr => ∃ k : Nat, iv = .int .i64 k ∧ k ≤ xs.length ∧ RowTo 4 (WithS tau Bx 63 SymE cntSym) 63 w.heap.size w.heap.size xs k wr ∧ Below w.heap.size w wr) (fun iv _ => xs.length - (intOf iv).toNat)
  case atStart => exact ⟨0, rfl, Nat.zero_le _, HO.out, HB1.out⟩
  case round =>
    obtain ⟨k, rfl, hk, hrow, hb⟩ := hrel
    have HW : Hid (RowTo 4 (WithS tau Bx 63 SymE cntSym) 63 w.heap.size w.heap.size xs k wr) := hrow
    have HB : Hid (Below w.heap.size w wr) := hb
    have HRr : Hid (RowC 4 SymE wr (.slice a xs.length cap) xs) := RowC.below SymE_stable HR.out hb
    have hgt : w.heap.size + 1 ≤ wr.heap.size := by
      obtain ⟨cs, ho⟩ := hrow.own
      exact (World.ownsRow.lt ho w.heap.size rfl).2
    clear hb hrow HO HB1
    by_cases hlt : k < xs.length
    · obtain ⟨b, off, vs, rfl, _, hc, hE⟩ := HRr.out.at hlt
      obtain ⟨r0, rfl, hh0⟩ := hE
      have n0 : wr.cell? ⟨b, off + k * 4, none⟩ = some (.int .i64 xs[k].kind) := hc 0 (by simp)
      have n1 : wr.cell? ⟨b, off + k * 4 + 1, none⟩ = some (.string xs[k].text) := hc 1 (by simp)
      have n2 : wr.cell? ⟨b, off + k * 4 + 2, none⟩ = some (r0) := hc 2 (by simp)
      have n3 : wr.cell? ⟨b, off + k * 4 + 3, none⟩ = some (.string xs[k].bind) := hc 3 (by simp)
      have HT : Hid (∀ W, Below wr.heap.size wr W → _) := fun W hW => gtsSym Bx r0 xs[k] W (by have := hW.size; omega) (by have := rowTot_mem symTot (List.getElem_mem hlt); omega) (RowC.below ExprE_stable hh0 hW)
      obtain ⟨aa0, ca0, rfl⟩ := hh0.slice
      clear hc hh0
      go_wp2_with fail
      refine (HT.out _ (Below.refl _ _)).mono ?_
      rintro e w2 ⟨o0, c0, rfl, f0, hb2⟩
      have HB2 : Hid (Below w.heap.size w w2) := HB.out.trans (hb2.mono HB.out.size)
      have HW2 : Hid (RowTo 4 (WithS tau Bx 63 SymE cntSym) 63 w.heap.size w.heap.size xs k w2) := HW.out.below hb2
      have HE2 : Hid (Fresh (w.heap.size + 1) w2 (fun W => WithS tau Bx 63 SymE cntSym W [.int .i64 xs[k].kind, .string xs[k].text, .slice o0 xs[k].args.length c0, .string xs[k].bind] xs[k])) := fun W h1 h2 => withSym ((f0.base hgt) W h1 h2).1 ((f0.base hgt) W h1 h2).2
      obtain ⟨cs, O2⟩ := HW2.out.own
      obtain ⟨d0, hd0, hf0⟩ := own_cell O2 (k * 4) (by omega)
      obtain ⟨d1, hd1, hf1⟩ := own_cell O2 (k * 4 + 1) (by omega)
      obtain ⟨d2, hd2, hf2⟩ := own_cell O2 (k * 4 + 2) (by omega)
      obtain ⟨d3, hd3, hf3⟩ := own_cell O2 (k * 4 + 3) (by omega)
      clear O2 hb2 HT HW f0
      go_wp2
      have HN : Hid (RowTo 4 (WithS tau Bx 63 SymE cntSym) 63 w.heap.size w.heap.size xs (k + 1) (setsW w2 w.heap.size (k * 4) [.int .i64 xs[k].kind, .string xs[k].text, .slice o0 xs[k].args.length c0, .string xs[k].bind])) := HW2.out.next hlt rfl HE2.out
      have HB3 : Hid (Below w.heap.size w (setsW w2 w.heap.size (k * 4) [.int .i64 xs[k].kind, .string xs[k].text, .slice o0 xs[k].args.length c0, .string xs[k].bind])) := setsW_below HB2.out (Nat.le_refl _) _ _
      skip
      go_roundw
      case rel => exact ⟨k + 1, by go_num, by omega, HN.out, HB3.out⟩
      case measure => simp [intOf]; omega
    · obtain rfl : k = xs.length := by omega
      have HF : Hid (Fresh w.heap.size wr (fun W => RowC 4 SymE W (.slice (some ⟨w.heap.size, 0, none⟩) xs.length xs.length) xs ∧ ShK tau Bx (.row 63) W (.slice (some ⟨w.heap.size, 0, none⟩) xs.length xs.length) ((xs.map cntSym).sum))) := RowTo.done2 rfl hBx HW.out
      clear HW
      go_wp2
      go_ret
      exact ⟨_, _, rfl, HF.out, HB.out⟩

set_option maxHeartbeats 3200000 in
set_option maxRecDepth 100000 in
theorem gtsAlt (Bx : Nat) (r0 : Value) (x : List SymD) (w : World) (hBx : Bx ≤ w.heap.size) (hz : altTot x ≤ 1048576) (hh0 : RowC 4 SymE w r0 x) :
    Calls Tryz.prog 79 #[.agg #[r0]] w fun e w' => ∃ o0 c0, e = .returned (.agg #[.slice o0 x.length c0]) ∧ Fresh w.heap.size w' (fun W => RowC 4 SymE W (.slice o0 x.length c0) x ∧ ShK tau Bx (.row 63) W (.slice o0 x.length c0) ((x.map cntSym).sum)) ∧ Below w.heap.size w w' := by
  have HTt : altTot x = rowTot symTot x := rfl
  have R0 : Hid (RowC 4 SymE w r0 x) := hh0
  obtain ⟨aa0, ca0, rfl⟩ := hh0.slice
  have hz0 : rowTot symTot x ≤ 1048576 := by omega
  clear HTt hz hh0
  obtain ⟨B, hB⟩ : ∃ B, w.heap.size = B := ⟨_, rfl⟩
  go_enter Tryz.func79, Tryz.ntmps79
  go_wp2_with fail
  obtain ⟨k0, k1, k2⟩ := box_three w #[.slice aa0 x.length ca0] #[.slice none 0 0] #[.slice none 0 0] 108 60 hB
  have P0 : Hid ((((w.alloc (.cells #[.slice aa0 x.length ca0] 108)).alloc (.cells #[.slice none 0 0] 60)).alloc (.cells #[.slice none 0 0] 60)).heap[B]? = some (.cells #[.slice aa0 x.length ca0] 108)) := k0
  have P1 : Hid ((((w.alloc (.cells #[.slice aa0 x.length ca0] 108)).alloc (.cells #[.slice none 0 0] 60)).alloc (.cells #[.slice none 0 0] 60)).heap[B + 1]? = some (.cells #[.slice none 0 0] 60)) := k1
  have P2 : Hid ((((w.alloc (.cells #[.slice aa0 x.length ca0] 108)).alloc (.cells #[.slice none 0 0] 60)).alloc (.cells #[.slice none 0 0] 60)).heap[B + 2]? = some (.cells #[.slice none 0 0] 60)) := k2
  have BW : Hid (Below w.heap.size w (((w.alloc (.cells #[.slice aa0 x.length ca0] 108)).alloc (.cells #[.slice none 0 0] 60)).alloc (.cells #[.slice none 0 0] 60))) := (((Below.refl _ _).alloc (Nat.le_refl _) _).alloc (by simp) _).alloc (by simp; omega) _
  have hsz : B + 3 ≤ (((w.alloc (.cells #[.slice aa0 x.length ca0] 108)).alloc (.cells #[.slice none 0 0] 60)).alloc (.cells #[.slice none 0 0] 60)).heap.size := by simp [hB]
  clear k0 k1 k2
  generalize ((w.alloc (.cells #[.slice aa0 x.length ca0] 108)).alloc (.cells #[.slice none 0 0] 60)).alloc (.cells #[.slice none 0 0] 60) = W0 at *
  refine (gtsSymS Bx _ x W0 (by omega) hz0 (RowC.below SymE_stable R0.out BW.out)).mono ?_
  rintro e w0 ⟨o0, c0, rfl, f0, hb0⟩
  have B0 : Hid (Below w.heap.size w w0) := BW.out.trans (hb0.mono BW.out.size)
  have F0_0 : Hid (Fresh (B + 3) w0 (fun W => RowC 4 SymE W (.slice o0 x.length c0) x ∧ ShK tau Bx (.row 63) W (.slice o0 x.length c0) ((x.map cntSym).sum))) := f0.base hsz
  have q00_0 : Hid (w0.heap[B]? = some (.cells #[.slice aa0 x.length ca0] 108)) := (hb0.block B (by omega)).trans P0.out
  have q01_0 : Hid (w0.heap[B + 1]? = some (.cells #[.slice none 0 0] 60)) := (hb0.block (B + 1) (by omega)).trans P1.out
  have q02_0 : Hid (w0.heap[B + 2]? = some (.cells #[.slice none 0 0] 60)) := (hb0.block (B + 2) (by omega)).trans P2.out
  have hsz0 : B + 3 ≤ w0.heap.size := Nat.le_trans hsz hb0.size
  clear P0 P1 P2 f0 hb0 hsz BW
  have y0_0 : (w0).cell? ⟨B + 1 + 1, 0, none⟩ = some (.slice none 0 0) := cell_block (b := B + 2) q02_0.out rfl
  have g0_0 : (w0).frozen? ⟨B + 1 + 1, 0, none⟩ = false := frozen_block (b := B + 2) q02_0.out
  have q00_1 : Hid ((w0.setCell ⟨B + 1 + 1, 0, none⟩ (.slice o0 x.length c0)).heap[B]? = some (.cells #[.slice aa0 x.length ca0] 108)) := (block_other (b := B) (b' := B + 1 + 1) (by omega)).trans q00_0.out
  have q01_1 : Hid ((w0.setCell ⟨B + 1 + 1, 0, none⟩ (.slice o0 x.length c0)).heap[B + 1]? = some (.cells #[.slice none 0 0] 60)) := (block_other (b := B + 1) (b' := B + 1 + 1) (by omega)).trans q01_0.out
  have q02_1 : Hid ((w0.setCell ⟨B + 1 + 1, 0, none⟩ (.slice o0 x.length c0)).heap[B + 2]? = some (.cells #[.slice o0 x.length c0] 60)) := block_set (b := B + 2) q02_0.out
  have C0 : Hid (Below w.heap.size w (w0.setCell ⟨B + 1 + 1, 0, none⟩ (.slice o0 x.length c0))) := (B0.out.setCell (show w.heap.size ≤ B + 1 + 1 by omega) _)
  have G0_0 : Hid (Fresh (B + 3) (w0.setCell ⟨B + 1 + 1, 0, none⟩ (.slice o0 x.length c0)) (fun W => RowC 4 SymE W (.slice o0 x.length c0) x ∧ ShK tau Bx (.row 63) W (.slice o0 x.length c0) ((x.map cntSym).sum))) := (F0_0.out.setLow (by omega) _ _)
  have v0 : B + 3 ≤ (w0.setCell ⟨B + 1 + 1, 0, none⟩ (.slice o0 x.length c0)).heap.size := by simpa using hsz0
  have y9_0 : (w0.setCell ⟨B + 1 + 1, 0, none⟩ (.slice o0 x.length c0)).cell? ⟨B + 1 + 1, 0, none⟩ = some (.slice o0 x.length c0) := cell_block (b := B + 2) q02_1.out rfl
  have z9_0 : (w0.setCell ⟨B + 1 + 1, 0, none⟩ (.slice o0 x.length c0)).cell? ⟨B + 1, 0, none⟩ = some (.slice none 0 0) := cell_block q01_1.out rfl
  have g9_0 : (w0.setCell ⟨B + 1 + 1, 0, none⟩ (.slice o0 x.length c0)).frozen? ⟨B + 1, 0, none⟩ = false := frozen_block q01_1.out
  go_wp2
  have P1 : Hid ((w0.setCell ⟨B + 1 + 1, 0, none⟩ (.slice o0 x.length c0)).heap[B + 1]? = some (.cells #[.slice none 0 0] 60)) := q01_1.out
  clear y0_0 g0_0 y9_0 z9_0 g9_0 q00_0 q00_1 q01_0 q01_1 q02_0 q02_1
  generalize w0.setCell ⟨B + 1 + 1, 0, none⟩ (.slice o0 x.length c0) = WL at *
  have FB : Hid (Below w.heap.size w (WL.setCell ⟨B + 1, 0, none⟩ (.slice o0 x.length c0))) := (C0.out.setCell (show w.heap.size ≤ B + 1 by omega) _)
  have FF0 : Hid (Fresh w.heap.size (WL.setCell ⟨B + 1, 0, none⟩ (.slice o0 x.length c0)) (fun W => RowC 4 SymE W (.slice o0 x.length c0) x ∧ ShK tau Bx (.row 63) W (.slice o0 x.length c0) ((x.map cntSym).sum))) := Fresh.base ((G0_0.out.setLow (by omega) _ _)) (show w.heap.size ≤ B + 3 by omega)
  have rp : (WL.setCell ⟨B + 1, 0, none⟩ (.slice o0 x.length c0)).heap[B + 1]? = some (.cells #[.slice o0 x.length c0] 60) := block_set P1.out
  have rr0 : (WL.setCell ⟨B + 1, 0, none⟩ (.slice o0 x.length c0)).cell? ⟨B + 1, 0, none⟩ = some (.slice o0 x.length c0) := cell_block rp rfl
  clear rp P1 v0
  generalize WL.setCell ⟨B + 1, 0, none⟩ (.slice o0 x.length c0) = W9 at *
  (try simp only [Exit.inBlock, Exit.then])
  refine bodyPost_ret (by simp [results, Tryz.results79, go_sem, rr0]; try rfl) rfl ?_
  exact ⟨_, _, rfl, FF0.out, FB.out⟩

set_option maxHeartbeats 3200000 in
set_option maxRecDepth 100000 in
theorem gtsAltS (Bx : Nat) (v : Value) (xs : List (List SymD)) (w : World) (hBx : Bx ≤ w.heap.size) (hz : rowTot altTot xs ≤ 1048576) (h : RowC 1 AltE w v xs) :
    Calls Tryz.prog 55 #[v] w fun e w' => ∃ a c, e = .returned (.slice a xs.length c) ∧ Fresh w.heap.size w' (fun W => RowC 1 AltE W (.slice a xs.length c) xs ∧ ShK tau Bx (.row 60) W (.slice a xs.length c) ((xs.map cntAlt).sum)) ∧ Below w.heap.size w w' := by
  obtain ⟨i0, hi, hz0, hz1, hz2⟩ := info_parts Tryz.infoAlt
  have hn := rowTot_len altTot xs
  have HR : Hid (RowC 1 AltE w v xs) := h
  obtain ⟨a, cap, rfl⟩ := h.slice
  clear h
  go_enter Tryz.func55, Tryz.ntmps55
  go_wp2_with (at_make; refine wpList_make_full _ rfl _ _ 40 rfl w.heap.size 60 i0 _ 1 Tryz.underlying40 hi hz0 hz1 .i64 .i64 _ _ xs.length rfl rfl rfl rfl (by rw [hz2]; omega) (by unfold maxLen; omega) (Nat.le_refl _) ?_; intro w1 hown hg1)
  have HO : Hid (RowTo 1 (WithS tau Bx 60 AltE cntAlt) 60 w.heap.size w.heap.size xs 0 w1) := rowTo_start hown
  have HB1 : Hid (Below w.heap.size w w1) := (Below.refl _ _).grown hg1 (Nat.le_refl _) (fun k h => by cases h)
  clear hown hg1
  go_loopw [4] (fun iv wr => ∃ k : Nat, iv = .int .i64 k ∧ k ≤ xs.length ∧ RowTo 1 (WithS tau Bx 60 AltE cntAlt) 60 w.heap.size w.heap.size xs k wr ∧ Below w.heap.size w wr) (fun iv _ => xs.length - (intOf iv).toNat)
  case atStart => exact ⟨0, rfl, Nat.zero_le _, HO.out, HB1.out⟩
  case round =>
    obtain ⟨k, rfl, hk, hrow, hb⟩ := hrel
    have HW : Hid (RowTo 1 (WithS tau Bx 60 AltE cntAlt) 60 w.heap.size w.heap.size xs k wr) := hrow
    have HB : Hid (Below w.heap.size w wr) := hb
    have HRr : Hid (RowC 1 AltE wr (.slice a xs.length cap) xs) := RowC.below AltE_stable HR.out hb
    have hgt : w.heap.size + 1 ≤ wr.heap.size := by
      obtain ⟨cs, ho⟩ := hrow.own
      exact (World.ownsRow.lt ho w.heap.size rfl).2
    clear hb hrow HO HB1
    by_cases hlt : k < xs.length
    · obtain ⟨b, off, vs, rfl, _, hc, hE⟩ := HRr.out.at hlt
      obtain ⟨r0, rfl, hh0⟩ := hE
      have n0 : wr.cell? ⟨b, off + k, none⟩ = some (r0) := by have h := hc 0 (by simp); rw [Nat.mul_one] at h; exact h
      have HT : Hid (∀ W, Below wr.heap.size wr W → _) := fun W hW => gtsAlt Bx r0 xs[k] W (by have := hW.size; omega) (by have := rowTot_mem altTot (List.getElem_mem hlt); omega) (RowC.below SymE_stable hh0 hW)
      obtain ⟨aa0, ca0, rfl⟩ := hh0.slice
      clear hc hh0
      go_wp2_with fail
      refine (HT.out _ (Below.refl _ _)).mono ?_
      rintro e w2 ⟨o0, c0, rfl, f0, hb2⟩
      have HB2 : Hid (Below w.heap.size w w2) := HB.out.trans (hb2.mono HB.out.size)
      have HW2 : Hid (RowTo 1 (WithS tau Bx 60 AltE cntAlt) 60 w.heap.size w.heap.size xs k w2) := HW.out.below hb2
      have HE2 : Hid (Fresh (w.heap.size + 1) w2 (fun W => WithS tau Bx 60 AltE cntAlt W [.slice o0 xs[k].length c0] xs[k])) := fun W h1 h2 => withAlt ((f0.base hgt) W h1 h2).1 ((f0.base hgt) W h1 h2).2
      obtain ⟨cs, O2⟩ := HW2.out.own
      obtain ⟨d0, hd0, hf0⟩ := own_cell O2 (k) (by omega)
      clear O2 hb2 HT HW f0
      go_wp2
      have HN : Hid (RowTo 1 (WithS tau Bx 60 AltE cntAlt) 60 w.heap.size w.heap.size xs (k + 1) (setsW w2 w.heap.size (k * 1) [.slice o0 xs[k].length c0])) := HW2.out.next hlt rfl HE2.out
      have HB3 : Hid (Below w.heap.size w (setsW w2 w.heap.size (k * 1) [.slice o0 xs[k].length c0])) := setsW_below HB2.out (Nat.le_refl _) _ _
      simp only [Nat.mul_one] at HN HB3
      go_roundw
      case rel => exact ⟨k + 1, by go_num, by omega, HN.out, HB3.out⟩
      case measure => simp [intOf]; omega
    · obtain rfl : k = xs.length := by omega
      have HF : Hid (Fresh w.heap.size wr (fun W => RowC 1 AltE W (.slice (some ⟨w.heap.size, 0, none⟩) xs.length xs.length) xs ∧ ShK tau Bx (.row 60) W (.slice (some ⟨w.heap.size, 0, none⟩) xs.length xs.length) ((xs.map cntAlt).sum))) := RowTo.done2 rfl hBx HW.out
      clear HW
      go_wp2
      go_ret
      exact ⟨_, _, rfl, HF.out, HB.out⟩

set_option maxHeartbeats 3200000 in
set_option maxRecDepth 100000 in
theorem gtsRule (Bx : Nat) (r0 r1 : Value) (x : RuleD) (w : World) (hBx : Bx ≤ w.heap.size) (hz : ruleTot x ≤ 1048576) (hh0 : SRow w r0 x.params) (hh1 : RowC 1 AltE w r1 x.alts) :
    Calls Tryz.prog 30 #[.agg #[.string x.name, r0, r1]] w fun e w' => ∃ o0 c0 o1 c1, e = .returned (.agg #[.string x.name, .slice o0 x.params.length c0, .slice o1 x.alts.length c1]) ∧ Fresh w.heap.size w' (fun W => SRow W (.slice o0 x.params.length c0) x.params ∧ ShK tau Bx (.row 9) W (.slice o0 x.params.length c0) x.params.length) ∧ Fresh w.heap.size w' (fun W => RowC 1 AltE W (.slice o1 x.alts.length c1) x.alts ∧ ShK tau Bx (.row 60) W (.slice o1 x.alts.length c1) ((x.alts.map cntAlt).sum)) ∧ Below w.heap.size w w' := by
  have HTt : ruleTot x = x.name.size + rowTot ByteArray.size x.params + rowTot altTot x.alts := rfl
  have R0 : Hid (SRow w r0 x.params) := hh0
  obtain ⟨aa0, ca0, rfl⟩ := hh0.slice
  have hz0 : rowTot ByteArray.size x.params ≤ 1048576 := by omega
  have R1 : Hid (RowC 1 AltE w r1 x.alts) := hh1
  obtain ⟨aa1, ca1, rfl⟩ := hh1.slice
  have hz1 : rowTot altTot x.alts ≤ 1048576 := by omega
  clear HTt hz hh0 hh1
  obtain ⟨B, hB⟩ : ∃ B, w.heap.size = B := ⟨_, rfl⟩
  go_enter Tryz.func30, Tryz.ntmps30
  go_wp2_with fail
  obtain ⟨k0, k1, k2⟩ := box_three w #[.string x.name, .slice aa0 x.params.length ca0, .slice aa1 x.alts.length ca1] #[.string ⟨#[]⟩, .slice none 0 0, .slice none 0 0] #[.string x.name, .slice none 0 0, .slice none 0 0] 55 42 hB
  have P0 : Hid ((((w.alloc (.cells #[.string x.name, .slice aa0 x.params.length ca0, .slice aa1 x.alts.length ca1] 55)).alloc (.cells #[.string ⟨#[]⟩, .slice none 0 0, .slice none 0 0] 42)).alloc (.cells #[.string x.name, .slice none 0 0, .slice none 0 0] 42)).heap[B]? = some (.cells #[.string x.name, .slice aa0 x.params.length ca0, .slice aa1 x.alts.length ca1] 55)) := k0
  have P1 : Hid ((((w.alloc (.cells #[.string x.name, .slice aa0 x.params.length ca0, .slice aa1 x.alts.length ca1] 55)).alloc (.cells #[.string ⟨#[]⟩, .slice none 0 0, .slice none 0 0] 42)).alloc (.cells #[.string x.name, .slice none 0 0, .slice none 0 0] 42)).heap[B + 1]? = some (.cells #[.string ⟨#[]⟩, .slice none 0 0, .slice none 0 0] 42)) := k1
  have P2 : Hid ((((w.alloc (.cells #[.string x.name, .slice aa0 x.params.length ca0, .slice aa1 x.alts.length ca1] 55)).alloc (.cells #[.string ⟨#[]⟩, .slice none 0 0, .slice none 0 0] 42)).alloc (.cells #[.string x.name, .slice none 0 0, .slice none 0 0] 42)).heap[B + 2]? = some (.cells #[.string x.name, .slice none 0 0, .slice none 0 0] 42)) := k2
  have BW : Hid (Below w.heap.size w (((w.alloc (.cells #[.string x.name, .slice aa0 x.params.length ca0, .slice aa1 x.alts.length ca1] 55)).alloc (.cells #[.string ⟨#[]⟩, .slice none 0 0, .slice none 0 0] 42)).alloc (.cells #[.string x.name, .slice none 0 0, .slice none 0 0] 42))) := (((Below.refl _ _).alloc (Nat.le_refl _) _).alloc (by simp) _).alloc (by simp; omega) _
  have hsz : B + 3 ≤ (((w.alloc (.cells #[.string x.name, .slice aa0 x.params.length ca0, .slice aa1 x.alts.length ca1] 55)).alloc (.cells #[.string ⟨#[]⟩, .slice none 0 0, .slice none 0 0] 42)).alloc (.cells #[.string x.name, .slice none 0 0, .slice none 0 0] 42)).heap.size := by simp [hB]
  clear k0 k1 k2
  generalize ((w.alloc (.cells #[.string x.name, .slice aa0 x.params.length ca0, .slice aa1 x.alts.length ca1] 55)).alloc (.cells #[.string ⟨#[]⟩, .slice none 0 0, .slice none 0 0] 42)).alloc (.cells #[.string x.name, .slice none 0 0, .slice none 0 0] 42) = W0 at *
  refine (gtsStringS Bx _ x.params W0 (by omega) hz0 (R0.out.below BW.out)).mono ?_
  rintro e w0 ⟨o0, c0, rfl, f0, hb0⟩
  have B0 : Hid (Below w.heap.size w w0) := BW.out.trans (hb0.mono BW.out.size)
  have F0_0 : Hid (Fresh (B + 3) w0 (fun W => SRow W (.slice o0 x.params.length c0) x.params ∧ ShK tau Bx (.row 9) W (.slice o0 x.params.length c0) x.params.length)) := f0.base hsz
  have q00_0 : Hid (w0.heap[B]? = some (.cells #[.string x.name, .slice aa0 x.params.length ca0, .slice aa1 x.alts.length ca1] 55)) := (hb0.block B (by omega)).trans P0.out
  have q01_0 : Hid (w0.heap[B + 1]? = some (.cells #[.string ⟨#[]⟩, .slice none 0 0, .slice none 0 0] 42)) := (hb0.block (B + 1) (by omega)).trans P1.out
  have q02_0 : Hid (w0.heap[B + 2]? = some (.cells #[.string x.name, .slice none 0 0, .slice none 0 0] 42)) := (hb0.block (B + 2) (by omega)).trans P2.out
  have hsz0 : B + 3 ≤ w0.heap.size := Nat.le_trans hsz hb0.size
  clear P0 P1 P2 f0 hb0 hsz BW
  have y0_1 : (w0).cell? ⟨B + 1 + 1, 1, none⟩ = some (.slice none 0 0) := cell_block (b := B + 2) q02_0.out rfl
  have g0_1 : (w0).frozen? ⟨B + 1 + 1, 1, none⟩ = false := frozen_block (b := B + 2) q02_0.out
  have q00_1 : Hid ((w0.setCell ⟨B + 1 + 1, 1, none⟩ (.slice o0 x.params.length c0)).heap[B]? = some (.cells #[.string x.name, .slice aa0 x.params.length ca0, .slice aa1 x.alts.length ca1] 55)) := (block_other (b := B) (b' := B + 1 + 1) (by omega)).trans q00_0.out
  have q01_1 : Hid ((w0.setCell ⟨B + 1 + 1, 1, none⟩ (.slice o0 x.params.length c0)).heap[B + 1]? = some (.cells #[.string ⟨#[]⟩, .slice none 0 0, .slice none 0 0] 42)) := (block_other (b := B + 1) (b' := B + 1 + 1) (by omega)).trans q01_0.out
  have q02_1 : Hid ((w0.setCell ⟨B + 1 + 1, 1, none⟩ (.slice o0 x.params.length c0)).heap[B + 2]? = some (.cells #[.string x.name, .slice o0 x.params.length c0, .slice none 0 0] 42)) := block_set (b := B + 2) q02_0.out
  have C0 : Hid (Below w.heap.size w (w0.setCell ⟨B + 1 + 1, 1, none⟩ (.slice o0 x.params.length c0))) := (B0.out.setCell (show w.heap.size ≤ B + 1 + 1 by omega) _)
  have G0_0 : Hid (Fresh (B + 3) (w0.setCell ⟨B + 1 + 1, 1, none⟩ (.slice o0 x.params.length c0)) (fun W => SRow W (.slice o0 x.params.length c0) x.params ∧ ShK tau Bx (.row 9) W (.slice o0 x.params.length c0) x.params.length)) := (F0_0.out.setLow (by omega) _ _)
  have v0 : B + 3 ≤ (w0.setCell ⟨B + 1 + 1, 1, none⟩ (.slice o0 x.params.length c0)).heap.size := by simpa using hsz0
  have a0_2 : (w0.setCell ⟨B + 1 + 1, 1, none⟩ (.slice o0 x.params.length c0)).cell? ⟨B, 2, none⟩ = some (.slice aa1 x.alts.length ca1) := cell_block q00_1.out rfl
  go_wp2_with fail
  clear a0_2 y0_1 g0_1
  have P0 : Hid ((w0.setCell ⟨B + 1 + 1, 1, none⟩ (.slice o0 x.params.length c0)).heap[B]? = some (.cells #[.string x.name, .slice aa0 x.params.length ca0, .slice aa1 x.alts.length ca1] 55)) := q00_1.out
  have P1 : Hid ((w0.setCell ⟨B + 1 + 1, 1, none⟩ (.slice o0 x.params.length c0)).heap[B + 1]? = some (.cells #[.string ⟨#[]⟩, .slice none 0 0, .slice none 0 0] 42)) := q01_1.out
  have P2 : Hid ((w0.setCell ⟨B + 1 + 1, 1, none⟩ (.slice o0 x.params.length c0)).heap[B + 2]? = some (.cells #[.string x.name, .slice o0 x.params.length c0, .slice none 0 0] 42)) := q02_1.out
  clear q00_0 q00_1 q01_0 q01_1 q02_0 q02_1
  have hsz := v0
  clear v0
  generalize w0.setCell ⟨B + 1 + 1, 1, none⟩ (.slice o0 x.params.length c0) = W1 at *
  refine (gtsAltS Bx _ x.alts W1 (by omega) hz1 (RowC.below AltE_stable R1.out C0.out)).mono ?_
  rintro e w1 ⟨o1, c1, rfl, f1, hb1⟩
  have B1 : Hid (Below w.heap.size w w1) := C0.out.trans (hb1.mono C0.out.size)
  have F1_1 : Hid (Fresh (B + 3) w1 (fun W => RowC 1 AltE W (.slice o1 x.alts.length c1) x.alts ∧ ShK tau Bx (.row 60) W (.slice o1 x.alts.length c1) ((x.alts.map cntAlt).sum))) := f1.base hsz
  have F1_0 : Hid (Fresh (B + 3) w1 (fun W => SRow W (.slice o0 x.params.length c0) x.params ∧ ShK tau Bx (.row 9) W (.slice o0 x.params.length c0) x.params.length)) := G0_0.out.below hb1
  have q10_0 : Hid (w1.heap[B]? = some (.cells #[.string x.name, .slice aa0 x.params.length ca0, .slice aa1 x.alts.length ca1] 55)) := (hb1.block B (by omega)).trans P0.out
  have q11_0 : Hid (w1.heap[B + 1]? = some (.cells #[.string ⟨#[]⟩, .slice none 0 0, .slice none 0 0] 42)) := (hb1.block (B + 1) (by omega)).trans P1.out
  have q12_0 : Hid (w1.heap[B + 2]? = some (.cells #[.string x.name, .slice o0 x.params.length c0, .slice none 0 0] 42)) := (hb1.block (B + 2) (by omega)).trans P2.out
  have hsz1 : B + 3 ≤ w1.heap.size := Nat.le_trans hsz hb1.size
  clear P0 P1 P2 f1 hb1 hsz
  have y1_2 : (w1).cell? ⟨B + 1 + 1, 2, none⟩ = some (.slice none 0 0) := cell_block (b := B + 2) q12_0.out rfl
  have g1_2 : (w1).frozen? ⟨B + 1 + 1, 2, none⟩ = false := frozen_block (b := B + 2) q12_0.out
  have q10_1 : Hid ((w1.setCell ⟨B + 1 + 1, 2, none⟩ (.slice o1 x.alts.length c1)).heap[B]? = some (.cells #[.string x.name, .slice aa0 x.params.length ca0, .slice aa1 x.alts.length ca1] 55)) := (block_other (b := B) (b' := B + 1 + 1) (by omega)).trans q10_0.out
  have q11_1 : Hid ((w1.setCell ⟨B + 1 + 1, 2, none⟩ (.slice o1 x.alts.length c1)).heap[B + 1]? = some (.cells #[.string ⟨#[]⟩, .slice none 0 0, .slice none 0 0] 42)) := (block_other (b := B + 1) (b' := B + 1 + 1) (by omega)).trans q11_0.out
  have q12_1 : Hid ((w1.setCell ⟨B + 1 + 1, 2, none⟩ (.slice o1 x.alts.length c1)).heap[B + 2]? = some (.cells #[.string x.name, .slice o0 x.params.length c0, .slice o1 x.alts.length c1] 42)) := block_set (b := B + 2) q12_0.out
  have C1 : Hid (Below w.heap.size w (w1.setCell ⟨B + 1 + 1, 2, none⟩ (.slice o1 x.alts.length c1))) := (B1.out.setCell (show w.heap.size ≤ B + 1 + 1 by omega) _)
  have G1_0 : Hid (Fresh (B + 3) (w1.setCell ⟨B + 1 + 1, 2, none⟩ (.slice o1 x.alts.length c1)) (fun W => SRow W (.slice o0 x.params.length c0) x.params ∧ ShK tau Bx (.row 9) W (.slice o0 x.params.length c0) x.params.length)) := (F1_0.out.setLow (by omega) _ _)
  have G1_1 : Hid (Fresh (B + 3) (w1.setCell ⟨B + 1 + 1, 2, none⟩ (.slice o1 x.alts.length c1)) (fun W => RowC 1 AltE W (.slice o1 x.alts.length c1) x.alts ∧ ShK tau Bx (.row 60) W (.slice o1 x.alts.length c1) ((x.alts.map cntAlt).sum))) := (F1_1.out.setLow (by omega) _ _)
  have v1 : B + 3 ≤ (w1.setCell ⟨B + 1 + 1, 2, none⟩ (.slice o1 x.alts.length c1)).heap.size := by simpa using hsz1
  have y9_0 : (w1.setCell ⟨B + 1 + 1, 2, none⟩ (.slice o1 x.alts.length c1)).cell? ⟨B + 1 + 1, 0, none⟩ = some (.string x.name) := cell_block (b := B + 2) q12_1.out rfl
  have z9_0 : (w1.setCell ⟨B + 1 + 1, 2, none⟩ (.slice o1 x.alts.length c1)).cell? ⟨B + 1, 0, none⟩ = some (.string ⟨#[]⟩) := cell_block q11_1.out rfl
  have g9_0 : (w1.setCell ⟨B + 1 + 1, 2, none⟩ (.slice o1 x.alts.length c1)).frozen? ⟨B + 1, 0, none⟩ = false := frozen_block q11_1.out
  have y9_1 : (w1.setCell ⟨B + 1 + 1, 2, none⟩ (.slice o1 x.alts.length c1)).cell? ⟨B + 1 + 1, 1, none⟩ = some (.slice o0 x.params.length c0) := cell_block (b := B + 2) q12_1.out rfl
  have z9_1 : (w1.setCell ⟨B + 1 + 1, 2, none⟩ (.slice o1 x.alts.length c1)).cell? ⟨B + 1, 1, none⟩ = some (.slice none 0 0) := cell_block q11_1.out rfl
  have g9_1 : (w1.setCell ⟨B + 1 + 1, 2, none⟩ (.slice o1 x.alts.length c1)).frozen? ⟨B + 1, 1, none⟩ = false := frozen_block q11_1.out
  have y9_2 : (w1.setCell ⟨B + 1 + 1, 2, none⟩ (.slice o1 x.alts.length c1)).cell? ⟨B + 1 + 1, 2, none⟩ = some (.slice o1 x.alts.length c1) := cell_block (b := B + 2) q12_1.out rfl
  have z9_2 : (w1.setCell ⟨B + 1 + 1, 2, none⟩ (.slice o1 x.alts.length c1)).cell? ⟨B + 1, 2, none⟩ = some (.slice none 0 0) := cell_block q11_1.out rfl
  have g9_2 : (w1.setCell ⟨B + 1 + 1, 2, none⟩ (.slice o1 x.alts.length c1)).frozen? ⟨B + 1, 2, none⟩ = false := frozen_block q11_1.out
  go_wp2
  have P1 : Hid ((w1.setCell ⟨B + 1 + 1, 2, none⟩ (.slice o1 x.alts.length c1)).heap[B + 1]? = some (.cells #[.string ⟨#[]⟩, .slice none 0 0, .slice none 0 0] 42)) := q11_1.out
  clear y1_2 g1_2 y9_0 z9_0 g9_0 y9_1 z9_1 g9_1 y9_2 z9_2 g9_2 q10_0 q10_1 q11_0 q11_1 q12_0 q12_1
  generalize w1.setCell ⟨B + 1 + 1, 2, none⟩ (.slice o1 x.alts.length c1) = WL at *
  have FB : Hid (Below w.heap.size w (((WL.setCell ⟨B + 1, 0, none⟩ (.string x.name)).setCell ⟨B + 1, 1, none⟩ (.slice o0 x.params.length c0)).setCell ⟨B + 1, 2, none⟩ (.slice o1 x.alts.length c1))) := (((C1.out.setCell (show w.heap.size ≤ B + 1 by omega) _).setCell (show w.heap.size ≤ B + 1 by omega) _).setCell (show w.heap.size ≤ B + 1 by omega) _)
  have FF0 : Hid (Fresh w.heap.size (((WL.setCell ⟨B + 1, 0, none⟩ (.string x.name)).setCell ⟨B + 1, 1, none⟩ (.slice o0 x.params.length c0)).setCell ⟨B + 1, 2, none⟩ (.slice o1 x.alts.length c1)) (fun W => SRow W (.slice o0 x.params.length c0) x.params ∧ ShK tau Bx (.row 9) W (.slice o0 x.params.length c0) x.params.length)) := Fresh.base ((((G1_0.out.setLow (by omega) _ _).setLow (by omega) _ _).setLow (by omega) _ _)) (show w.heap.size ≤ B + 3 by omega)
  have FF1 : Hid (Fresh w.heap.size (((WL.setCell ⟨B + 1, 0, none⟩ (.string x.name)).setCell ⟨B + 1, 1, none⟩ (.slice o0 x.params.length c0)).setCell ⟨B + 1, 2, none⟩ (.slice o1 x.alts.length c1)) (fun W => RowC 1 AltE W (.slice o1 x.alts.length c1) x.alts ∧ ShK tau Bx (.row 60) W (.slice o1 x.alts.length c1) ((x.alts.map cntAlt).sum))) := Fresh.base ((((G1_1.out.setLow (by omega) _ _).setLow (by omega) _ _).setLow (by omega) _ _)) (show w.heap.size ≤ B + 3 by omega)
  have rp : (((WL.setCell ⟨B + 1, 0, none⟩ (.string x.name)).setCell ⟨B + 1, 1, none⟩ (.slice o0 x.params.length c0)).setCell ⟨B + 1, 2, none⟩ (.slice o1 x.alts.length c1)).heap[B + 1]? = some (.cells #[.string x.name, .slice o0 x.params.length c0, .slice o1 x.alts.length c1] 42) := block_set (block_set (block_set P1.out))
  have rr0 : (((WL.setCell ⟨B + 1, 0, none⟩ (.string x.name)).setCell ⟨B + 1, 1, none⟩ (.slice o0 x.params.length c0)).setCell ⟨B + 1, 2, none⟩ (.slice o1 x.alts.length c1)).cell? ⟨B + 1, 0, none⟩ = some (.string x.name) := cell_block rp rfl
  have rr1 : (((WL.setCell ⟨B + 1, 0, none⟩ (.string x.name)).setCell ⟨B + 1, 1, none⟩ (.slice o0 x.params.length c0)).setCell ⟨B + 1, 2, none⟩ (.slice o1 x.alts.length c1)).cell? ⟨B + 1, 1, none⟩ = some (.slice o0 x.params.length c0) := cell_block rp rfl
  have rr2 : (((WL.setCell ⟨B + 1, 0, none⟩ (.string x.name)).setCell ⟨B + 1, 1, none⟩ (.slice o0 x.params.length c0)).setCell ⟨B + 1, 2, none⟩ (.slice o1 x.alts.length c1)).cell? ⟨B + 1, 2, none⟩ = some (.slice o1 x.alts.length c1) := cell_block rp rfl
  clear rp P1 v1
  generalize ((WL.setCell ⟨B + 1, 0, none⟩ (.string x.name)).setCell ⟨B + 1, 1, none⟩ (.slice o0 x.params.length c0)).setCell ⟨B + 1, 2, none⟩ (.slice o1 x.alts.length c1) = W9 at *
  (try simp only [Exit.inBlock, Exit.then])
  refine bodyPost_ret (by simp [results, Tryz.results30, go_sem, rr0, rr1, rr2]; try rfl) rfl ?_
  exact ⟨_, _, _, _, rfl, FF0.out, FF1.out, FB.out⟩

set_option maxHeartbeats 3200000 in
set_option maxRecDepth 100000 in
theorem gtsRuleS (Bx : Nat) (v : Value) (xs : List (RuleD)) (w : World) (hBx : Bx ≤ w.heap.size) (hz : rowTot ruleTot xs ≤ 1048576) (h : RowC 3 RuleE w v xs) :
    Calls Tryz.prog 16 #[v] w fun e w' => ∃ a c, e = .returned (.slice a xs.length c) ∧ Fresh w.heap.size w' (fun W => RowC 3 RuleE W (.slice a xs.length c) xs ∧ ShK tau Bx (.row 42) W (.slice a xs.length c) ((xs.map cntRule).sum)) ∧ Below w.heap.size w w' := by
  obtain ⟨i0, hi, hz0, hz1, hz2⟩ := info_parts Tryz.infoRule
  have hn := rowTot_len ruleTot xs
  have HR : Hid (RowC 3 RuleE w v xs) := h
  obtain ⟨a, cap, rfl⟩ := h.slice
  clear h
  go_enter Tryz.func16, Tryz.ntmps16
  go_wp2_with (at_make; refine wpList_make_full _ rfl _ _ 26 rfl w.heap.size 42 i0 _ 3 Tryz.underlying26 hi hz0 hz1 .i64 .i64 _ _ xs.length rfl rfl rfl rfl (by rw [hz2]; omega) (by unfold maxLen; omega) (Nat.le_refl _) ?_; intro w1 hown hg1)
  have HO : Hid (RowTo 3 (WithS tau Bx 42 RuleE cntRule) 42 w.heap.size w.heap.size xs 0 w1) := rowTo_start hown
  have HB1 : Hid (Below w.heap.size w w1) := (Below.refl _ _).grown hg1 (Nat.le_refl _) (fun k h => by cases h)
  clear hown hg1
  go_loopw [4] (fun iv wr => ∃ k : Nat, iv = .int .i64 k ∧ k ≤ xs.length ∧ RowTo 3 (WithS tau Bx 42 RuleE cntRule) 42 w.heap.size w.heap.size xs k wr ∧ Below w.heap.size w wr) (fun iv _ => xs.length - (intOf iv).toNat)
  case atStart => exact ⟨0, rfl, Nat.zero_le _, HO.out, HB1.out⟩
  case round =>
    obtain ⟨k, rfl, hk, hrow, hb⟩ := hrel
    have HW : Hid (RowTo 3 (WithS tau Bx 42 RuleE cntRule) 42 w.heap.size w.heap.size xs k wr) := hrow
    have HB : Hid (Below w.heap.size w wr) := hb
    have HRr : Hid (RowC 3 RuleE wr (.slice a xs.length cap) xs) := RowC.below RuleE_stable HR.out hb
    have hgt : w.heap.size + 1 ≤ wr.heap.size := by
      obtain ⟨cs, ho⟩ := hrow.own
      exact (World.ownsRow.lt ho w.heap.size rfl).2
    clear hb hrow HO HB1
    by_cases hlt : k < xs.length
    · obtain ⟨b, off, vs, rfl, _, hc, hE⟩ := HRr.out.at hlt
      obtain ⟨r0, r1, rfl, hh0, hh1⟩ := hE
      have n0 : wr.cell? ⟨b, off + k * 3, none⟩ = some (.string xs[k].name) := hc 0 (by simp)
      have n1 : wr.cell? ⟨b, off + k * 3 + 1, none⟩ = some (r0) := hc 1 (by simp)
      have n2 : wr.cell? ⟨b, off + k * 3 + 2, none⟩ = some (r1) := hc 2 (by simp)
      have HT : Hid (∀ W, Below wr.heap.size wr W → _) := fun W hW => gtsRule Bx r0 r1 xs[k] W (by have := hW.size; omega) (by have := rowTot_mem ruleTot (List.getElem_mem hlt); omega) (hh0.below hW) (RowC.below AltE_stable hh1 hW)
      obtain ⟨aa0, ca0, rfl⟩ := hh0.slice
      obtain ⟨aa1, ca1, rfl⟩ := hh1.slice
      clear hc hh0 hh1
      go_wp2_with fail
      refine (HT.out _ (Below.refl _ _)).mono ?_
      rintro e w2 ⟨o0, c0, o1, c1, rfl, f0, f1, hb2⟩
      have HB2 : Hid (Below w.heap.size w w2) := HB.out.trans (hb2.mono HB.out.size)
      have HW2 : Hid (RowTo 3 (WithS tau Bx 42 RuleE cntRule) 42 w.heap.size w.heap.size xs k w2) := HW.out.below hb2
      have HE2 : Hid (Fresh (w.heap.size + 1) w2 (fun W => WithS tau Bx 42 RuleE cntRule W [.string xs[k].name, .slice o0 xs[k].params.length c0, .slice o1 xs[k].alts.length c1] xs[k])) := fun W h1 h2 => withRule ((f0.base hgt) W h1 h2).1 ((f0.base hgt) W h1 h2).2 ((f1.base hgt) W h1 h2).1 ((f1.base hgt) W h1 h2).2
      obtain ⟨cs, O2⟩ := HW2.out.own
      obtain ⟨d0, hd0, hf0⟩ := own_cell O2 (k * 3) (by omega)
      obtain ⟨d1, hd1, hf1⟩ := own_cell O2 (k * 3 + 1) (by omega)
      obtain ⟨d2, hd2, hf2⟩ := own_cell O2 (k * 3 + 2) (by omega)
      clear O2 hb2 HT HW f0 f1
      go_wp2
      have HN : Hid (RowTo 3 (WithS tau Bx 42 RuleE cntRule) 42 w.heap.size w.heap.size xs (k + 1) (setsW w2 w.heap.size (k * 3) [.string xs[k].name, .slice o0 xs[k].params.length c0, .slice o1 xs[k].alts.length c1])) := HW2.out.next hlt rfl HE2.out
      have HB3 : Hid (Below w.heap.size w (setsW w2 w.heap.size (k * 3) [.string xs[k].name, .slice o0 xs[k].params.length c0, .slice o1 xs[k].alts.length c1])) := setsW_below HB2.out (Nat.le_refl _) _ _
      skip
      go_roundw
      case rel => exact ⟨k + 1, by go_num, by omega, HN.out, HB3.out⟩
      case measure => simp [intOf]; omega
    · obtain rfl : k = xs.length := by omega
      have HF : Hid (Fresh w.heap.size wr (fun W => RowC 3 RuleE W (.slice (some ⟨w.heap.size, 0, none⟩) xs.length xs.length) xs ∧ ShK tau Bx (.row 42) W (.slice (some ⟨w.heap.size, 0, none⟩) xs.length xs.length) ((xs.map cntRule).sum))) := RowTo.done2 rfl hBx HW.out
      clear HW
      go_wp2
      go_ret
      exact ⟨_, _, rfl, HF.out, HB.out⟩

set_option maxHeartbeats 3200000 in
set_option maxRecDepth 100000 in
theorem gtsGrammar (Bx : Nat) (r0 : Value) (x : List RuleD) (w : World) (hBx : Bx ≤ w.heap.size) (hz : grammarTot x ≤ 1048576) (hh0 : RowC 3 RuleE w r0 x) :
    Calls Tryz.prog 6 #[.agg #[r0]] w fun e w' => ∃ o0 c0, e = .returned (.agg #[.slice o0 x.length c0]) ∧ Fresh w.heap.size w' (fun W => RowC 3 RuleE W (.slice o0 x.length c0) x ∧ ShK tau Bx (.row 42) W (.slice o0 x.length c0) ((x.map cntRule).sum)) ∧ Below w.heap.size w w' := by
  have HTt : grammarTot x = rowTot ruleTot x := rfl
  have R0 : Hid (RowC 3 RuleE w r0 x) := hh0
  obtain ⟨aa0, ca0, rfl⟩ := hh0.slice
  have hz0 : rowTot ruleTot x ≤ 1048576 := by omega
  clear HTt hz hh0
  obtain ⟨B, hB⟩ : ∃ B, w.heap.size = B := ⟨_, rfl⟩
  go_enter Tryz.func6, Tryz.ntmps6
  go_wp2_with fail
  obtain ⟨k0, k1, k2⟩ := box_three w #[.slice aa0 x.length ca0] #[.slice none 0 0] #[.slice none 0 0] 24 28 hB
  have P0 : Hid ((((w.alloc (.cells #[.slice aa0 x.length ca0] 24)).alloc (.cells #[.slice none 0 0] 28)).alloc (.cells #[.slice none 0 0] 28)).heap[B]? = some (.cells #[.slice aa0 x.length ca0] 24)) := k0
  have P1 : Hid ((((w.alloc (.cells #[.slice aa0 x.length ca0] 24)).alloc (.cells #[.slice none 0 0] 28)).alloc (.cells #[.slice none 0 0] 28)).heap[B + 1]? = some (.cells #[.slice none 0 0] 28)) := k1
  have P2 : Hid ((((w.alloc (.cells #[.slice aa0 x.length ca0] 24)).alloc (.cells #[.slice none 0 0] 28)).alloc (.cells #[.slice none 0 0] 28)).heap[B + 2]? = some (.cells #[.slice none 0 0] 28)) := k2
  have BW : Hid (Below w.heap.size w (((w.alloc (.cells #[.slice aa0 x.length ca0] 24)).alloc (.cells #[.slice none 0 0] 28)).alloc (.cells #[.slice none 0 0] 28))) := (((Below.refl _ _).alloc (Nat.le_refl _) _).alloc (by simp) _).alloc (by simp; omega) _
  have hsz : B + 3 ≤ (((w.alloc (.cells #[.slice aa0 x.length ca0] 24)).alloc (.cells #[.slice none 0 0] 28)).alloc (.cells #[.slice none 0 0] 28)).heap.size := by simp [hB]
  clear k0 k1 k2
  generalize ((w.alloc (.cells #[.slice aa0 x.length ca0] 24)).alloc (.cells #[.slice none 0 0] 28)).alloc (.cells #[.slice none 0 0] 28) = W0 at *
  refine (gtsRuleS Bx _ x W0 (by omega) hz0 (RowC.below RuleE_stable R0.out BW.out)).mono ?_
  rintro e w0 ⟨o0, c0, rfl, f0, hb0⟩
  have B0 : Hid (Below w.heap.size w w0) := BW.out.trans (hb0.mono BW.out.size)
  have F0_0 : Hid (Fresh (B + 3) w0 (fun W => RowC 3 RuleE W (.slice o0 x.length c0) x ∧ ShK tau Bx (.row 42) W (.slice o0 x.length c0) ((x.map cntRule).sum))) := f0.base hsz
  have q00_0 : Hid (w0.heap[B]? = some (.cells #[.slice aa0 x.length ca0] 24)) := (hb0.block B (by omega)).trans P0.out
  have q01_0 : Hid (w0.heap[B + 1]? = some (.cells #[.slice none 0 0] 28)) := (hb0.block (B + 1) (by omega)).trans P1.out
  have q02_0 : Hid (w0.heap[B + 2]? = some (.cells #[.slice none 0 0] 28)) := (hb0.block (B + 2) (by omega)).trans P2.out
  have hsz0 : B + 3 ≤ w0.heap.size := Nat.le_trans hsz hb0.size
  clear P0 P1 P2 f0 hb0 hsz BW
  have y0_0 : (w0).cell? ⟨B + 1 + 1, 0, none⟩ = some (.slice none 0 0) := cell_block (b := B + 2) q02_0.out rfl
  have g0_0 : (w0).frozen? ⟨B + 1 + 1, 0, none⟩ = false := frozen_block (b := B + 2) q02_0.out
  have q00_1 : Hid ((w0.setCell ⟨B + 1 + 1, 0, none⟩ (.slice o0 x.length c0)).heap[B]? = some (.cells #[.slice aa0 x.length ca0] 24)) := (block_other (b := B) (b' := B + 1 + 1) (by omega)).trans q00_0.out
  have q01_1 : Hid ((w0.setCell ⟨B + 1 + 1, 0, none⟩ (.slice o0 x.length c0)).heap[B + 1]? = some (.cells #[.slice none 0 0] 28)) := (block_other (b := B + 1) (b' := B + 1 + 1) (by omega)).trans q01_0.out
  have q02_1 : Hid ((w0.setCell ⟨B + 1 + 1, 0, none⟩ (.slice o0 x.length c0)).heap[B + 2]? = some (.cells #[.slice o0 x.length c0] 28)) := block_set (b := B + 2) q02_0.out
  have C0 : Hid (Below w.heap.size w (w0.setCell ⟨B + 1 + 1, 0, none⟩ (.slice o0 x.length c0))) := (B0.out.setCell (show w.heap.size ≤ B + 1 + 1 by omega) _)
  have G0_0 : Hid (Fresh (B + 3) (w0.setCell ⟨B + 1 + 1, 0, none⟩ (.slice o0 x.length c0)) (fun W => RowC 3 RuleE W (.slice o0 x.length c0) x ∧ ShK tau Bx (.row 42) W (.slice o0 x.length c0) ((x.map cntRule).sum))) := (F0_0.out.setLow (by omega) _ _)
  have v0 : B + 3 ≤ (w0.setCell ⟨B + 1 + 1, 0, none⟩ (.slice o0 x.length c0)).heap.size := by simpa using hsz0
  have y9_0 : (w0.setCell ⟨B + 1 + 1, 0, none⟩ (.slice o0 x.length c0)).cell? ⟨B + 1 + 1, 0, none⟩ = some (.slice o0 x.length c0) := cell_block (b := B + 2) q02_1.out rfl
  have z9_0 : (w0.setCell ⟨B + 1 + 1, 0, none⟩ (.slice o0 x.length c0)).cell? ⟨B + 1, 0, none⟩ = some (.slice none 0 0) := cell_block q01_1.out rfl
  have g9_0 : (w0.setCell ⟨B + 1 + 1, 0, none⟩ (.slice o0 x.length c0)).frozen? ⟨B + 1, 0, none⟩ = false := frozen_block q01_1.out
  go_wp2
  have P1 : Hid ((w0.setCell ⟨B + 1 + 1, 0, none⟩ (.slice o0 x.length c0)).heap[B + 1]? = some (.cells #[.slice none 0 0] 28)) := q01_1.out
  clear y0_0 g0_0 y9_0 z9_0 g9_0 q00_0 q00_1 q01_0 q01_1 q02_0 q02_1
  generalize w0.setCell ⟨B + 1 + 1, 0, none⟩ (.slice o0 x.length c0) = WL at *
  have FB : Hid (Below w.heap.size w (WL.setCell ⟨B + 1, 0, none⟩ (.slice o0 x.length c0))) := (C0.out.setCell (show w.heap.size ≤ B + 1 by omega) _)
  have FF0 : Hid (Fresh w.heap.size (WL.setCell ⟨B + 1, 0, none⟩ (.slice o0 x.length c0)) (fun W => RowC 3 RuleE W (.slice o0 x.length c0) x ∧ ShK tau Bx (.row 42) W (.slice o0 x.length c0) ((x.map cntRule).sum))) := Fresh.base ((G0_0.out.setLow (by omega) _ _)) (show w.heap.size ≤ B + 3 by omega)
  have rp : (WL.setCell ⟨B + 1, 0, none⟩ (.slice o0 x.length c0)).heap[B + 1]? = some (.cells #[.slice o0 x.length c0] 28) := block_set P1.out
  have rr0 : (WL.setCell ⟨B + 1, 0, none⟩ (.slice o0 x.length c0)).cell? ⟨B + 1, 0, none⟩ = some (.slice o0 x.length c0) := cell_block rp rfl
  clear rp P1 v0
  generalize WL.setCell ⟨B + 1, 0, none⟩ (.slice o0 x.length c0) = W9 at *
  (try simp only [Exit.inBlock, Exit.then])
  refine bodyPost_ret (by simp [results, Tryz.results6, go_sem, rr0]; try rfl) rfl ?_
  exact ⟨_, _, rfl, FF0.out, FB.out⟩

end Go.Proofs.YtkmkfpgaehgonaaGreatDoor

namespace Go.Proofs.YtkmkfpgaehgonaaGreatDoor
open Go.RowKit
set_option linter.unusedVariables false

def NodeF (F : Nat → Prop) (w : World) (vs : List Value) (x : NodeD) : Prop := ∃ kv : Value, vs = [.int .i64 x.op, .int .i64 x.num, .string x.name, kv] ∧ OwnZ 0 kv x.kids w ∧ ∀ k, kv.ownBlock = some k → F k
def ExprF (F : Nat → Prop) (w : World) (vs : List Value) (x : List NodeD) : Prop := ∃ v : Value, vs = [v] ∧ RowF 4 90 NodeF F v x w
def SymF (F : Nat → Prop) (w : World) (vs : List Value) (x : SymD) : Prop := ∃ v : Value, vs = [.int .i64 x.kind, .string x.text, v, .string x.bind] ∧ RowF 1 88 ExprF F v x.args w
def AltF (F : Nat → Prop) (w : World) (vs : List Value) (x : List SymD) : Prop := ∃ v : Value, vs = [v] ∧ RowF 4 63 SymF F v x w
def RuleF (F : Nat → Prop) (w : World) (vs : List Value) (x : RuleD) : Prop := ∃ (v u : Value) (Fp Fa : Nat → Prop), vs = [.string x.name, v, u] ∧ OwnB 0 v x.params w ∧ (∀ k, v.ownBlock = some k → Fp k) ∧ RowF 1 60 AltF Fa u x.alts w ∧ (∀ k, Fp k → F k) ∧ (∀ k, Fa k → F k) ∧ ∀ k, Fp k → ¬ Fa k
theorem stabNode : StabF NodeF := ⟨fun F w w' vs x h ha => by
    obtain ⟨kv, e, h1, h2⟩ := h
    exact ⟨kv, e, own_ag h1 ha h2, h2⟩, fun F G w vs x h hs => by
    obtain ⟨kv, e, h1, h2⟩ := h
    exact ⟨kv, e, h1, fun k hk => hs k (h2 k hk)⟩⟩
theorem stabExpr : StabF ExprF := ⟨fun F w w' vs x h ha => by
    obtain ⟨v, e, h1⟩ := h
    exact ⟨v, e, h1.ag stabNode ha⟩, fun F G w vs x h hs => by
    obtain ⟨v, e, h1⟩ := h
    exact ⟨v, e, h1.up hs⟩⟩
theorem stabSym : StabF SymF := ⟨fun F w w' vs x h ha => by
    obtain ⟨v, e, h1⟩ := h
    exact ⟨v, e, h1.ag stabExpr ha⟩, fun F G w vs x h hs => by
    obtain ⟨v, e, h1⟩ := h
    exact ⟨v, e, h1.up hs⟩⟩
theorem stabAlt : StabF AltF := ⟨fun F w w' vs x h ha => by
    obtain ⟨v, e, h1⟩ := h
    exact ⟨v, e, h1.ag stabSym ha⟩, fun F G w vs x h hs => by
    obtain ⟨v, e, h1⟩ := h
    exact ⟨v, e, h1.up hs⟩⟩
theorem stabRule : StabF RuleF := ⟨fun F w w' vs x h ha => by
    obtain ⟨v, u, Fp, Fa, e, h1, h2, h3, h4, h5, h6⟩ := h
    exact ⟨v, u, Fp, Fa, e, own_ag h1 ha (fun k hk => h4 k (h2 k hk)), h2, h3.ag stabAlt (ha.sub h5), h4, h5, h6⟩, fun F G w vs x h hs => by
    obtain ⟨v, u, Fp, Fa, e, h1, h2, h3, h4, h5, h6⟩ := h
    exact ⟨v, u, Fp, Fa, e, h1, h2, h3, fun k hk => hs k (h4 k hk), fun k hk => hs k (h5 k hk), h6⟩⟩
/-! ### what they hold -/
theorem RowF.nRow {F : Nat → Prop} {v : Value} {ns : List NodeD} {w : World} (h : RowF 4 90 NodeF F v ns w) : NRow w v ns := by
  obtain ⟨a, cap, rfl, hcap, hh⟩ := h.rowC (E0 := fun w vs x => ∃ kv : Value, vs = [.int .i64 x.op, .int .i64 x.num, .string x.name, kv] ∧ IRow w kv x.kids) (fun F w vs x h => by
    obtain ⟨kv, e, h1, _⟩ := h
    exact ⟨kv, e, h1.row⟩)
  refine ⟨a, cap, rfl, hcap, fun h0 => ?_⟩
  obtain ⟨b, off, rfl, hb, hc⟩ := hh h0
  refine ⟨b, off, rfl, hb, fun i hi => ?_⟩
  obtain ⟨vs, _, h2, kv, rfl, hk⟩ := hc i hi
  exact ⟨kv, by simpa using h2 0 (by simp), by simpa using h2 1 (by simp), by simpa using h2 2 (by simp), by simpa using h2 3 (by simp), hk⟩
theorem ExprF.e {F : Nat → Prop} {w : World} {vs : List Value} {x : List NodeD} (h : ExprF F w vs x) : ExprE w vs x := by
  obtain ⟨v, rfl, h1⟩ := h
  exact ⟨v, rfl, h1.nRow⟩
theorem SymF.e {F : Nat → Prop} {w : World} {vs : List Value} {x : SymD} (h : SymF F w vs x) : SymE w vs x := by
  obtain ⟨v, rfl, h1⟩ := h
  exact ⟨v, rfl, h1.rowC (fun F w vs x h => h.e)⟩
theorem AltF.e {F : Nat → Prop} {w : World} {vs : List Value} {x : List SymD} (h : AltF F w vs x) : AltE w vs x := by
  obtain ⟨v, rfl, h1⟩ := h
  exact ⟨v, rfl, h1.rowC (fun F w vs x h => h.e)⟩
theorem RuleF.e {F : Nat → Prop} {w : World} {vs : List Value} {x : RuleD} (h : RuleF F w vs x) : RuleE w vs x := by
  obtain ⟨v, u, Fp, Fa, rfl, h1, h2, h3, h4, h5, h6⟩ := h
  exact ⟨v, u, rfl, h1.row, h3.rowC (fun F w vs x h => h.e)⟩
/-! ### to be marked -/
theorem hd_scalars {t : TypeId} {kd : FK} {len : Nat} {F : Nat → Prop} {v : Value} {cs : List Value} {w : World} (ht : tau t = [kd]) (h : w.ownsRow 0 t 1 v len cs) (hF : ∀ k, v.ownBlock = some k → F k) (hc : ∀ i (h : i < cs.length), Hd tau 0 kd w cs[i] 1 (fun _ => False) none) : Hd tau 1 (.row t) w v len F none := by
  have hl : cs.length = len := by have := h.1; omega
  refine ⟨len, cs, List.replicate len 1, fun _ _ => False, by rw [ht]; exact h, by simp [hl], (ones_sum len).symm, ⟨hF, fun _ _ _ h => h, fun _ _ h => h.elim, fun _ _ _ _ h => h.elim⟩, fun i hi => ⟨kd, by rw [ht]; simp [Nat.mod_one], ?_⟩⟩
  have e : (List.replicate len 1).getD i 0 = 1 := by rw [List.getD_eq_getElem?_getD, List.getElem?_replicate, if_pos (by omega)]; rfl
  rw [e]
  exact hc i hi
theorem hd_ownZ {F : Nat → Prop} {v : Value} {ks : List Int} {w : World} (h : OwnZ 0 v ks w) (hF : ∀ k, v.ownBlock = some k → F k) : Hd tau 1 (.row 3) w v ks.length F none :=
  hd_scalars (kd := .int) rfl h hF (fun i hi => by simp only [zv, List.getElem_map]; exact Hd.num)
theorem hd_ownB {F : Nat → Prop} {v : Value} {ss : List ByteArray} {w : World} (h : OwnB 0 v ss w) (hF : ∀ k, v.ownBlock = some k → F k) : Hd tau 1 (.row 9) w v ss.length F none :=
  hd_scalars (kd := .str) rfl h hF (fun i hi => by simp only [sb, List.getElem_map]; exact Hd.text)
theorem cellsNode (F : Nat → Prop) (w : World) (vs : List Value) (x : NodeD) (h : NodeF F w vs x) : CellsF tau 90 1 F w vs (3 + x.kids.length) := by
  obtain ⟨kv, rfl, h1, h2⟩ := h
  refine ⟨[1, 1, 1, x.kids.length], fun r k => r = 3 ∧ F k, rfl, by simp only [List.sum_cons, List.sum_nil]; omega, fun r k h => h.2, fun r q k hne h h' => hne (h.1.trans h'.1.symm), fun r hr => ?_⟩
  match r, hr with
  | 0, _ => exact ⟨_, rfl, Hd.num⟩
  | 1, _ => exact ⟨_, rfl, Hd.num⟩
  | 2, _ => exact ⟨_, rfl, Hd.text⟩
  | 3, _ => exact ⟨_, rfl, hd_ownZ h1 (fun k hk => ⟨rfl, h2 k hk⟩)⟩
theorem cellsOne {t T : TypeId} {n m c : Nat} {F : Nat → Prop} {w : World} {v : Value} (ht : tau T = [.row t]) (hc : c ≤ m) (h : Hd tau n (.row t) w v c F none) : CellsF tau T n F w [v] m :=
  ⟨[c], fun r k => r = 0 ∧ F k, rfl, by simpa using hc, fun r k h => h.2, fun r q k hne h h' => hne (h.1.trans h'.1.symm), fun r hr => match r, hr with
    | 0, _ => ⟨_, by rw [ht]; rfl, Hd.mono _ _ _ _ _ h (fun k hk => ⟨rfl, hk⟩)⟩⟩
theorem cellsExpr (F : Nat → Prop) (w : World) (vs : List Value) (x : List NodeD) (h : ExprF F w vs x) : CellsF tau 88 2 F w vs (cntExpr x) := by
  obtain ⟨v, rfl, h1⟩ := h
  obtain ⟨c, hc, h2⟩ := h1.hd (cnt := fun y : NodeD => 3 + y.kids.length) (τ := tau) (n := 1) rfl (by decide) cellsNode
  exact cellsOne rfl hc h2
theorem cellsSym (F : Nat → Prop) (w : World) (vs : List Value) (x : SymD) (h : SymF F w vs x) : CellsF tau 63 3 F w vs (cntSym x) := by
  obtain ⟨v, rfl, h1⟩ := h
  obtain ⟨c, hc, h2⟩ := h1.hd (cnt := cntExpr) (τ := tau) (n := 2) rfl (by decide) cellsExpr
  refine ⟨[1, 1, c, 1], fun r k => r = 2 ∧ F k, rfl, by unfold cntSym; simp only [List.sum_cons, List.sum_nil]; omega, fun r k h => h.2, fun r q k hne h h' => hne (h.1.trans h'.1.symm), fun r hr => ?_⟩
  match r, hr with
  | 0, _ => exact ⟨_, rfl, Hd.num⟩
  | 1, _ => exact ⟨_, rfl, Hd.text⟩
  | 2, _ => exact ⟨_, rfl, Hd.mono _ _ _ _ _ h2 (fun k hk => ⟨rfl, hk⟩)⟩
  | 3, _ => exact ⟨_, rfl, Hd.text⟩
theorem cellsAlt (F : Nat → Prop) (w : World) (vs : List Value) (x : List SymD) (h : AltF F w vs x) : CellsF tau 60 4 F w vs (cntAlt x) := by
  obtain ⟨v, rfl, h1⟩ := h
  obtain ⟨c, hc, h2⟩ := h1.hd (cnt := cntSym) (τ := tau) (n := 3) rfl (by decide) cellsSym
  exact cellsOne rfl hc h2
theorem cellsRule (F : Nat → Prop) (w : World) (vs : List Value) (x : RuleD) (h : RuleF F w vs x) : CellsF tau 42 5 F w vs (cntRule x) := by
  obtain ⟨v, u, Fp, Fa, rfl, h1, h2, h3, h4, h5, h6⟩ := h
  obtain ⟨c, hc, h7⟩ := h3.hd (cnt := cntAlt) (τ := tau) (n := 4) rfl (by decide) cellsAlt
  have h8 := Hd.fuel 1 5 (by decide) _ _ _ _ _ (hd_ownB h1 h2)
  refine ⟨[1, x.params.length, c], fun r k => r = 1 ∧ Fp k ∨ r = 2 ∧ Fa k, rfl, by unfold cntRule; simp only [List.sum_cons, List.sum_nil]; omega, fun r k h => ?_, fun r q k hne h h' => ?_, fun r hr => ?_⟩
  · rcases h with ⟨_, h⟩ | ⟨_, h⟩
    · exact h4 k h
    · exact h5 k h
  · rcases h with ⟨e, h⟩ | ⟨e, h⟩ <;> rcases h' with ⟨e', h'⟩ | ⟨e', h'⟩
    · exact hne (e.trans e'.symm)
    · exact h6 k h h'
    · exact h6 k h' h
    · exact hne (e.trans e'.symm)
  · match r, hr with
    | 0, _ => exact ⟨_, rfl, Hd.text⟩
    | 1, _ => exact ⟨_, rfl, Hd.mono _ _ _ _ _ h8 (fun k hk => .inl ⟨rfl, hk⟩)⟩
    | 2, _ => exact ⟨_, rfl, Hd.mono _ _ _ _ _ h7 (fun k hk => .inr ⟨rfl, hk⟩)⟩
/-- A grammar's rules: what they hold in every world that has their blocks, and their marks. -/
theorem gram_hd {B H : Nat} {v : Value} {g : List RuleD} {w : World} (h : RowF 3 42 RuleF (Nw B H) v g w) : (Fresh B w fun W => RowC 3 RuleE W v g) ∧ ∃ c, c ≤ (g.map cntRule).sum ∧ Hd tau 6 (.row 42) w v c (Nw B H) none :=
  ⟨h.fresh stabRule (fun F w vs x h => h.e), h.hd (cnt := cntRule) (τ := tau) (n := 5) rfl (by decide) cellsRule⟩

end Go.Proofs.YtkmkfpgaehgonaaGreatDoor
