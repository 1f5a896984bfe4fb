/- The laws' to-functions on grammars: what they answer, with its shape (printed by mk/gts.py). -/
/- The laws' helpers on grammars: how great they are (printed by mk/gkit.py). -/
import Derived.Test.YtofpoiccghpliaaGreatDoorGTo
import Derived.Test.YtofpoiccghpliaaGreatDoorOShR
import Derived.Test.YtofpoiccghpliaaGreatDoorMK
import Derived.Test.YtofpoiccghpliaaGreatDoorGRule
import Derived.Test.YtofpoiccghpliaaGreatDoorXKit2
namespace Go.Proofs.YtofpoiccghpliaaGreatDoor
open Go.RowKit
set_option linter.unusedVariables false

def cntExpr (x : List NodeD) : Nat := (x.map fun y => 3 + y.kids.length).sum
def cntSym (x : SymD) : Nat := 3 + (x.args.map cntExpr).sum
def cntAlt (x : List SymD) : Nat := (x.map cntSym).sum
def cntRule (x : RuleD) : Nat := 1 + x.params.length + (x.alts.map cntAlt).sum
theorem cntExpr_le (x : List NodeD) : cntExpr x ≤ 3 * exprTot x := by
  have : ∀ l : List NodeD, (l.map fun y => 3 + y.kids.length).sum ≤ 3 * (l.length + (l.map fun y => y.name.size + y.kids.length).sum) := by
    intro l
    induction l with
    | nil => simp
    | cons y l ih => simp only [List.map_cons, List.sum_cons, List.length_cons]; omega
  exact this x
theorem cnt_le_of {α : Type} {f g : α → Nat} (h : ∀ x, f x ≤ 3 * (g x + 1)) (xs : List α) : (xs.map f).sum ≤ 3 * rowTot g xs := by
  unfold rowTot
  induction xs with
  | nil => simp
  | cons x xs ih => have := h x; simp only [List.map_cons, List.sum_cons, List.length_cons] at *; omega
theorem cntArgs_le (xs : List (List NodeD)) : (xs.map cntExpr).sum ≤ 3 * rowTot exprTot xs := cnt_le_of (fun x => by have := cntExpr_le x; omega) xs
theorem cntSym_le (x : SymD) : cntSym x ≤ 3 * (symTot x + 1) := by
  have := cntArgs_le x.args
  have e : symTot x = x.text.size + rowTot exprTot x.args + x.bind.size := rfl
  unfold cntSym
  omega
theorem cntAlt_le (x : List SymD) : cntAlt x ≤ 3 * altTot x := cnt_le_of cntSym_le x
theorem cntAlts_le (xs : List (List SymD)) : (xs.map cntAlt).sum ≤ 3 * rowTot altTot xs := cnt_le_of (fun x => by have := cntAlt_le x; omega) xs
theorem cntRule_le (x : RuleD) : cntRule x ≤ 3 * (ruleTot x + 1) := by
  have h1 := cntAlts_le x.alts
  have h2 := rowTot_len ByteArray.size x.params
  have e : ruleTot x = x.name.size + rowTot ByteArray.size x.params + rowTot altTot x.alts := rfl
  unfold cntRule
  omega
theorem cntGram_le (g : List RuleD) : (g.map cntRule).sum ≤ 3 * grammarTot g := cnt_le_of cntRule_le g
theorem ShK.low {τ : TypeId → List FK} {B B' : Nat} {k : FK} {w : World} {v : Value} {m : Nat} (h : ShK τ B k w v m) (hB : B' ≤ B) : ShK τ B' k w v m := by
  obtain ⟨H, n, c, h1, h2⟩ := h
  exact ⟨H, n, c, h1, shp_mono hB (Nat.le_refl _) n n (Nat.le_refl _) _ _ _ h2⟩
theorem ones_sum (n : Nat) : (List.replicate n 1).sum = n := by
  induction n with
  | zero => rfl
  | succ n ih => rw [List.replicate_succ, List.sum_cons, ih]; omega
theorem shK_ownB {B : Nat} {v : Value} {ss : List ByteArray} {w : World} (h : OwnB B v ss w) : ShK tau B (.row 9) w v ss.length := by
  have e : ss.length = (List.replicate ss.length 1).sum := (ones_sum _).symm
  rw [e]
  refine ShK.row (len := ss.length) (cs := sb ss) h (by simp [sb]) (fun i hi hi' => ⟨.str, by show [FK.str][i % 1]? = _; rw [Nat.mod_one]; rfl, ?_⟩)
  simp only [sb, List.getElem_map, List.getElem_replicate]
  exact ShK.str _
theorem shK_ownZ {B : Nat} {v : Value} {ks : List Int} {w : World} (h : OwnZ B v ks w) : ShK tau B (.row 3) w v ks.length := by
  have e : ks.length = (List.replicate ks.length 1).sum := (ones_sum _).symm
  rw [e]
  refine ShK.row (len := ks.length) (cs := zv ks) h (by simp [zv]) (fun i hi hi' => ⟨.int, by show [FK.int][i % 1]? = _; rw [Nat.mod_one]; rfl, ?_⟩)
  simp only [zv, List.getElem_map, List.getElem_replicate]
  exact ShK.int _
theorem shK_ownN {B : Nat} {v : Value} {ns : List NodeD} {w : World} (h : OwnN B v ns w) : ShK tau B (.row 138) w v (cntExpr ns) := by
  obtain ⟨qs, rfl, h, hk⟩ := h
  have hs : (qs.map fun q => [1, 1, 1, q.1.kids.length]).flatten.sum ≤ cntExpr (qs.map (·.1)) := by
    clear h hk
    unfold cntExpr
    induction qs with
    | nil => simp
    | cons q qs ih => simp only [List.map_cons, List.flatten_cons, List.sum_append, List.sum_cons, List.sum_nil] at *; omega
  refine (ShK.row (len := qs.length) (cs := nv qs) (ms := (qs.map fun q => [1, 1, 1, q.1.kids.length]).flatten) h ?_ (fun i hi hi' => ?_)).more hs
  · clear h hk hs
    induction qs with
    | nil => rfl
    | cons q qs ih =>
      have e : nv (q :: qs) = [.int .i64 q.1.op, .int .i64 q.1.num, .string q.1.name, q.2] ++ nv qs := rfl
      simp only [e, List.map_cons, List.flatten_cons, List.length_append, List.length_cons, List.length_nil, ih]
  · have en : ∀ l : List (NodeD × Value), nv l = (l.map fun q => [Value.int .i64 q.1.op, .int .i64 q.1.num, .string q.1.name, q.2]).flatten := by
      intro l
      induction l with
      | nil => rfl
      | cons q l ih => show [Value.int .i64 q.1.op, .int .i64 q.1.num, .string q.1.name, q.2] ++ nv l = _; rw [ih]; rfl
    have key := flat_shapes (sz := 4) (fun r v m => ∃ k, (tau 138)[r]? = some k ∧ ShK tau B k w v m) (qs.map fun q => [Value.int .i64 q.1.op, .int .i64 q.1.num, .string q.1.name, q.2]) (qs.map fun q => [1, 1, 1, q.1.kids.length]) (by simp) (fun vs hv => by obtain ⟨q, _, rfl⟩ := List.mem_map.1 hv; rfl) (fun ms hm => by obtain ⟨q, _, rfl⟩ := List.mem_map.1 hm; rfl) (fun q h1 h2 r h3 h4 => by
      have hq : q < qs.length := by simpa using h1
      simp only [List.getElem_map, List.length_cons, List.length_nil] at h3 h4 ⊢
      have hz := hk qs[q] (List.getElem_mem hq)
      match r, h3 with
      | 0, _ => exact ⟨.int, rfl, ShK.int _⟩
      | 1, _ => exact ⟨.int, rfl, ShK.int _⟩
      | 2, _ => exact ⟨.str, rfl, ShK.str _⟩
      | 3, _ => exact ⟨.row 3, rfl, shK_ownZ hz⟩) i (by rw [← en]; exact hi) hi'
    have e4 : (tau 138).length = 4 := rfl
    rw [e4]
    simp only [en qs]
    exact key
theorem withExpr {Bx : Nat} {W : World} {v : Value} {x : List NodeD} (h : NRow W v x) (hs : ShK tau Bx (.row 138) W v (cntExpr x)) : WithS tau Bx 107 ExprE cntExpr W [v] x :=
  ⟨⟨_, rfl, h⟩, [cntExpr x], rfl, by simp, fun r h1 h2 => match r, h1 with | 0, _ => ⟨_, rfl, hs⟩⟩
theorem withSym {Bx : Nat} {W : World} {v : Value} {x : SymD} (h : RowC 1 ExprE W v x.args) (hs : ShK tau Bx (.row 107) W v ((x.args.map cntExpr).sum)) : WithS tau Bx 66 SymE cntSym W [.int .i64 x.kind, .string x.text, v, .string x.bind] x :=
  ⟨⟨_, rfl, h⟩, [1, 1, (x.args.map cntExpr).sum, 1], rfl, by unfold cntSym; simp only [List.sum_cons, List.sum_nil]; omega, fun r h1 h2 => match r, h1 with | 0, _ => ⟨_, rfl, ShK.int _⟩ | 1, _ => ⟨_, rfl, ShK.str _⟩ | 2, _ => ⟨_, rfl, hs⟩ | 3, _ => ⟨_, rfl, ShK.str _⟩⟩
theorem withAlt {Bx : Nat} {W : World} {v : Value} {x : List SymD} (h : RowC 4 SymE W v x) (hs : ShK tau Bx (.row 66) W v ((x.map cntSym).sum)) : WithS tau Bx 63 AltE cntAlt W [v] x :=
  ⟨⟨_, rfl, h⟩, [(x.map cntSym).sum], rfl, by unfold cntAlt; simp, fun r h1 h2 => match r, h1 with | 0, _ => ⟨_, rfl, hs⟩⟩
theorem withRule {Bx : Nat} {W : World} {v u : Value} {x : RuleD} (h : SRow W v x.params) (hs : ShK tau Bx (.row 9) W v x.params.length) (h1 : RowC 1 AltE W u x.alts) (hs1 : ShK tau Bx (.row 63) W u ((x.alts.map cntAlt).sum)) : WithS tau Bx 43 RuleE cntRule W [.string x.name, v, u] x :=
  ⟨⟨_, _, rfl, h, h1⟩, [1, x.params.length, (x.alts.map cntAlt).sum], rfl, by unfold cntRule; simp only [List.sum_cons, List.sum_nil]; omega, fun r h2 h3 => match r, h2 with | 0, _ => ⟨_, rfl, ShK.str _⟩ | 1, _ => ⟨_, rfl, hs⟩ | 2, _ => ⟨_, rfl, hs1⟩⟩

theorem gtsStringS (Bx : Nat) (v : Value) (xs : List ByteArray) (w : World) (hBx : Bx ≤ w.heap.size) (hz : rowTot ByteArray.size xs ≤ 1048576) (h : SRow w v xs) :
    Calls Tryz.prog 39 #[v] w fun e w' => ∃ a c, e = .returned (.slice a xs.length c) ∧ Fresh w.heap.size w' (fun W => SRow W (.slice a xs.length c) xs ∧ ShK tau Bx (.row 9) W (.slice a xs.length c) xs.length) ∧ Below w.heap.size w w' := by
  refine (toStringS_any v xs w (by have := rowTot_len ByteArray.size xs; omega) h).mono ?_
  rintro e w' ⟨o, rfl, ho, hb⟩
  obtain ⟨a, c, rfl⟩ := ho.row.slice
  exact ⟨a, c, rfl, (fresh_sRow ho).and ((shK_ownB ho).fresh.imp fun W h => h.low hBx), hb⟩
theorem gtsExpr (Bx : Nat) (v : Value) (x : List NodeD) (w : World) (hBx : Bx ≤ w.heap.size) (hz : exprTot x ≤ 1048576) (h : NRow w v x) :
    Calls Tryz.prog 109 #[.agg #[v]] w fun e w' => ∃ a0 c0, e = .returned (.agg #[.slice a0 x.length c0]) ∧ Fresh w.heap.size w' (fun W => NRow W (.slice a0 x.length c0) x ∧ ShK tau Bx (.row 138) W (.slice a0 x.length c0) (cntExpr x)) ∧ Below w.heap.size w w' := by
  have e : exprTot x = x.length + (x.map fun y => y.name.size + y.kids.length).sum := rfl
  refine (toExpr_any v x w (by omega) (fun y hy => ?_) h).mono ?_
  · have : y.name.size + y.kids.length ≤ (x.map fun y => y.name.size + y.kids.length).sum := sum_mem (fun y : NodeD => y.name.size + y.kids.length) hy
    omega
  · rintro e w' ⟨o, rfl, ho, hb⟩
    obtain ⟨a, c, rfl⟩ := ho.row.slice
    exact ⟨a, c, rfl, (fresh_nRow ho).and ((shK_ownN ho).fresh.imp fun W h => h.low hBx), hb⟩

set_option maxHeartbeats 3200000 in
set_option maxRecDepth 100000 in
theorem gtsExprS (Bx : Nat) (v : Value) (xs : List (List NodeD)) (w : World) (hBx : Bx ≤ w.heap.size) (hz : rowTot exprTot xs ≤ 1048576) (h : RowC 1 ExprE w v xs) :
    Calls Tryz.prog 100 #[v] w fun e w' => ∃ a c, e = .returned (.slice a xs.length c) ∧ Fresh w.heap.size w' (fun W => RowC 1 ExprE W (.slice a xs.length c) xs ∧ ShK tau Bx (.row 107) W (.slice a xs.length c) ((xs.map cntExpr).sum)) ∧ Below w.heap.size w w' := by
  obtain ⟨i0, hi, hz0, hz1, hz2⟩ := info_parts Tryz.infoExpr
  have hn := rowTot_len exprTot xs
  have HR : Hid (RowC 1 ExprE w v xs) := h
  obtain ⟨a, cap, rfl⟩ := h.slice
  clear h
  go_enter Tryz.func100, Tryz.ntmps100
  go_wp2_with (at_make; refine wpList_make_full _ rfl _ _ 64 rfl w.heap.size 107 i0 _ 1 Tryz.underlying64 hi hz0 hz1 .i64 .i64 _ _ xs.length rfl rfl rfl rfl (by rw [hz2]; omega) (by unfold maxLen; omega) (Nat.le_refl _) ?_; intro w1 hown hg1)
  have HO : Hid (RowTo 1 (WithS tau Bx 107 ExprE cntExpr) 107 w.heap.size w.heap.size xs 0 w1) := rowTo_start hown
  have HB1 : Hid (Below w.heap.size w w1) := (Below.refl _ _).grown hg1 (Nat.le_refl _) (fun k h => by cases h)
  clear hown hg1
  go_loopw [4] (fun iv wr => ∃ k : Nat, iv = .int .i64 k ∧ k ≤ xs.length ∧ RowTo 1 (WithS tau Bx 107 ExprE cntExpr) 107 w.heap.size w.heap.size xs k wr ∧ Below w.heap.size w wr) (fun iv _ => xs.length - (intOf iv).toNat)
  case atStart => exact ⟨0, rfl, Nat.zero_le _, HO.out, HB1.out⟩
  case round =>
    obtain ⟨k, rfl, hk, hrow, hb⟩ := hrel
    have HW : Hid (RowTo 1 (WithS tau Bx 107 ExprE cntExpr) 107 w.heap.size w.heap.size xs k wr) := hrow
    have HB : Hid (Below w.heap.size w wr) := hb
    have HRr : Hid (RowC 1 ExprE wr (.slice a xs.length cap) xs) := RowC.below ExprE_stable HR.out hb
    have hgt : w.heap.size + 1 ≤ wr.heap.size := by
      obtain ⟨cs, ho⟩ := hrow.own
      exact (World.ownsRow.lt ho w.heap.size rfl).2
    clear hb hrow HO HB1
    by_cases hlt : k < xs.length
    · obtain ⟨b, off, vs, rfl, _, hc, hE⟩ := HRr.out.at hlt
      obtain ⟨r0, rfl, hh0⟩ := hE
      have n0 : wr.cell? ⟨b, off + k, none⟩ = some (r0) := by have h := hc 0 (by simp); rw [Nat.mul_one] at h; exact h
      have HT : Hid (∀ W, Below wr.heap.size wr W → _) := fun W hW => gtsExpr Bx r0 xs[k] W (by have := hW.size; omega) (by have := rowTot_mem exprTot (List.getElem_mem hlt); omega) (hh0.below hW)
      obtain ⟨aa0, ca0, rfl⟩ := hh0.slice
      clear hc hh0
      go_wp2_with fail
      refine (HT.out _ (Below.refl _ _)).mono ?_
      rintro e w2 ⟨o0, c0, rfl, f0, hb2⟩
      have HB2 : Hid (Below w.heap.size w w2) := HB.out.trans (hb2.mono HB.out.size)
      have HW2 : Hid (RowTo 1 (WithS tau Bx 107 ExprE cntExpr) 107 w.heap.size w.heap.size xs k w2) := HW.out.below hb2
      have HE2 : Hid (Fresh (w.heap.size + 1) w2 (fun W => WithS tau Bx 107 ExprE cntExpr W [.slice o0 xs[k].length c0] xs[k])) := fun W h1 h2 => withExpr ((f0.base hgt) W h1 h2).1 ((f0.base hgt) W h1 h2).2
      obtain ⟨cs, O2⟩ := HW2.out.own
      obtain ⟨d0, hd0, hf0⟩ := own_cell O2 (k) (by omega)
      clear O2 hb2 HT HW f0
      go_wp2
      have HN : Hid (RowTo 1 (WithS tau Bx 107 ExprE cntExpr) 107 w.heap.size w.heap.size xs (k + 1) (setsW w2 w.heap.size (k * 1) [.slice o0 xs[k].length c0])) := HW2.out.next hlt rfl HE2.out
      have HB3 : Hid (Below w.heap.size w (setsW w2 w.heap.size (k * 1) [.slice o0 xs[k].length c0])) := setsW_below HB2.out (Nat.le_refl _) _ _
      simp only [Nat.mul_one] at HN HB3
      go_roundw
      case rel => exact ⟨k + 1, by go_num, by omega, HN.out, HB3.out⟩
      case measure => simp [intOf]; omega
    · obtain rfl : k = xs.length := by omega
      have HF : Hid (Fresh w.heap.size wr (fun W => RowC 1 ExprE W (.slice (some ⟨w.heap.size, 0, none⟩) xs.length xs.length) xs ∧ ShK tau Bx (.row 107) W (.slice (some ⟨w.heap.size, 0, none⟩) xs.length xs.length) ((xs.map cntExpr).sum))) := RowTo.done2 rfl hBx HW.out
      clear HW
      go_wp2
      go_ret
      exact ⟨_, _, rfl, HF.out, HB.out⟩

set_option maxHeartbeats 3200000 in
set_option maxRecDepth 100000 in
theorem gtsSym (Bx : Nat) (r0 : Value) (x : SymD) (w : World) (hBx : Bx ≤ w.heap.size) (hz : symTot x ≤ 1048576) (hh0 : RowC 1 ExprE w r0 x.args) :
    Calls Tryz.prog 83 #[.agg #[.int .i64 x.kind, .string x.text, r0, .string x.bind]] w fun e w' => ∃ o0 c0, e = .returned (.agg #[.int .i64 x.kind, .string x.text, .slice o0 x.args.length c0, .string x.bind]) ∧ Fresh w.heap.size w' (fun W => RowC 1 ExprE W (.slice o0 x.args.length c0) x.args ∧ ShK tau Bx (.row 107) W (.slice o0 x.args.length c0) ((x.args.map cntExpr).sum)) ∧ Below w.heap.size w w' := by
  have HTt : symTot x = x.text.size + rowTot exprTot x.args + x.bind.size := rfl
  have R0 : Hid (RowC 1 ExprE w r0 x.args) := hh0
  obtain ⟨aa0, ca0, rfl⟩ := hh0.slice
  have hz0 : rowTot exprTot x.args ≤ 1048576 := by omega
  clear HTt hz hh0
  obtain ⟨B, hB⟩ : ∃ B, w.heap.size = B := ⟨_, rfl⟩
  go_enter Tryz.func83, Tryz.ntmps83
  go_wp2_with fail
  obtain ⟨k0, k1, k2⟩ := box_three w #[.int .i64 x.kind, .string x.text, .slice aa0 x.args.length ca0, .string x.bind] #[.int .i64 0, .string ⟨#[]⟩, .slice none 0 0, .string ⟨#[]⟩] #[.int .i64 x.kind, .string x.text, .slice none 0 0, .string ⟨#[]⟩] 124 66 hB
  have P0 : Hid ((((w.alloc (.cells #[.int .i64 x.kind, .string x.text, .slice aa0 x.args.length ca0, .string x.bind] 124)).alloc (.cells #[.int .i64 0, .string ⟨#[]⟩, .slice none 0 0, .string ⟨#[]⟩] 66)).alloc (.cells #[.int .i64 x.kind, .string x.text, .slice none 0 0, .string ⟨#[]⟩] 66)).heap[B]? = some (.cells #[.int .i64 x.kind, .string x.text, .slice aa0 x.args.length ca0, .string x.bind] 124)) := k0
  have P1 : Hid ((((w.alloc (.cells #[.int .i64 x.kind, .string x.text, .slice aa0 x.args.length ca0, .string x.bind] 124)).alloc (.cells #[.int .i64 0, .string ⟨#[]⟩, .slice none 0 0, .string ⟨#[]⟩] 66)).alloc (.cells #[.int .i64 x.kind, .string x.text, .slice none 0 0, .string ⟨#[]⟩] 66)).heap[B + 1]? = some (.cells #[.int .i64 0, .string ⟨#[]⟩, .slice none 0 0, .string ⟨#[]⟩] 66)) := k1
  have P2 : Hid ((((w.alloc (.cells #[.int .i64 x.kind, .string x.text, .slice aa0 x.args.length ca0, .string x.bind] 124)).alloc (.cells #[.int .i64 0, .string ⟨#[]⟩, .slice none 0 0, .string ⟨#[]⟩] 66)).alloc (.cells #[.int .i64 x.kind, .string x.text, .slice none 0 0, .string ⟨#[]⟩] 66)).heap[B + 2]? = some (.cells #[.int .i64 x.kind, .string x.text, .slice none 0 0, .string ⟨#[]⟩] 66)) := k2
  have BW : Hid (Below w.heap.size w (((w.alloc (.cells #[.int .i64 x.kind, .string x.text, .slice aa0 x.args.length ca0, .string x.bind] 124)).alloc (.cells #[.int .i64 0, .string ⟨#[]⟩, .slice none 0 0, .string ⟨#[]⟩] 66)).alloc (.cells #[.int .i64 x.kind, .string x.text, .slice none 0 0, .string ⟨#[]⟩] 66))) := (((Below.refl _ _).alloc (Nat.le_refl _) _).alloc (by simp) _).alloc (by simp; omega) _
  have hsz : B + 3 ≤ (((w.alloc (.cells #[.int .i64 x.kind, .string x.text, .slice aa0 x.args.length ca0, .string x.bind] 124)).alloc (.cells #[.int .i64 0, .string ⟨#[]⟩, .slice none 0 0, .string ⟨#[]⟩] 66)).alloc (.cells #[.int .i64 x.kind, .string x.text, .slice none 0 0, .string ⟨#[]⟩] 66)).heap.size := by simp [hB]
  clear k0 k1 k2
  generalize ((w.alloc (.cells #[.int .i64 x.kind, .string x.text, .slice aa0 x.args.length ca0, .string x.bind] 124)).alloc (.cells #[.int .i64 0, .string ⟨#[]⟩, .slice none 0 0, .string ⟨#[]⟩] 66)).alloc (.cells #[.int .i64 x.kind, .string x.text, .slice none 0 0, .string ⟨#[]⟩] 66) = W0 at *
  refine (gtsExprS Bx _ x.args W0 (by omega) hz0 (RowC.below ExprE_stable R0.out BW.out)).mono ?_
  rintro e w0 ⟨o0, c0, rfl, f0, hb0⟩
  have B0 : Hid (Below w.heap.size w w0) := BW.out.trans (hb0.mono BW.out.size)
  have F0_0 : Hid (Fresh (B + 3) w0 (fun W => RowC 1 ExprE W (.slice o0 x.args.length c0) x.args ∧ ShK tau Bx (.row 107) W (.slice o0 x.args.length c0) ((x.args.map cntExpr).sum))) := f0.base hsz
  have q00_0 : Hid (w0.heap[B]? = some (.cells #[.int .i64 x.kind, .string x.text, .slice aa0 x.args.length ca0, .string x.bind] 124)) := (hb0.block B (by omega)).trans P0.out
  have q01_0 : Hid (w0.heap[B + 1]? = some (.cells #[.int .i64 0, .string ⟨#[]⟩, .slice none 0 0, .string ⟨#[]⟩] 66)) := (hb0.block (B + 1) (by omega)).trans P1.out
  have q02_0 : Hid (w0.heap[B + 2]? = some (.cells #[.int .i64 x.kind, .string x.text, .slice none 0 0, .string ⟨#[]⟩] 66)) := (hb0.block (B + 2) (by omega)).trans P2.out
  have hsz0 : B + 3 ≤ w0.heap.size := Nat.le_trans hsz hb0.size
  clear P0 P1 P2 f0 hb0 hsz BW
  have y0_2 : (w0).cell? ⟨B + 1 + 1, 2, none⟩ = some (.slice none 0 0) := cell_block (b := B + 2) q02_0.out rfl
  have g0_2 : (w0).frozen? ⟨B + 1 + 1, 2, none⟩ = false := frozen_block (b := B + 2) q02_0.out
  have q00_1 : Hid ((w0.setCell ⟨B + 1 + 1, 2, none⟩ (.slice o0 x.args.length c0)).heap[B]? = some (.cells #[.int .i64 x.kind, .string x.text, .slice aa0 x.args.length ca0, .string x.bind] 124)) := (block_other (b := B) (b' := B + 1 + 1) (by omega)).trans q00_0.out
  have q01_1 : Hid ((w0.setCell ⟨B + 1 + 1, 2, none⟩ (.slice o0 x.args.length c0)).heap[B + 1]? = some (.cells #[.int .i64 0, .string ⟨#[]⟩, .slice none 0 0, .string ⟨#[]⟩] 66)) := (block_other (b := B + 1) (b' := B + 1 + 1) (by omega)).trans q01_0.out
  have q02_1 : Hid ((w0.setCell ⟨B + 1 + 1, 2, none⟩ (.slice o0 x.args.length c0)).heap[B + 2]? = some (.cells #[.int .i64 x.kind, .string x.text, .slice o0 x.args.length c0, .string ⟨#[]⟩] 66)) := block_set (b := B + 2) q02_0.out
  have a0_3 : (w0.setCell ⟨B + 1 + 1, 2, none⟩ (.slice o0 x.args.length c0)).cell? ⟨B, 3, none⟩ = some (.string x.bind) := cell_block q00_1.out rfl
  have y0_3 : (w0.setCell ⟨B + 1 + 1, 2, none⟩ (.slice o0 x.args.length c0)).cell? ⟨B + 1 + 1, 3, none⟩ = some (.string ⟨#[]⟩) := cell_block (b := B + 2) q02_1.out rfl
  have g0_3 : (w0.setCell ⟨B + 1 + 1, 2, none⟩ (.slice o0 x.args.length c0)).frozen? ⟨B + 1 + 1, 3, none⟩ = false := frozen_block (b := B + 2) q02_1.out
  have q00_2 : Hid (((w0.setCell ⟨B + 1 + 1, 2, none⟩ (.slice o0 x.args.length c0)).setCell ⟨B + 1 + 1, 3, none⟩ (.string x.bind)).heap[B]? = some (.cells #[.int .i64 x.kind, .string x.text, .slice aa0 x.args.length ca0, .string x.bind] 124)) := (block_other (b := B) (b' := B + 1 + 1) (by omega)).trans q00_1.out
  have q01_2 : Hid (((w0.setCell ⟨B + 1 + 1, 2, none⟩ (.slice o0 x.args.length c0)).setCell ⟨B + 1 + 1, 3, none⟩ (.string x.bind)).heap[B + 1]? = some (.cells #[.int .i64 0, .string ⟨#[]⟩, .slice none 0 0, .string ⟨#[]⟩] 66)) := (block_other (b := B + 1) (b' := B + 1 + 1) (by omega)).trans q01_1.out
  have q02_2 : Hid (((w0.setCell ⟨B + 1 + 1, 2, none⟩ (.slice o0 x.args.length c0)).setCell ⟨B + 1 + 1, 3, none⟩ (.string x.bind)).heap[B + 2]? = some (.cells #[.int .i64 x.kind, .string x.text, .slice o0 x.args.length c0, .string x.bind] 66)) := block_set (b := B + 2) q02_1.out
  have C0 : Hid (Below w.heap.size w ((w0.setCell ⟨B + 1 + 1, 2, none⟩ (.slice o0 x.args.length c0)).setCell ⟨B + 1 + 1, 3, none⟩ (.string x.bind))) := ((B0.out.setCell (show w.heap.size ≤ B + 1 + 1 by omega) _).setCell (show w.heap.size ≤ B + 1 + 1 by omega) _)
  have G0_0 : Hid (Fresh (B + 3) ((w0.setCell ⟨B + 1 + 1, 2, none⟩ (.slice o0 x.args.length c0)).setCell ⟨B + 1 + 1, 3, none⟩ (.string x.bind)) (fun W => RowC 1 ExprE W (.slice o0 x.args.length c0) x.args ∧ ShK tau Bx (.row 107) W (.slice o0 x.args.length c0) ((x.args.map cntExpr).sum))) := ((F0_0.out.setLow (by omega) _ _).setLow (by omega) _ _)
  have v0 : B + 3 ≤ ((w0.setCell ⟨B + 1 + 1, 2, none⟩ (.slice o0 x.args.length c0)).setCell ⟨B + 1 + 1, 3, none⟩ (.string x.bind)).heap.size := by simpa using hsz0
  have y9_0 : ((w0.setCell ⟨B + 1 + 1, 2, none⟩ (.slice o0 x.args.length c0)).setCell ⟨B + 1 + 1, 3, none⟩ (.string x.bind)).cell? ⟨B + 1 + 1, 0, none⟩ = some (.int .i64 x.kind) := cell_block (b := B + 2) q02_2.out rfl
  have z9_0 : ((w0.setCell ⟨B + 1 + 1, 2, none⟩ (.slice o0 x.args.length c0)).setCell ⟨B + 1 + 1, 3, none⟩ (.string x.bind)).cell? ⟨B + 1, 0, none⟩ = some (.int .i64 0) := cell_block q01_2.out rfl
  have g9_0 : ((w0.setCell ⟨B + 1 + 1, 2, none⟩ (.slice o0 x.args.length c0)).setCell ⟨B + 1 + 1, 3, none⟩ (.string x.bind)).frozen? ⟨B + 1, 0, none⟩ = false := frozen_block q01_2.out
  have y9_1 : ((w0.setCell ⟨B + 1 + 1, 2, none⟩ (.slice o0 x.args.length c0)).setCell ⟨B + 1 + 1, 3, none⟩ (.string x.bind)).cell? ⟨B + 1 + 1, 1, none⟩ = some (.string x.text) := cell_block (b := B + 2) q02_2.out rfl
  have z9_1 : ((w0.setCell ⟨B + 1 + 1, 2, none⟩ (.slice o0 x.args.length c0)).setCell ⟨B + 1 + 1, 3, none⟩ (.string x.bind)).cell? ⟨B + 1, 1, none⟩ = some (.string ⟨#[]⟩) := cell_block q01_2.out rfl
  have g9_1 : ((w0.setCell ⟨B + 1 + 1, 2, none⟩ (.slice o0 x.args.length c0)).setCell ⟨B + 1 + 1, 3, none⟩ (.string x.bind)).frozen? ⟨B + 1, 1, none⟩ = false := frozen_block q01_2.out
  have y9_2 : ((w0.setCell ⟨B + 1 + 1, 2, none⟩ (.slice o0 x.args.length c0)).setCell ⟨B + 1 + 1, 3, none⟩ (.string x.bind)).cell? ⟨B + 1 + 1, 2, none⟩ = some (.slice o0 x.args.length c0) := cell_block (b := B + 2) q02_2.out rfl
  have z9_2 : ((w0.setCell ⟨B + 1 + 1, 2, none⟩ (.slice o0 x.args.length c0)).setCell ⟨B + 1 + 1, 3, none⟩ (.string x.bind)).cell? ⟨B + 1, 2, none⟩ = some (.slice none 0 0) := cell_block q01_2.out rfl
  have g9_2 : ((w0.setCell ⟨B + 1 + 1, 2, none⟩ (.slice o0 x.args.length c0)).setCell ⟨B + 1 + 1, 3, none⟩ (.string x.bind)).frozen? ⟨B + 1, 2, none⟩ = false := frozen_block q01_2.out
  have y9_3 : ((w0.setCell ⟨B + 1 + 1, 2, none⟩ (.slice o0 x.args.length c0)).setCell ⟨B + 1 + 1, 3, none⟩ (.string x.bind)).cell? ⟨B + 1 + 1, 3, none⟩ = some (.string x.bind) := cell_block (b := B + 2) q02_2.out rfl
  have z9_3 : ((w0.setCell ⟨B + 1 + 1, 2, none⟩ (.slice o0 x.args.length c0)).setCell ⟨B + 1 + 1, 3, none⟩ (.string x.bind)).cell? ⟨B + 1, 3, none⟩ = some (.string ⟨#[]⟩) := cell_block q01_2.out rfl
  have g9_3 : ((w0.setCell ⟨B + 1 + 1, 2, none⟩ (.slice o0 x.args.length c0)).setCell ⟨B + 1 + 1, 3, none⟩ (.string x.bind)).frozen? ⟨B + 1, 3, none⟩ = false := frozen_block q01_2.out
  go_wp2
  have P1 : Hid (((w0.setCell ⟨B + 1 + 1, 2, none⟩ (.slice o0 x.args.length c0)).setCell ⟨B + 1 + 1, 3, none⟩ (.string x.bind)).heap[B + 1]? = some (.cells #[.int .i64 0, .string ⟨#[]⟩, .slice none 0 0, .string ⟨#[]⟩] 66)) := q01_2.out
  clear a0_3 y0_2 g0_2 y0_3 g0_3 y9_0 z9_0 g9_0 y9_1 z9_1 g9_1 y9_2 z9_2 g9_2 y9_3 z9_3 g9_3 q00_0 q00_1 q00_2 q01_0 q01_1 q01_2 q02_0 q02_1 q02_2
  generalize (w0.setCell ⟨B + 1 + 1, 2, none⟩ (.slice o0 x.args.length c0)).setCell ⟨B + 1 + 1, 3, none⟩ (.string x.bind) = WL at *
  have FB : Hid (Below w.heap.size w ((((WL.setCell ⟨B + 1, 0, none⟩ (.int .i64 x.kind)).setCell ⟨B + 1, 1, none⟩ (.string x.text)).setCell ⟨B + 1, 2, none⟩ (.slice o0 x.args.length c0)).setCell ⟨B + 1, 3, none⟩ (.string x.bind))) := ((((C0.out.setCell (show w.heap.size ≤ B + 1 by omega) _).setCell (show w.heap.size ≤ B + 1 by omega) _).setCell (show w.heap.size ≤ B + 1 by omega) _).setCell (show w.heap.size ≤ B + 1 by omega) _)
  have FF0 : Hid (Fresh w.heap.size ((((WL.setCell ⟨B + 1, 0, none⟩ (.int .i64 x.kind)).setCell ⟨B + 1, 1, none⟩ (.string x.text)).setCell ⟨B + 1, 2, none⟩ (.slice o0 x.args.length c0)).setCell ⟨B + 1, 3, none⟩ (.string x.bind)) (fun W => RowC 1 ExprE W (.slice o0 x.args.length c0) x.args ∧ ShK tau Bx (.row 107) W (.slice o0 x.args.length c0) ((x.args.map cntExpr).sum))) := Fresh.base (((((G0_0.out.setLow (by omega) _ _).setLow (by omega) _ _).setLow (by omega) _ _).setLow (by omega) _ _)) (show w.heap.size ≤ B + 3 by omega)
  have rp : ((((WL.setCell ⟨B + 1, 0, none⟩ (.int .i64 x.kind)).setCell ⟨B + 1, 1, none⟩ (.string x.text)).setCell ⟨B + 1, 2, none⟩ (.slice o0 x.args.length c0)).setCell ⟨B + 1, 3, none⟩ (.string x.bind)).heap[B + 1]? = some (.cells #[.int .i64 x.kind, .string x.text, .slice o0 x.args.length c0, .string x.bind] 66) := block_set (block_set (block_set (block_set P1.out)))
  have rr0 : ((((WL.setCell ⟨B + 1, 0, none⟩ (.int .i64 x.kind)).setCell ⟨B + 1, 1, none⟩ (.string x.text)).setCell ⟨B + 1, 2, none⟩ (.slice o0 x.args.length c0)).setCell ⟨B + 1, 3, none⟩ (.string x.bind)).cell? ⟨B + 1, 0, none⟩ = some (.int .i64 x.kind) := cell_block rp rfl
  have rr1 : ((((WL.setCell ⟨B + 1, 0, none⟩ (.int .i64 x.kind)).setCell ⟨B + 1, 1, none⟩ (.string x.text)).setCell ⟨B + 1, 2, none⟩ (.slice o0 x.args.length c0)).setCell ⟨B + 1, 3, none⟩ (.string x.bind)).cell? ⟨B + 1, 1, none⟩ = some (.string x.text) := cell_block rp rfl
  have rr2 : ((((WL.setCell ⟨B + 1, 0, none⟩ (.int .i64 x.kind)).setCell ⟨B + 1, 1, none⟩ (.string x.text)).setCell ⟨B + 1, 2, none⟩ (.slice o0 x.args.length c0)).setCell ⟨B + 1, 3, none⟩ (.string x.bind)).cell? ⟨B + 1, 2, none⟩ = some (.slice o0 x.args.length c0) := cell_block rp rfl
  have rr3 : ((((WL.setCell ⟨B + 1, 0, none⟩ (.int .i64 x.kind)).setCell ⟨B + 1, 1, none⟩ (.string x.text)).setCell ⟨B + 1, 2, none⟩ (.slice o0 x.args.length c0)).setCell ⟨B + 1, 3, none⟩ (.string x.bind)).cell? ⟨B + 1, 3, none⟩ = some (.string x.bind) := cell_block rp rfl
  clear rp P1 v0
  generalize (((WL.setCell ⟨B + 1, 0, none⟩ (.int .i64 x.kind)).setCell ⟨B + 1, 1, none⟩ (.string x.text)).setCell ⟨B + 1, 2, none⟩ (.slice o0 x.args.length c0)).setCell ⟨B + 1, 3, none⟩ (.string x.bind) = W9 at *
  (try simp only [Exit.inBlock, Exit.then])
  refine bodyPost_ret (by simp [results, Tryz.results83, go_sem, rr0, rr1, rr2, rr3]; try rfl) rfl ?_
  exact ⟨_, _, rfl, FF0.out, FB.out⟩

set_option maxHeartbeats 3200000 in
set_option maxRecDepth 100000 in
theorem gtsSymS (Bx : Nat) (v : Value) (xs : List (SymD)) (w : World) (hBx : Bx ≤ w.heap.size) (hz : rowTot symTot xs ≤ 1048576) (h : RowC 4 SymE w v xs) :
    Calls Tryz.prog 69 #[v] w fun e w' => ∃ a c, e = .returned (.slice a xs.length c) ∧ Fresh w.heap.size w' (fun W => RowC 4 SymE W (.slice a xs.length c) xs ∧ ShK tau Bx (.row 66) W (.slice a xs.length c) ((xs.map cntSym).sum)) ∧ Below w.heap.size w w' := by
  obtain ⟨i0, hi, hz0, hz1, hz2⟩ := info_parts Tryz.infoSym
  have hn := rowTot_len symTot xs
  have HR : Hid (RowC 4 SymE w v xs) := h
  obtain ⟨a, cap, rfl⟩ := h.slice
  clear h
  go_enter Tryz.func69, Tryz.ntmps69
  go_wp2_with (at_make; refine wpList_make_full _ rfl _ _ 61 rfl w.heap.size 66 i0 _ 4 Tryz.underlying61 hi hz0 hz1 .i64 .i64 _ _ xs.length rfl rfl rfl rfl (by rw [hz2]; omega) (by unfold maxLen; omega) (Nat.le_refl _) ?_; intro w1 hown hg1)
  have HO : Hid (RowTo 4 (WithS tau Bx 66 SymE cntSym) 66 w.heap.size w.heap.size xs 0 w1) := rowTo_start hown
  have HB1 : Hid (Below w.heap.size w w1) := (Below.refl _ _).grown hg1 (Nat.le_refl _) (fun k h => by cases h)
  clear hown hg1
  go_loopw [4] (fun iv wr => ∃ k : Nat, iv = .int .i64 k ∧ k ≤ xs.length ∧ RowTo 4 (WithS tau Bx 66 SymE cntSym) 66 w.heap.size w.heap.size xs k wr ∧ Below w.heap.size w wr) (fun iv _ => xs.length - (intOf iv).toNat)
  case atStart => exact ⟨0, rfl, Nat.zero_le _, HO.out, HB1.out⟩
  case round =>
    obtain ⟨k, rfl, hk, hrow, hb⟩ := hrel
    have HW : Hid (RowTo 4 (WithS tau Bx 66 SymE cntSym) 66 w.heap.size w.heap.size xs k wr) := hrow
    have HB : Hid (Below w.heap.size w wr) := hb
    have HRr : Hid (RowC 4 SymE wr (.slice a xs.length cap) xs) := RowC.below SymE_stable HR.out hb
    have hgt : w.heap.size + 1 ≤ wr.heap.size := by
      obtain ⟨cs, ho⟩ := hrow.own
      exact (World.ownsRow.lt ho w.heap.size rfl).2
    clear hb hrow HO HB1
    by_cases hlt : k < xs.length
    · obtain ⟨b, off, vs, rfl, _, hc, hE⟩ := HRr.out.at hlt
      obtain ⟨r0, rfl, hh0⟩ := hE
      have n0 : wr.cell? ⟨b, off + k * 4, none⟩ = some (.int .i64 xs[k].kind) := hc 0 (by simp)
      have n1 : wr.cell? ⟨b, off + k * 4 + 1, none⟩ = some (.string xs[k].text) := hc 1 (by simp)
      have n2 : wr.cell? ⟨b, off + k * 4 + 2, none⟩ = some (r0) := hc 2 (by simp)
      have n3 : wr.cell? ⟨b, off + k * 4 + 3, none⟩ = some (.string xs[k].bind) := hc 3 (by simp)
      have HT : Hid (∀ W, Below wr.heap.size wr W → _) := fun W hW => gtsSym Bx r0 xs[k] W (by have := hW.size; omega) (by have := rowTot_mem symTot (List.getElem_mem hlt); omega) (RowC.below ExprE_stable hh0 hW)
      obtain ⟨aa0, ca0, rfl⟩ := hh0.slice
      clear hc hh0
      go_wp2_with fail
      refine (HT.out _ (Below.refl _ _)).mono ?_
      rintro e w2 ⟨o0, c0, rfl, f0, hb2⟩
      have HB2 : Hid (Below w.heap.size w w2) := HB.out.trans (hb2.mono HB.out.size)
      have HW2 : Hid (RowTo 4 (WithS tau Bx 66 SymE cntSym) 66 w.heap.size w.heap.size xs k w2) := HW.out.below hb2
      have HE2 : Hid (Fresh (w.heap.size + 1) w2 (fun W => WithS tau Bx 66 SymE cntSym W [.int .i64 xs[k].kind, .string xs[k].text, .slice o0 xs[k].args.length c0, .string xs[k].bind] xs[k])) := fun W h1 h2 => withSym ((f0.base hgt) W h1 h2).1 ((f0.base hgt) W h1 h2).2
      obtain ⟨cs, O2⟩ := HW2.out.own
      obtain ⟨d0, hd0, hf0⟩ := own_cell O2 (k * 4) (by omega)
      obtain ⟨d1, hd1, hf1⟩ := own_cell O2 (k * 4 + 1) (by omega)
      obtain ⟨d2, hd2, hf2⟩ := own_cell O2 (k * 4 + 2) (by omega)
      obtain ⟨d3, hd3, hf3⟩ := own_cell O2 (k * 4 + 3) (by omega)
      clear O2 hb2 HT HW f0
      go_wp2
      have HN : Hid (RowTo 4 (WithS tau Bx 66 SymE cntSym) 66 w.heap.size w.heap.size xs (k + 1) (setsW w2 w.heap.size (k * 4) [.int .i64 xs[k].kind, .string xs[k].text, .slice o0 xs[k].args.length c0, .string xs[k].bind])) := HW2.out.next hlt rfl HE2.out
      have HB3 : Hid (Below w.heap.size w (setsW w2 w.heap.size (k * 4) [.int .i64 xs[k].kind, .string xs[k].text, .slice o0 xs[k].args.length c0, .string xs[k].bind])) := setsW_below HB2.out (Nat.le_refl _) _ _
      skip
      go_roundw
      case rel => exact ⟨k + 1, by go_num, by omega, HN.out, HB3.out⟩
      case measure => simp [intOf]; omega
    · obtain rfl : k = xs.length := by omega
      have HF : Hid (Fresh w.heap.size wr (fun W => RowC 4 SymE W (.slice (some ⟨w.heap.size, 0, none⟩) xs.length xs.length) xs ∧ ShK tau Bx (.row 66) W (.slice (some ⟨w.heap.size, 0, none⟩) xs.length xs.length) ((xs.map cntSym).sum))) := RowTo.done2 rfl hBx HW.out
      clear HW
      go_wp2
      go_ret
      exact ⟨_, _, rfl, HF.out, HB.out⟩

set_option maxHeartbeats 3200000 in
set_option maxRecDepth 100000 in
theorem gtsAlt (Bx : Nat) (r0 : Value) (x : List SymD) (w : World) (hBx : Bx ≤ w.heap.size) (hz : altTot x ≤ 1048576) (hh0 : RowC 4 SymE w r0 x) :
    Calls Tryz.prog 55 #[.agg #[r0]] w fun e w' => ∃ o0 c0, e = .returned (.agg #[.slice o0 x.length c0]) ∧ Fresh w.heap.size w' (fun W => RowC 4 SymE W (.slice o0 x.length c0) x ∧ ShK tau Bx (.row 66) W (.slice o0 x.length c0) ((x.map cntSym).sum)) ∧ Below w.heap.size w w' := by
  have HTt : altTot x = rowTot symTot x := rfl
  have R0 : Hid (RowC 4 SymE w r0 x) := hh0
  obtain ⟨aa0, ca0, rfl⟩ := hh0.slice
  have hz0 : rowTot symTot x ≤ 1048576 := by omega
  clear HTt hz hh0
  obtain ⟨B, hB⟩ : ∃ B, w.heap.size = B := ⟨_, rfl⟩
  go_enter Tryz.func55, Tryz.ntmps55
  go_wp2_with fail
  obtain ⟨k0, k1, k2⟩ := box_three w #[.slice aa0 x.length ca0] #[.slice none 0 0] #[.slice none 0 0] 90 63 hB
  have P0 : Hid ((((w.alloc (.cells #[.slice aa0 x.length ca0] 90)).alloc (.cells #[.slice none 0 0] 63)).alloc (.cells #[.slice none 0 0] 63)).heap[B]? = some (.cells #[.slice aa0 x.length ca0] 90)) := k0
  have P1 : Hid ((((w.alloc (.cells #[.slice aa0 x.length ca0] 90)).alloc (.cells #[.slice none 0 0] 63)).alloc (.cells #[.slice none 0 0] 63)).heap[B + 1]? = some (.cells #[.slice none 0 0] 63)) := k1
  have P2 : Hid ((((w.alloc (.cells #[.slice aa0 x.length ca0] 90)).alloc (.cells #[.slice none 0 0] 63)).alloc (.cells #[.slice none 0 0] 63)).heap[B + 2]? = some (.cells #[.slice none 0 0] 63)) := k2
  have BW : Hid (Below w.heap.size w (((w.alloc (.cells #[.slice aa0 x.length ca0] 90)).alloc (.cells #[.slice none 0 0] 63)).alloc (.cells #[.slice none 0 0] 63))) := (((Below.refl _ _).alloc (Nat.le_refl _) _).alloc (by simp) _).alloc (by simp; omega) _
  have hsz : B + 3 ≤ (((w.alloc (.cells #[.slice aa0 x.length ca0] 90)).alloc (.cells #[.slice none 0 0] 63)).alloc (.cells #[.slice none 0 0] 63)).heap.size := by simp [hB]
  clear k0 k1 k2
  generalize ((w.alloc (.cells #[.slice aa0 x.length ca0] 90)).alloc (.cells #[.slice none 0 0] 63)).alloc (.cells #[.slice none 0 0] 63) = W0 at *
  refine (gtsSymS Bx _ x W0 (by omega) hz0 (RowC.below SymE_stable R0.out BW.out)).mono ?_
  rintro e w0 ⟨o0, c0, rfl, f0, hb0⟩
  have B0 : Hid (Below w.heap.size w w0) := BW.out.trans (hb0.mono BW.out.size)
  have F0_0 : Hid (Fresh (B + 3) w0 (fun W => RowC 4 SymE W (.slice o0 x.length c0) x ∧ ShK tau Bx (.row 66) W (.slice o0 x.length c0) ((x.map cntSym).sum))) := f0.base hsz
  have q00_0 : Hid (w0.heap[B]? = some (.cells #[.slice aa0 x.length ca0] 90)) := (hb0.block B (by omega)).trans P0.out
  have q01_0 : Hid (w0.heap[B + 1]? = some (.cells #[.slice none 0 0] 63)) := (hb0.block (B + 1) (by omega)).trans P1.out
  have q02_0 : Hid (w0.heap[B + 2]? = some (.cells #[.slice none 0 0] 63)) := (hb0.block (B + 2) (by omega)).trans P2.out
  have hsz0 : B + 3 ≤ w0.heap.size := Nat.le_trans hsz hb0.size
  clear P0 P1 P2 f0 hb0 hsz BW
  have y0_0 : (w0).cell? ⟨B + 1 + 1, 0, none⟩ = some (.slice none 0 0) := cell_block (b := B + 2) q02_0.out rfl
  have g0_0 : (w0).frozen? ⟨B + 1 + 1, 0, none⟩ = false := frozen_block (b := B + 2) q02_0.out
  have q00_1 : Hid ((w0.setCell ⟨B + 1 + 1, 0, none⟩ (.slice o0 x.length c0)).heap[B]? = some (.cells #[.slice aa0 x.length ca0] 90)) := (block_other (b := B) (b' := B + 1 + 1) (by omega)).trans q00_0.out
  have q01_1 : Hid ((w0.setCell ⟨B + 1 + 1, 0, none⟩ (.slice o0 x.length c0)).heap[B + 1]? = some (.cells #[.slice none 0 0] 63)) := (block_other (b := B + 1) (b' := B + 1 + 1) (by omega)).trans q01_0.out
  have q02_1 : Hid ((w0.setCell ⟨B + 1 + 1, 0, none⟩ (.slice o0 x.length c0)).heap[B + 2]? = some (.cells #[.slice o0 x.length c0] 63)) := block_set (b := B + 2) q02_0.out
  have C0 : Hid (Below w.heap.size w (w0.setCell ⟨B + 1 + 1, 0, none⟩ (.slice o0 x.length c0))) := (B0.out.setCell (show w.heap.size ≤ B + 1 + 1 by omega) _)
  have G0_0 : Hid (Fresh (B + 3) (w0.setCell ⟨B + 1 + 1, 0, none⟩ (.slice o0 x.length c0)) (fun W => RowC 4 SymE W (.slice o0 x.length c0) x ∧ ShK tau Bx (.row 66) W (.slice o0 x.length c0) ((x.map cntSym).sum))) := (F0_0.out.setLow (by omega) _ _)
  have v0 : B + 3 ≤ (w0.setCell ⟨B + 1 + 1, 0, none⟩ (.slice o0 x.length c0)).heap.size := by simpa using hsz0
  have y9_0 : (w0.setCell ⟨B + 1 + 1, 0, none⟩ (.slice o0 x.length c0)).cell? ⟨B + 1 + 1, 0, none⟩ = some (.slice o0 x.length c0) := cell_block (b := B + 2) q02_1.out rfl
  have z9_0 : (w0.setCell ⟨B + 1 + 1, 0, none⟩ (.slice o0 x.length c0)).cell? ⟨B + 1, 0, none⟩ = some (.slice none 0 0) := cell_block q01_1.out rfl
  have g9_0 : (w0.setCell ⟨B + 1 + 1, 0, none⟩ (.slice o0 x.length c0)).frozen? ⟨B + 1, 0, none⟩ = false := frozen_block q01_1.out
  go_wp2
  have P1 : Hid ((w0.setCell ⟨B + 1 + 1, 0, none⟩ (.slice o0 x.length c0)).heap[B + 1]? = some (.cells #[.slice none 0 0] 63)) := q01_1.out
  clear y0_0 g0_0 y9_0 z9_0 g9_0 q00_0 q00_1 q01_0 q01_1 q02_0 q02_1
  generalize w0.setCell ⟨B + 1 + 1, 0, none⟩ (.slice o0 x.length c0) = WL at *
  have FB : Hid (Below w.heap.size w (WL.setCell ⟨B + 1, 0, none⟩ (.slice o0 x.length c0))) := (C0.out.setCell (show w.heap.size ≤ B + 1 by omega) _)
  have FF0 : Hid (Fresh w.heap.size (WL.setCell ⟨B + 1, 0, none⟩ (.slice o0 x.length c0)) (fun W => RowC 4 SymE W (.slice o0 x.length c0) x ∧ ShK tau Bx (.row 66) W (.slice o0 x.length c0) ((x.map cntSym).sum))) := Fresh.base ((G0_0.out.setLow (by omega) _ _)) (show w.heap.size ≤ B + 3 by omega)
  have rp : (WL.setCell ⟨B + 1, 0, none⟩ (.slice o0 x.length c0)).heap[B + 1]? = some (.cells #[.slice o0 x.length c0] 63) := block_set P1.out
  have rr0 : (WL.setCell ⟨B + 1, 0, none⟩ (.slice o0 x.length c0)).cell? ⟨B + 1, 0, none⟩ = some (.slice o0 x.length c0) := cell_block rp rfl
  clear rp P1 v0
  generalize WL.setCell ⟨B + 1, 0, none⟩ (.slice o0 x.length c0) = W9 at *
  (try simp only [Exit.inBlock, Exit.then])
  refine bodyPost_ret (by simp [results, Tryz.results55, go_sem, rr0]; try rfl) rfl ?_
  exact ⟨_, _, rfl, FF0.out, FB.out⟩

set_option maxHeartbeats 3200000 in
set_option maxRecDepth 100000 in
theorem gtsAltS (Bx : Nat) (v : Value) (xs : List (List SymD)) (w : World) (hBx : Bx ≤ w.heap.size) (hz : rowTot altTot xs ≤ 1048576) (h : RowC 1 AltE w v xs) :
    Calls Tryz.prog 40 #[v] w fun e w' => ∃ a c, e = .returned (.slice a xs.length c) ∧ Fresh w.heap.size w' (fun W => RowC 1 AltE W (.slice a xs.length c) xs ∧ ShK tau Bx (.row 63) W (.slice a xs.length c) ((xs.map cntAlt).sum)) ∧ Below w.heap.size w w' := by
  obtain ⟨i0, hi, hz0, hz1, hz2⟩ := info_parts Tryz.infoAlt
  have hn := rowTot_len altTot xs
  have HR : Hid (RowC 1 AltE w v xs) := h
  obtain ⟨a, cap, rfl⟩ := h.slice
  clear h
  go_enter Tryz.func40, Tryz.ntmps40
  go_wp2_with (at_make; refine wpList_make_full _ rfl _ _ 41 rfl w.heap.size 63 i0 _ 1 Tryz.underlying41 hi hz0 hz1 .i64 .i64 _ _ xs.length rfl rfl rfl rfl (by rw [hz2]; omega) (by unfold maxLen; omega) (Nat.le_refl _) ?_; intro w1 hown hg1)
  have HO : Hid (RowTo 1 (WithS tau Bx 63 AltE cntAlt) 63 w.heap.size w.heap.size xs 0 w1) := rowTo_start hown
  have HB1 : Hid (Below w.heap.size w w1) := (Below.refl _ _).grown hg1 (Nat.le_refl _) (fun k h => by cases h)
  clear hown hg1
  go_loopw [4] (fun iv wr => ∃ k : Nat, iv = .int .i64 k ∧ k ≤ xs.length ∧ RowTo 1 (WithS tau Bx 63 AltE cntAlt) 63 w.heap.size w.heap.size xs k wr ∧ Below w.heap.size w wr) (fun iv _ => xs.length - (intOf iv).toNat)
  case atStart => exact ⟨0, rfl, Nat.zero_le _, HO.out, HB1.out⟩
  case round =>
    obtain ⟨k, rfl, hk, hrow, hb⟩ := hrel
    have HW : Hid (RowTo 1 (WithS tau Bx 63 AltE cntAlt) 63 w.heap.size w.heap.size xs k wr) := hrow
    have HB : Hid (Below w.heap.size w wr) := hb
    have HRr : Hid (RowC 1 AltE wr (.slice a xs.length cap) xs) := RowC.below AltE_stable HR.out hb
    have hgt : w.heap.size + 1 ≤ wr.heap.size := by
      obtain ⟨cs, ho⟩ := hrow.own
      exact (World.ownsRow.lt ho w.heap.size rfl).2
    clear hb hrow HO HB1
    by_cases hlt : k < xs.length
    · obtain ⟨b, off, vs, rfl, _, hc, hE⟩ := HRr.out.at hlt
      obtain ⟨r0, rfl, hh0⟩ := hE
      have n0 : wr.cell? ⟨b, off + k, none⟩ = some (r0) := by have h := hc 0 (by simp); rw [Nat.mul_one] at h; exact h
      have HT : Hid (∀ W, Below wr.heap.size wr W → _) := fun W hW => gtsAlt Bx r0 xs[k] W (by have := hW.size; omega) (by have := rowTot_mem altTot (List.getElem_mem hlt); omega) (RowC.below SymE_stable hh0 hW)
      obtain ⟨aa0, ca0, rfl⟩ := hh0.slice
      clear hc hh0
      go_wp2_with fail
      refine (HT.out _ (Below.refl _ _)).mono ?_
      rintro e w2 ⟨o0, c0, rfl, f0, hb2⟩
      have HB2 : Hid (Below w.heap.size w w2) := HB.out.trans (hb2.mono HB.out.size)
      have HW2 : Hid (RowTo 1 (WithS tau Bx 63 AltE cntAlt) 63 w.heap.size w.heap.size xs k w2) := HW.out.below hb2
      have HE2 : Hid (Fresh (w.heap.size + 1) w2 (fun W => WithS tau Bx 63 AltE cntAlt W [.slice o0 xs[k].length c0] xs[k])) := fun W h1 h2 => withAlt ((f0.base hgt) W h1 h2).1 ((f0.base hgt) W h1 h2).2
      obtain ⟨cs, O2⟩ := HW2.out.own
      obtain ⟨d0, hd0, hf0⟩ := own_cell O2 (k) (by omega)
      clear O2 hb2 HT HW f0
      go_wp2
      have HN : Hid (RowTo 1 (WithS tau Bx 63 AltE cntAlt) 63 w.heap.size w.heap.size xs (k + 1) (setsW w2 w.heap.size (k * 1) [.slice o0 xs[k].length c0])) := HW2.out.next hlt rfl HE2.out
      have HB3 : Hid (Below w.heap.size w (setsW w2 w.heap.size (k * 1) [.slice o0 xs[k].length c0])) := setsW_below HB2.out (Nat.le_refl _) _ _
      simp only [Nat.mul_one] at HN HB3
      go_roundw
      case rel => exact ⟨k + 1, by go_num, by omega, HN.out, HB3.out⟩
      case measure => simp [intOf]; omega
    · obtain rfl : k = xs.length := by omega
      have HF : Hid (Fresh w.heap.size wr (fun W => RowC 1 AltE W (.slice (some ⟨w.heap.size, 0, none⟩) xs.length xs.length) xs ∧ ShK tau Bx (.row 63) W (.slice (some ⟨w.heap.size, 0, none⟩) xs.length xs.length) ((xs.map cntAlt).sum))) := RowTo.done2 rfl hBx HW.out
      clear HW
      go_wp2
      go_ret
      exact ⟨_, _, rfl, HF.out, HB.out⟩

set_option maxHeartbeats 3200000 in
set_option maxRecDepth 100000 in
theorem gtsRule (Bx : Nat) (r0 r1 : Value) (x : RuleD) (w : World) (hBx : Bx ≤ w.heap.size) (hz : ruleTot x ≤ 1048576) (hh0 : SRow w r0 x.params) (hh1 : RowC 1 AltE w r1 x.alts) :
    Calls Tryz.prog 26 #[.agg #[.string x.name, r0, r1]] w fun e w' => ∃ o0 c0 o1 c1, e = .returned (.agg #[.string x.name, .slice o0 x.params.length c0, .slice o1 x.alts.length c1]) ∧ Fresh w.heap.size w' (fun W => SRow W (.slice o0 x.params.length c0) x.params ∧ ShK tau Bx (.row 9) W (.slice o0 x.params.length c0) x.params.length) ∧ Fresh w.heap.size w' (fun W => RowC 1 AltE W (.slice o1 x.alts.length c1) x.alts ∧ ShK tau Bx (.row 63) W (.slice o1 x.alts.length c1) ((x.alts.map cntAlt).sum)) ∧ Below w.heap.size w w' := by
  have HTt : ruleTot x = x.name.size + rowTot ByteArray.size x.params + rowTot altTot x.alts := rfl
  have R0 : Hid (SRow w r0 x.params) := hh0
  obtain ⟨aa0, ca0, rfl⟩ := hh0.slice
  have hz0 : rowTot ByteArray.size x.params ≤ 1048576 := by omega
  have R1 : Hid (RowC 1 AltE w r1 x.alts) := hh1
  obtain ⟨aa1, ca1, rfl⟩ := hh1.slice
  have hz1 : rowTot altTot x.alts ≤ 1048576 := by omega
  clear HTt hz hh0 hh1
  obtain ⟨B, hB⟩ : ∃ B, w.heap.size = B := ⟨_, rfl⟩
  go_enter Tryz.func26, Tryz.ntmps26
  go_wp2_with fail
  obtain ⟨k0, k1, k2⟩ := box_three w #[.string x.name, .slice aa0 x.params.length ca0, .slice aa1 x.alts.length ca1] #[.string ⟨#[]⟩, .slice none 0 0, .slice none 0 0] #[.string x.name, .slice none 0 0, .slice none 0 0] 57 43 hB
  have P0 : Hid ((((w.alloc (.cells #[.string x.name, .slice aa0 x.params.length ca0, .slice aa1 x.alts.length ca1] 57)).alloc (.cells #[.string ⟨#[]⟩, .slice none 0 0, .slice none 0 0] 43)).alloc (.cells #[.string x.name, .slice none 0 0, .slice none 0 0] 43)).heap[B]? = some (.cells #[.string x.name, .slice aa0 x.params.length ca0, .slice aa1 x.alts.length ca1] 57)) := k0
  have P1 : Hid ((((w.alloc (.cells #[.string x.name, .slice aa0 x.params.length ca0, .slice aa1 x.alts.length ca1] 57)).alloc (.cells #[.string ⟨#[]⟩, .slice none 0 0, .slice none 0 0] 43)).alloc (.cells #[.string x.name, .slice none 0 0, .slice none 0 0] 43)).heap[B + 1]? = some (.cells #[.string ⟨#[]⟩, .slice none 0 0, .slice none 0 0] 43)) := k1
  have P2 : Hid ((((w.alloc (.cells #[.string x.name, .slice aa0 x.params.length ca0, .slice aa1 x.alts.length ca1] 57)).alloc (.cells #[.string ⟨#[]⟩, .slice none 0 0, .slice none 0 0] 43)).alloc (.cells #[.string x.name, .slice none 0 0, .slice none 0 0] 43)).heap[B + 2]? = some (.cells #[.string x.name, .slice none 0 0, .slice none 0 0] 43)) := k2
  have BW : Hid (Below w.heap.size w (((w.alloc (.cells #[.string x.name, .slice aa0 x.params.length ca0, .slice aa1 x.alts.length ca1] 57)).alloc (.cells #[.string ⟨#[]⟩, .slice none 0 0, .slice none 0 0] 43)).alloc (.cells #[.string x.name, .slice none 0 0, .slice none 0 0] 43))) := (((Below.refl _ _).alloc (Nat.le_refl _) _).alloc (by simp) _).alloc (by simp; omega) _
  have hsz : B + 3 ≤ (((w.alloc (.cells #[.string x.name, .slice aa0 x.params.length ca0, .slice aa1 x.alts.length ca1] 57)).alloc (.cells #[.string ⟨#[]⟩, .slice none 0 0, .slice none 0 0] 43)).alloc (.cells #[.string x.name, .slice none 0 0, .slice none 0 0] 43)).heap.size := by simp [hB]
  clear k0 k1 k2
  generalize ((w.alloc (.cells #[.string x.name, .slice aa0 x.params.length ca0, .slice aa1 x.alts.length ca1] 57)).alloc (.cells #[.string ⟨#[]⟩, .slice none 0 0, .slice none 0 0] 43)).alloc (.cells #[.string x.name, .slice none 0 0, .slice none 0 0] 43) = W0 at *
  refine (gtsStringS Bx _ x.params W0 (by omega) hz0 (R0.out.below BW.out)).mono ?_
  rintro e w0 ⟨o0, c0, rfl, f0, hb0⟩
  have B0 : Hid (Below w.heap.size w w0) := BW.out.trans (hb0.mono BW.out.size)
  have F0_0 : Hid (Fresh (B + 3) w0 (fun W => SRow W (.slice o0 x.params.length c0) x.params ∧ ShK tau Bx (.row 9) W (.slice o0 x.params.length c0) x.params.length)) := f0.base hsz
  have q00_0 : Hid (w0.heap[B]? = some (.cells #[.string x.name, .slice aa0 x.params.length ca0, .slice aa1 x.alts.length ca1] 57)) := (hb0.block B (by omega)).trans P0.out
  have q01_0 : Hid (w0.heap[B + 1]? = some (.cells #[.string ⟨#[]⟩, .slice none 0 0, .slice none 0 0] 43)) := (hb0.block (B + 1) (by omega)).trans P1.out
  have q02_0 : Hid (w0.heap[B + 2]? = some (.cells #[.string x.name, .slice none 0 0, .slice none 0 0] 43)) := (hb0.block (B + 2) (by omega)).trans P2.out
  have hsz0 : B + 3 ≤ w0.heap.size := Nat.le_trans hsz hb0.size
  clear P0 P1 P2 f0 hb0 hsz BW
  have y0_1 : (w0).cell? ⟨B + 1 + 1, 1, none⟩ = some (.slice none 0 0) := cell_block (b := B + 2) q02_0.out rfl
  have g0_1 : (w0).frozen? ⟨B + 1 + 1, 1, none⟩ = false := frozen_block (b := B + 2) q02_0.out
  have q00_1 : Hid ((w0.setCell ⟨B + 1 + 1, 1, none⟩ (.slice o0 x.params.length c0)).heap[B]? = some (.cells #[.string x.name, .slice aa0 x.params.length ca0, .slice aa1 x.alts.length ca1] 57)) := (block_other (b := B) (b' := B + 1 + 1) (by omega)).trans q00_0.out
  have q01_1 : Hid ((w0.setCell ⟨B + 1 + 1, 1, none⟩ (.slice o0 x.params.length c0)).heap[B + 1]? = some (.cells #[.string ⟨#[]⟩, .slice none 0 0, .slice none 0 0] 43)) := (block_other (b := B + 1) (b' := B + 1 + 1) (by omega)).trans q01_0.out
  have q02_1 : Hid ((w0.setCell ⟨B + 1 + 1, 1, none⟩ (.slice o0 x.params.length c0)).heap[B + 2]? = some (.cells #[.string x.name, .slice o0 x.params.length c0, .slice none 0 0] 43)) := block_set (b := B + 2) q02_0.out
  have C0 : Hid (Below w.heap.size w (w0.setCell ⟨B + 1 + 1, 1, none⟩ (.slice o0 x.params.length c0))) := (B0.out.setCell (show w.heap.size ≤ B + 1 + 1 by omega) _)
  have G0_0 : Hid (Fresh (B + 3) (w0.setCell ⟨B + 1 + 1, 1, none⟩ (.slice o0 x.params.length c0)) (fun W => SRow W (.slice o0 x.params.length c0) x.params ∧ ShK tau Bx (.row 9) W (.slice o0 x.params.length c0) x.params.length)) := (F0_0.out.setLow (by omega) _ _)
  have v0 : B + 3 ≤ (w0.setCell ⟨B + 1 + 1, 1, none⟩ (.slice o0 x.params.length c0)).heap.size := by simpa using hsz0
  have a0_2 : (w0.setCell ⟨B + 1 + 1, 1, none⟩ (.slice o0 x.params.length c0)).cell? ⟨B, 2, none⟩ = some (.slice aa1 x.alts.length ca1) := cell_block q00_1.out rfl
  go_wp2_with fail
  clear a0_2 y0_1 g0_1
  have P0 : Hid ((w0.setCell ⟨B + 1 + 1, 1, none⟩ (.slice o0 x.params.length c0)).heap[B]? = some (.cells #[.string x.name, .slice aa0 x.params.length ca0, .slice aa1 x.alts.length ca1] 57)) := q00_1.out
  have P1 : Hid ((w0.setCell ⟨B + 1 + 1, 1, none⟩ (.slice o0 x.params.length c0)).heap[B + 1]? = some (.cells #[.string ⟨#[]⟩, .slice none 0 0, .slice none 0 0] 43)) := q01_1.out
  have P2 : Hid ((w0.setCell ⟨B + 1 + 1, 1, none⟩ (.slice o0 x.params.length c0)).heap[B + 2]? = some (.cells #[.string x.name, .slice o0 x.params.length c0, .slice none 0 0] 43)) := q02_1.out
  clear q00_0 q00_1 q01_0 q01_1 q02_0 q02_1
  have hsz := v0
  clear v0
  generalize w0.setCell ⟨B + 1 + 1, 1, none⟩ (.slice o0 x.params.length c0) = W1 at *
  refine (gtsAltS Bx _ x.alts W1 (by omega) hz1 (RowC.below AltE_stable R1.out C0.out)).mono ?_
  rintro e w1 ⟨o1, c1, rfl, f1, hb1⟩
  have B1 : Hid (Below w.heap.size w w1) := C0.out.trans (hb1.mono C0.out.size)
  have F1_1 : Hid (Fresh (B + 3) w1 (fun W => RowC 1 AltE W (.slice o1 x.alts.length c1) x.alts ∧ ShK tau Bx (.row 63) W (.slice o1 x.alts.length c1) ((x.alts.map cntAlt).sum))) := f1.base hsz
  have F1_0 : Hid (Fresh (B + 3) w1 (fun W => SRow W (.slice o0 x.params.length c0) x.params ∧ ShK tau Bx (.row 9) W (.slice o0 x.params.length c0) x.params.length)) := G0_0.out.below hb1
  have q10_0 : Hid (w1.heap[B]? = some (.cells #[.string x.name, .slice aa0 x.params.length ca0, .slice aa1 x.alts.length ca1] 57)) := (hb1.block B (by omega)).trans P0.out
  have q11_0 : Hid (w1.heap[B + 1]? = some (.cells #[.string ⟨#[]⟩, .slice none 0 0, .slice none 0 0] 43)) := (hb1.block (B + 1) (by omega)).trans P1.out
  have q12_0 : Hid (w1.heap[B + 2]? = some (.cells #[.string x.name, .slice o0 x.params.length c0, .slice none 0 0] 43)) := (hb1.block (B + 2) (by omega)).trans P2.out
  have hsz1 : B + 3 ≤ w1.heap.size := Nat.le_trans hsz hb1.size
  clear P0 P1 P2 f1 hb1 hsz
  have y1_2 : (w1).cell? ⟨B + 1 + 1, 2, none⟩ = some (.slice none 0 0) := cell_block (b := B + 2) q12_0.out rfl
  have g1_2 : (w1).frozen? ⟨B + 1 + 1, 2, none⟩ = false := frozen_block (b := B + 2) q12_0.out
  have q10_1 : Hid ((w1.setCell ⟨B + 1 + 1, 2, none⟩ (.slice o1 x.alts.length c1)).heap[B]? = some (.cells #[.string x.name, .slice aa0 x.params.length ca0, .slice aa1 x.alts.length ca1] 57)) := (block_other (b := B) (b' := B + 1 + 1) (by omega)).trans q10_0.out
  have q11_1 : Hid ((w1.setCell ⟨B + 1 + 1, 2, none⟩ (.slice o1 x.alts.length c1)).heap[B + 1]? = some (.cells #[.string ⟨#[]⟩, .slice none 0 0, .slice none 0 0] 43)) := (block_other (b := B + 1) (b' := B + 1 + 1) (by omega)).trans q11_0.out
  have q12_1 : Hid ((w1.setCell ⟨B + 1 + 1, 2, none⟩ (.slice o1 x.alts.length c1)).heap[B + 2]? = some (.cells #[.string x.name, .slice o0 x.params.length c0, .slice o1 x.alts.length c1] 43)) := block_set (b := B + 2) q12_0.out
  have C1 : Hid (Below w.heap.size w (w1.setCell ⟨B + 1 + 1, 2, none⟩ (.slice o1 x.alts.length c1))) := (B1.out.setCell (show w.heap.size ≤ B + 1 + 1 by omega) _)
  have G1_0 : Hid (Fresh (B + 3) (w1.setCell ⟨B + 1 + 1, 2, none⟩ (.slice o1 x.alts.length c1)) (fun W => SRow W (.slice o0 x.params.length c0) x.params ∧ ShK tau Bx (.row 9) W (.slice o0 x.params.length c0) x.params.length)) := (F1_0.out.setLow (by omega) _ _)
  have G1_1 : Hid (Fresh (B + 3) (w1.setCell ⟨B + 1 + 1, 2, none⟩ (.slice o1 x.alts.length c1)) (fun W => RowC 1 AltE W (.slice o1 x.alts.length c1) x.alts ∧ ShK tau Bx (.row 63) W (.slice o1 x.alts.length c1) ((x.alts.map cntAlt).sum))) := (F1_1.out.setLow (by omega) _ _)
  have v1 : B + 3 ≤ (w1.setCell ⟨B + 1 + 1, 2, none⟩ (.slice o1 x.alts.length c1)).heap.size := by simpa using hsz1
  have y9_0 : (w1.setCell ⟨B + 1 + 1, 2, none⟩ (.slice o1 x.alts.length c1)).cell? ⟨B + 1 + 1, 0, none⟩ = some (.string x.name) := cell_block (b := B + 2) q12_1.out rfl
  have z9_0 : (w1.setCell ⟨B + 1 + 1, 2, none⟩ (.slice o1 x.alts.length c1)).cell? ⟨B + 1, 0, none⟩ = some (.string ⟨#[]⟩) := cell_block q11_1.out rfl
  have g9_0 : (w1.setCell ⟨B + 1 + 1, 2, none⟩ (.slice o1 x.alts.length c1)).frozen? ⟨B + 1, 0, none⟩ = false := frozen_block q11_1.out
  have y9_1 : (w1.setCell ⟨B + 1 + 1, 2, none⟩ (.slice o1 x.alts.length c1)).cell? ⟨B + 1 + 1, 1, none⟩ = some (.slice o0 x.params.length c0) := cell_block (b := B + 2) q12_1.out rfl
  have z9_1 : (w1.setCell ⟨B + 1 + 1, 2, none⟩ (.slice o1 x.alts.length c1)).cell? ⟨B + 1, 1, none⟩ = some (.slice none 0 0) := cell_block q11_1.out rfl
  have g9_1 : (w1.setCell ⟨B + 1 + 1, 2, none⟩ (.slice o1 x.alts.length c1)).frozen? ⟨B + 1, 1, none⟩ = false := frozen_block q11_1.out
  have y9_2 : (w1.setCell ⟨B + 1 + 1, 2, none⟩ (.slice o1 x.alts.length c1)).cell? ⟨B + 1 + 1, 2, none⟩ = some (.slice o1 x.alts.length c1) := cell_block (b := B + 2) q12_1.out rfl
  have z9_2 : (w1.setCell ⟨B + 1 + 1, 2, none⟩ (.slice o1 x.alts.length c1)).cell? ⟨B + 1, 2, none⟩ = some (.slice none 0 0) := cell_block q11_1.out rfl
  have g9_2 : (w1.setCell ⟨B + 1 + 1, 2, none⟩ (.slice o1 x.alts.length c1)).frozen? ⟨B + 1, 2, none⟩ = false := frozen_block q11_1.out
  go_wp2
  have P1 : Hid ((w1.setCell ⟨B + 1 + 1, 2, none⟩ (.slice o1 x.alts.length c1)).heap[B + 1]? = some (.cells #[.string ⟨#[]⟩, .slice none 0 0, .slice none 0 0] 43)) := q11_1.out
  clear y1_2 g1_2 y9_0 z9_0 g9_0 y9_1 z9_1 g9_1 y9_2 z9_2 g9_2 q10_0 q10_1 q11_0 q11_1 q12_0 q12_1
  generalize w1.setCell ⟨B + 1 + 1, 2, none⟩ (.slice o1 x.alts.length c1) = WL at *
  have FB : Hid (Below w.heap.size w (((WL.setCell ⟨B + 1, 0, none⟩ (.string x.name)).setCell ⟨B + 1, 1, none⟩ (.slice o0 x.params.length c0)).setCell ⟨B + 1, 2, none⟩ (.slice o1 x.alts.length c1))) := (((C1.out.setCell (show w.heap.size ≤ B + 1 by omega) _).setCell (show w.heap.size ≤ B + 1 by omega) _).setCell (show w.heap.size ≤ B + 1 by omega) _)
  have FF0 : Hid (Fresh w.heap.size (((WL.setCell ⟨B + 1, 0, none⟩ (.string x.name)).setCell ⟨B + 1, 1, none⟩ (.slice o0 x.params.length c0)).setCell ⟨B + 1, 2, none⟩ (.slice o1 x.alts.length c1)) (fun W => SRow W (.slice o0 x.params.length c0) x.params ∧ ShK tau Bx (.row 9) W (.slice o0 x.params.length c0) x.params.length)) := Fresh.base ((((G1_0.out.setLow (by omega) _ _).setLow (by omega) _ _).setLow (by omega) _ _)) (show w.heap.size ≤ B + 3 by omega)
  have FF1 : Hid (Fresh w.heap.size (((WL.setCell ⟨B + 1, 0, none⟩ (.string x.name)).setCell ⟨B + 1, 1, none⟩ (.slice o0 x.params.length c0)).setCell ⟨B + 1, 2, none⟩ (.slice o1 x.alts.length c1)) (fun W => RowC 1 AltE W (.slice o1 x.alts.length c1) x.alts ∧ ShK tau Bx (.row 63) W (.slice o1 x.alts.length c1) ((x.alts.map cntAlt).sum))) := Fresh.base ((((G1_1.out.setLow (by omega) _ _).setLow (by omega) _ _).setLow (by omega) _ _)) (show w.heap.size ≤ B + 3 by omega)
  have rp : (((WL.setCell ⟨B + 1, 0, none⟩ (.string x.name)).setCell ⟨B + 1, 1, none⟩ (.slice o0 x.params.length c0)).setCell ⟨B + 1, 2, none⟩ (.slice o1 x.alts.length c1)).heap[B + 1]? = some (.cells #[.string x.name, .slice o0 x.params.length c0, .slice o1 x.alts.length c1] 43) := block_set (block_set (block_set P1.out))
  have rr0 : (((WL.setCell ⟨B + 1, 0, none⟩ (.string x.name)).setCell ⟨B + 1, 1, none⟩ (.slice o0 x.params.length c0)).setCell ⟨B + 1, 2, none⟩ (.slice o1 x.alts.length c1)).cell? ⟨B + 1, 0, none⟩ = some (.string x.name) := cell_block rp rfl
  have rr1 : (((WL.setCell ⟨B + 1, 0, none⟩ (.string x.name)).setCell ⟨B + 1, 1, none⟩ (.slice o0 x.params.length c0)).setCell ⟨B + 1, 2, none⟩ (.slice o1 x.alts.length c1)).cell? ⟨B + 1, 1, none⟩ = some (.slice o0 x.params.length c0) := cell_block rp rfl
  have rr2 : (((WL.setCell ⟨B + 1, 0, none⟩ (.string x.name)).setCell ⟨B + 1, 1, none⟩ (.slice o0 x.params.length c0)).setCell ⟨B + 1, 2, none⟩ (.slice o1 x.alts.length c1)).cell? ⟨B + 1, 2, none⟩ = some (.slice o1 x.alts.length c1) := cell_block rp rfl
  clear rp P1 v1
  generalize ((WL.setCell ⟨B + 1, 0, none⟩ (.string x.name)).setCell ⟨B + 1, 1, none⟩ (.slice o0 x.params.length c0)).setCell ⟨B + 1, 2, none⟩ (.slice o1 x.alts.length c1) = W9 at *
  (try simp only [Exit.inBlock, Exit.then])
  refine bodyPost_ret (by simp [results, Tryz.results26, go_sem, rr0, rr1, rr2]; try rfl) rfl ?_
  exact ⟨_, _, _, _, rfl, FF0.out, FF1.out, FB.out⟩

set_option maxHeartbeats 3200000 in
set_option maxRecDepth 100000 in
theorem gtsRuleS (Bx : Nat) (v : Value) (xs : List (RuleD)) (w : World) (hBx : Bx ≤ w.heap.size) (hz : rowTot ruleTot xs ≤ 1048576) (h : RowC 3 RuleE w v xs) :
    Calls Tryz.prog 16 #[v] w fun e w' => ∃ a c, e = .returned (.slice a xs.length c) ∧ Fresh w.heap.size w' (fun W => RowC 3 RuleE W (.slice a xs.length c) xs ∧ ShK tau Bx (.row 43) W (.slice a xs.length c) ((xs.map cntRule).sum)) ∧ Below w.heap.size w w' := by
  obtain ⟨i0, hi, hz0, hz1, hz2⟩ := info_parts Tryz.infoRule
  have hn := rowTot_len ruleTot xs
  have HR : Hid (RowC 3 RuleE w v xs) := h
  obtain ⟨a, cap, rfl⟩ := h.slice
  clear h
  go_enter Tryz.func16, Tryz.ntmps16
  go_wp2_with (at_make; refine wpList_make_full _ rfl _ _ 28 rfl w.heap.size 43 i0 _ 3 Tryz.underlying28 hi hz0 hz1 .i64 .i64 _ _ xs.length rfl rfl rfl rfl (by rw [hz2]; omega) (by unfold maxLen; omega) (Nat.le_refl _) ?_; intro w1 hown hg1)
  have HO : Hid (RowTo 3 (WithS tau Bx 43 RuleE cntRule) 43 w.heap.size w.heap.size xs 0 w1) := rowTo_start hown
  have HB1 : Hid (Below w.heap.size w w1) := (Below.refl _ _).grown hg1 (Nat.le_refl _) (fun k h => by cases h)
  clear hown hg1
  go_loopw [4] (fun iv wr => ∃ k : Nat, iv = .int .i64 k ∧ k ≤ xs.length ∧ RowTo 3 (WithS tau Bx 43 RuleE cntRule) 43 w.heap.size w.heap.size xs k wr ∧ Below w.heap.size w wr) (fun iv _ => xs.length - (intOf iv).toNat)
  case atStart => exact ⟨0, rfl, Nat.zero_le _, HO.out, HB1.out⟩
  case round =>
    obtain ⟨k, rfl, hk, hrow, hb⟩ := hrel
    have HW : Hid (RowTo 3 (WithS tau Bx 43 RuleE cntRule) 43 w.heap.size w.heap.size xs k wr) := hrow
    have HB : Hid (Below w.heap.size w wr) := hb
    have HRr : Hid (RowC 3 RuleE wr (.slice a xs.length cap) xs) := RowC.below RuleE_stable HR.out hb
    have hgt : w.heap.size + 1 ≤ wr.heap.size := by
      obtain ⟨cs, ho⟩ := hrow.own
      exact (World.ownsRow.lt ho w.heap.size rfl).2
    clear hb hrow HO HB1
    by_cases hlt : k < xs.length
    · obtain ⟨b, off, vs, rfl, _, hc, hE⟩ := HRr.out.at hlt
      obtain ⟨r0, r1, rfl, hh0, hh1⟩ := hE
      have n0 : wr.cell? ⟨b, off + k * 3, none⟩ = some (.string xs[k].name) := hc 0 (by simp)
      have n1 : wr.cell? ⟨b, off + k * 3 + 1, none⟩ = some (r0) := hc 1 (by simp)
      have n2 : wr.cell? ⟨b, off + k * 3 + 2, none⟩ = some (r1) := hc 2 (by simp)
      have HT : Hid (∀ W, Below wr.heap.size wr W → _) := fun W hW => gtsRule Bx r0 r1 xs[k] W (by have := hW.size; omega) (by have := rowTot_mem ruleTot (List.getElem_mem hlt); omega) (hh0.below hW) (RowC.below AltE_stable hh1 hW)
      obtain ⟨aa0, ca0, rfl⟩ := hh0.slice
      obtain ⟨aa1, ca1, rfl⟩ := hh1.slice
      clear hc hh0 hh1
      go_wp2_with fail
      refine (HT.out _ (Below.refl _ _)).mono ?_
      rintro e w2 ⟨o0, c0, o1, c1, rfl, f0, f1, hb2⟩
      have HB2 : Hid (Below w.heap.size w w2) := HB.out.trans (hb2.mono HB.out.size)
      have HW2 : Hid (RowTo 3 (WithS tau Bx 43 RuleE cntRule) 43 w.heap.size w.heap.size xs k w2) := HW.out.below hb2
      have HE2 : Hid (Fresh (w.heap.size + 1) w2 (fun W => WithS tau Bx 43 RuleE cntRule W [.string xs[k].name, .slice o0 xs[k].params.length c0, .slice o1 xs[k].alts.length c1] xs[k])) := fun W h1 h2 => withRule ((f0.base hgt) W h1 h2).1 ((f0.base hgt) W h1 h2).2 ((f1.base hgt) W h1 h2).1 ((f1.base hgt) W h1 h2).2
      obtain ⟨cs, O2⟩ := HW2.out.own
      obtain ⟨d0, hd0, hf0⟩ := own_cell O2 (k * 3) (by omega)
      obtain ⟨d1, hd1, hf1⟩ := own_cell O2 (k * 3 + 1) (by omega)
      obtain ⟨d2, hd2, hf2⟩ := own_cell O2 (k * 3 + 2) (by omega)
      clear O2 hb2 HT HW f0 f1
      go_wp2
      have HN : Hid (RowTo 3 (WithS tau Bx 43 RuleE cntRule) 43 w.heap.size w.heap.size xs (k + 1) (setsW w2 w.heap.size (k * 3) [.string xs[k].name, .slice o0 xs[k].params.length c0, .slice o1 xs[k].alts.length c1])) := HW2.out.next hlt rfl HE2.out
      have HB3 : Hid (Below w.heap.size w (setsW w2 w.heap.size (k * 3) [.string xs[k].name, .slice o0 xs[k].params.length c0, .slice o1 xs[k].alts.length c1])) := setsW_below HB2.out (Nat.le_refl _) _ _
      skip
      go_roundw
      case rel => exact ⟨k + 1, by go_num, by omega, HN.out, HB3.out⟩
      case measure => simp [intOf]; omega
    · obtain rfl : k = xs.length := by omega
      have HF : Hid (Fresh w.heap.size wr (fun W => RowC 3 RuleE W (.slice (some ⟨w.heap.size, 0, none⟩) xs.length xs.length) xs ∧ ShK tau Bx (.row 43) W (.slice (some ⟨w.heap.size, 0, none⟩) xs.length xs.length) ((xs.map cntRule).sum))) := RowTo.done2 rfl hBx HW.out
      clear HW
      go_wp2
      go_ret
      exact ⟨_, _, rfl, HF.out, HB.out⟩

set_option maxHeartbeats 3200000 in
set_option maxRecDepth 100000 in
theorem gtsGrammar (Bx : Nat) (r0 : Value) (x : List RuleD) (w : World) (hBx : Bx ≤ w.heap.size) (hz : grammarTot x ≤ 1048576) (hh0 : RowC 3 RuleE w r0 x) :
    Calls Tryz.prog 6 #[.agg #[r0]] w fun e w' => ∃ o0 c0, e = .returned (.agg #[.slice o0 x.length c0]) ∧ Fresh w.heap.size w' (fun W => RowC 3 RuleE W (.slice o0 x.length c0) x ∧ ShK tau Bx (.row 43) W (.slice o0 x.length c0) ((x.map cntRule).sum)) ∧ Below w.heap.size w w' := by
  have HTt : grammarTot x = rowTot ruleTot x := rfl
  have R0 : Hid (RowC 3 RuleE w r0 x) := hh0
  obtain ⟨aa0, ca0, rfl⟩ := hh0.slice
  have hz0 : rowTot ruleTot x ≤ 1048576 := by omega
  clear HTt hz hh0
  obtain ⟨B, hB⟩ : ∃ B, w.heap.size = B := ⟨_, rfl⟩
  go_enter Tryz.func6, Tryz.ntmps6
  go_wp2_with fail
  obtain ⟨k0, k1, k2⟩ := box_three w #[.slice aa0 x.length ca0] #[.slice none 0 0] #[.slice none 0 0] 24 30 hB
  have P0 : Hid ((((w.alloc (.cells #[.slice aa0 x.length ca0] 24)).alloc (.cells #[.slice none 0 0] 30)).alloc (.cells #[.slice none 0 0] 30)).heap[B]? = some (.cells #[.slice aa0 x.length ca0] 24)) := k0
  have P1 : Hid ((((w.alloc (.cells #[.slice aa0 x.length ca0] 24)).alloc (.cells #[.slice none 0 0] 30)).alloc (.cells #[.slice none 0 0] 30)).heap[B + 1]? = some (.cells #[.slice none 0 0] 30)) := k1
  have P2 : Hid ((((w.alloc (.cells #[.slice aa0 x.length ca0] 24)).alloc (.cells #[.slice none 0 0] 30)).alloc (.cells #[.slice none 0 0] 30)).heap[B + 2]? = some (.cells #[.slice none 0 0] 30)) := k2
  have BW : Hid (Below w.heap.size w (((w.alloc (.cells #[.slice aa0 x.length ca0] 24)).alloc (.cells #[.slice none 0 0] 30)).alloc (.cells #[.slice none 0 0] 30))) := (((Below.refl _ _).alloc (Nat.le_refl _) _).alloc (by simp) _).alloc (by simp; omega) _
  have hsz : B + 3 ≤ (((w.alloc (.cells #[.slice aa0 x.length ca0] 24)).alloc (.cells #[.slice none 0 0] 30)).alloc (.cells #[.slice none 0 0] 30)).heap.size := by simp [hB]
  clear k0 k1 k2
  generalize ((w.alloc (.cells #[.slice aa0 x.length ca0] 24)).alloc (.cells #[.slice none 0 0] 30)).alloc (.cells #[.slice none 0 0] 30) = W0 at *
  refine (gtsRuleS Bx _ x W0 (by omega) hz0 (RowC.below RuleE_stable R0.out BW.out)).mono ?_
  rintro e w0 ⟨o0, c0, rfl, f0, hb0⟩
  have B0 : Hid (Below w.heap.size w w0) := BW.out.trans (hb0.mono BW.out.size)
  have F0_0 : Hid (Fresh (B + 3) w0 (fun W => RowC 3 RuleE W (.slice o0 x.length c0) x ∧ ShK tau Bx (.row 43) W (.slice o0 x.length c0) ((x.map cntRule).sum))) := f0.base hsz
  have q00_0 : Hid (w0.heap[B]? = some (.cells #[.slice aa0 x.length ca0] 24)) := (hb0.block B (by omega)).trans P0.out
  have q01_0 : Hid (w0.heap[B + 1]? = some (.cells #[.slice none 0 0] 30)) := (hb0.block (B + 1) (by omega)).trans P1.out
  have q02_0 : Hid (w0.heap[B + 2]? = some (.cells #[.slice none 0 0] 30)) := (hb0.block (B + 2) (by omega)).trans P2.out
  have hsz0 : B + 3 ≤ w0.heap.size := Nat.le_trans hsz hb0.size
  clear P0 P1 P2 f0 hb0 hsz BW
  have y0_0 : (w0).cell? ⟨B + 1 + 1, 0, none⟩ = some (.slice none 0 0) := cell_block (b := B + 2) q02_0.out rfl
  have g0_0 : (w0).frozen? ⟨B + 1 + 1, 0, none⟩ = false := frozen_block (b := B + 2) q02_0.out
  have q00_1 : Hid ((w0.setCell ⟨B + 1 + 1, 0, none⟩ (.slice o0 x.length c0)).heap[B]? = some (.cells #[.slice aa0 x.length ca0] 24)) := (block_other (b := B) (b' := B + 1 + 1) (by omega)).trans q00_0.out
  have q01_1 : Hid ((w0.setCell ⟨B + 1 + 1, 0, none⟩ (.slice o0 x.length c0)).heap[B + 1]? = some (.cells #[.slice none 0 0] 30)) := (block_other (b := B + 1) (b' := B + 1 + 1) (by omega)).trans q01_0.out
  have q02_1 : Hid ((w0.setCell ⟨B + 1 + 1, 0, none⟩ (.slice o0 x.length c0)).heap[B + 2]? = some (.cells #[.slice o0 x.length c0] 30)) := block_set (b := B + 2) q02_0.out
  have C0 : Hid (Below w.heap.size w (w0.setCell ⟨B + 1 + 1, 0, none⟩ (.slice o0 x.length c0))) := (B0.out.setCell (show w.heap.size ≤ B + 1 + 1 by omega) _)
  have G0_0 : Hid (Fresh (B + 3) (w0.setCell ⟨B + 1 + 1, 0, none⟩ (.slice o0 x.length c0)) (fun W => RowC 3 RuleE W (.slice o0 x.length c0) x ∧ ShK tau Bx (.row 43) W (.slice o0 x.length c0) ((x.map cntRule).sum))) := (F0_0.out.setLow (by omega) _ _)
  have v0 : B + 3 ≤ (w0.setCell ⟨B + 1 + 1, 0, none⟩ (.slice o0 x.length c0)).heap.size := by simpa using hsz0
  have y9_0 : (w0.setCell ⟨B + 1 + 1, 0, none⟩ (.slice o0 x.length c0)).cell? ⟨B + 1 + 1, 0, none⟩ = some (.slice o0 x.length c0) := cell_block (b := B + 2) q02_1.out rfl
  have z9_0 : (w0.setCell ⟨B + 1 + 1, 0, none⟩ (.slice o0 x.length c0)).cell? ⟨B + 1, 0, none⟩ = some (.slice none 0 0) := cell_block q01_1.out rfl
  have g9_0 : (w0.setCell ⟨B + 1 + 1, 0, none⟩ (.slice o0 x.length c0)).frozen? ⟨B + 1, 0, none⟩ = false := frozen_block q01_1.out
  go_wp2
  have P1 : Hid ((w0.setCell ⟨B + 1 + 1, 0, none⟩ (.slice o0 x.length c0)).heap[B + 1]? = some (.cells #[.slice none 0 0] 30)) := q01_1.out
  clear y0_0 g0_0 y9_0 z9_0 g9_0 q00_0 q00_1 q01_0 q01_1 q02_0 q02_1
  generalize w0.setCell ⟨B + 1 + 1, 0, none⟩ (.slice o0 x.length c0) = WL at *
  have FB : Hid (Below w.heap.size w (WL.setCell ⟨B + 1, 0, none⟩ (.slice o0 x.length c0))) := (C0.out.setCell (show w.heap.size ≤ B + 1 by omega) _)
  have FF0 : Hid (Fresh w.heap.size (WL.setCell ⟨B + 1, 0, none⟩ (.slice o0 x.length c0)) (fun W => RowC 3 RuleE W (.slice o0 x.length c0) x ∧ ShK tau Bx (.row 43) W (.slice o0 x.length c0) ((x.map cntRule).sum))) := Fresh.base ((G0_0.out.setLow (by omega) _ _)) (show w.heap.size ≤ B + 3 by omega)
  have rp : (WL.setCell ⟨B + 1, 0, none⟩ (.slice o0 x.length c0)).heap[B + 1]? = some (.cells #[.slice o0 x.length c0] 30) := block_set P1.out
  have rr0 : (WL.setCell ⟨B + 1, 0, none⟩ (.slice o0 x.length c0)).cell? ⟨B + 1, 0, none⟩ = some (.slice o0 x.length c0) := cell_block rp rfl
  clear rp P1 v0
  generalize WL.setCell ⟨B + 1, 0, none⟩ (.slice o0 x.length c0) = W9 at *
  (try simp only [Exit.inBlock, Exit.then])
  refine bodyPost_ret (by simp [results, Tryz.results6, go_sem, rr0]; try rfl) rfl ?_
  exact ⟨_, _, rfl, FF0.out, FB.out⟩

end Go.Proofs.YtofpoiccghpliaaGreatDoor

namespace Go.Proofs.YtofpoiccghpliaaGreatDoor
open Go.RowKit

theorem gszStringS (v : Value) (xs : List ByteArray) (left : Int) (w : World) (h0 : 0 ≤ left) (h1 : left ≤ 1048576) (hin : RowInn StrIn xs) (h : SRow w v xs) :
    Calls Tryz.prog 34 #[v, .int .i64 left] w fun e w' => ∃ r : Int, e = .returned (.int .i64 r) ∧ (r = -1 ∨ (0 ≤ r ∧ r + (rowTot ByteArray.size xs : Nat) = left)) ∧ Below w.heap.size w w' := by
  refine (szStringS_any v xs left w h0 h1 hin.1 hin.2 h).mono ?_
  rintro e w' ⟨r, rfl, hr, rfl⟩
  refine ⟨r, rfl, hr.imp id (fun h => ⟨h.1, ?_⟩), Below.refl _ _⟩
  have := h.2
  have e : rowTot ByteArray.size xs = xs.length + totB xs := rfl
  omega
theorem gszExpr (v : Value) (x : List NodeD) (left : Int) (w : World) (h0 : 0 ≤ left) (h1 : left ≤ 1048576) (hin : ExprIn x) (h : NRow w v x) :
    Calls Tryz.prog 108 #[.agg #[v], .int .i64 left] w fun e w' => ∃ r : Int, e = .returned (.int .i64 r) ∧ (r = -1 ∨ (0 ≤ r ∧ r + (exprTot x : Nat) = left)) ∧ Below w.heap.size w w' := by
  refine (szExpr_any v x left w h0 h1 ⟨h, hin.1, hin.2⟩).mono ?_
  rintro e w' ⟨r, rfl, hr, hb⟩
  refine ⟨r, rfl, hr.imp id (fun h => ⟨h.1, ?_⟩), hb⟩
  have := h.2
  have e : exprTot x = x.length + totN x := rfl
  omega

set_option maxHeartbeats 1600000 in
theorem gszExprS (v : Value) (xs : List (List NodeD)) (left : Int) (w : World) (h0 : 0 ≤ left) (h1 : left ≤ 1048576) (hin : RowInn ExprIn xs) (h : RowC 1 ExprE w v xs) :
    Calls Tryz.prog 98 #[v, .int .i64 left] w fun e w' => ∃ r : Int, e = .returned (.int .i64 r) ∧ (r = -1 ∨ (0 ≤ r ∧ r + (rowTot exprTot xs : Nat) = left)) ∧ Below w.heap.size w w' := by
  have HR : Hid (RowC 1 ExprE w v xs) := h
  have HIn : Hid (∀ x ∈ xs, ExprIn x) := hin.2
  have hm := hin.1
  obtain ⟨a, cap, rfl⟩ := h.slice
  clear h hin
  unfold maxLen at hm
  by_cases hl : left < xs.length
  · have h2 : left - (xs.length : Int) < 0 := by omega
    go_enter Tryz.func98, Tryz.ntmps98
    go_wp2
    go_ret
    exact ⟨_, rfl, .inl rfl, Below.refl _ _⟩
  · go_enter Tryz.func98, Tryz.ntmps98
    go_wp2
    go_loopw [1, 5] (fun rv iv wr => ∃ (r : Int) (k : Nat), rv = .int .i64 r ∧ iv = .int .i64 k ∧ k ≤ xs.length ∧ 0 ≤ r ∧ r + xs.length + (((xs.take k).map exprTot).sum : Nat) = left ∧ Below w.heap.size w wr) (fun _ iv _ => xs.length - (intOf iv).toNat)
    case atStart => exact ⟨_, 0, rfl, rfl, Nat.zero_le _, by omega, by simp, Below.refl _ _⟩
    case round =>
      obtain ⟨rr, k, rfl, rfl, hk, hr, ht, hb⟩ := hrel
      have HB : Hid (Below w.heap.size w wr) := hb
      have HRr : Hid (RowC 1 ExprE wr (.slice a xs.length cap) xs) := RowC.below ExprE_stable HR.out hb
      clear hb
      by_cases hlt : k < xs.length
      · obtain ⟨b, off, vs, rfl, _, hc, hE⟩ := HRr.out.at hlt
        obtain ⟨r0, rfl, hh0⟩ := hE
        have n0 : wr.cell? ⟨b, off + k, none⟩ = some (r0) := by have h := hc 0 (by simp); rw [Nat.mul_one] at h; exact h
        have hnx := rowTot_next exprTot xs k hlt
        have HS : Hid (∀ W, Below wr.heap.size wr W → _) := fun W hW => gszExpr r0 xs[k] rr W hr (by omega) (HIn.out _ (List.getElem_mem hlt)) (hh0.below hW)
        obtain ⟨aa0, ca0, rfl⟩ := hh0.slice
        clear hc hh0
        go_wp2_with fail
        refine (HS.out _ (Below.refl _ _)).mono ?_
        rintro e w1 ⟨r1, rfl, hr1, hb1⟩
        have HB1 : Hid (Below w.heap.size w w1) := HB.out.trans (hb1.mono HB.out.size)
        clear hb1
        rcases hr1 with rfl | ⟨hr1, hr2⟩
        · go_wp2
          go_ret
          exact ⟨_, rfl, .inl rfl, HB1.out⟩
        · have hr3 : ¬ r1 < 0 := by omega
          go_wp2
          go_roundw
          case rel => exact ⟨r1, k + 1, rfl, by go_num, by omega, hr1, by omega, HB1.out⟩
          case measure => simp [intOf]; omega
      · obtain rfl : k = xs.length := by omega
        rw [List.take_of_length_le (Nat.le_refl _)] at ht
        have HE : Hid (rr + (rowTot exprTot xs : Nat) = left) := by rw [Hid, rowTot]; omega
        go_wp2
        go_ret
        exact ⟨_, rfl, .inr ⟨hr, HE.out⟩, HB.out⟩

set_option maxHeartbeats 1600000 in
theorem gszSym (r0 : Value) (x : SymD) (left : Int) (w : World) (h0 : 0 ≤ left) (h1 : left ≤ 1048576) (hin : SymIn x) (hh0 : RowC 1 ExprE w r0 x.args) :
    Calls Tryz.prog 80 #[.agg #[.int .i64 x.kind, .string x.text, r0, .string x.bind], .int .i64 left] w fun e w' => ∃ r : Int, e = .returned (.int .i64 r) ∧ (r = -1 ∨ (0 ≤ r ∧ r + (symTot x : Nat) = left)) ∧ Below w.heap.size w w' := by
  have BW : Hid (Below w.heap.size w (w.alloc (.cells #[.int .i64 x.kind, .string x.text, r0, .string x.bind] 124))) := (Below.refl _ _).alloc (Nat.le_refl _) _
  have HTt : Hid (symTot x = x.text.size + rowTot exprTot x.args + x.bind.size) := rfl
  obtain ⟨iKind, iText, iArgs, iBind⟩ := hin
  have sText : x.text.size ≤ 9223372036854775807 := by have := iText; unfold StrIn maxLen at this; omega
  have sBind : x.bind.size ≤ 9223372036854775807 := by have := iBind; unfold StrIn maxLen at this; omega
  have R0 : Hid (RowC 1 ExprE w r0 x.args) := hh0
  obtain ⟨aa0, ca0, rfl⟩ := hh0.slice
  clear hh0
  by_cases z1 : left < x.text.size
  · have q1 : left - (x.text.size : Int) < 0 := by omega
    go_enter Tryz.func80, Tryz.ntmps80
    go_wp2
    go_ret
    exact ⟨_, rfl, .inl rfl, BW.out⟩
  · have q1 : ¬ left - (x.text.size : Int) < 0 := by omega
    go_enter Tryz.func80, Tryz.ntmps80
    go_wp2_with fail
    refine (gszExprS _ x.args (left - (x.text.size : Int)) _ (by omega) (by omega) iArgs (RowC.below ExprE_stable R0.out BW.out)).mono ?_
    rintro e w0 ⟨l0, rfl, hl0, hb0⟩
    have B0 : Hid (Below w.heap.size w w0) := BW.out.trans (hb0.mono BW.out.size)
    have K0_3 : w0.cell? ⟨w.heap.size, 3, none⟩ = some (.string x.bind) := cell_keep (box_at w #[.int .i64 x.kind, .string x.text, .slice aa0 x.args.length ca0, .string x.bind] 124 3 _ rfl) hb0
    clear hb0
    rcases hl0 with rfl | ⟨p0, q0'⟩
    · go_wp2
      go_ret
      exact ⟨_, rfl, .inl rfl, B0.out⟩
    · have t0 : ¬ l0 < 0 := by omega
      by_cases z3 : l0 < x.bind.size
      · have q3 : l0 - (x.bind.size : Int) < 0 := by omega
        go_wp2
        go_ret
        exact ⟨_, rfl, .inl rfl, B0.out⟩
      · have q3 : ¬ l0 - (x.bind.size : Int) < 0 := by omega
        go_wp2
        go_ret
        exact ⟨_, rfl, .inr ⟨by omega, by have := HTt.out; omega⟩, B0.out⟩

set_option maxHeartbeats 1600000 in
theorem gszSymS (v : Value) (xs : List (SymD)) (left : Int) (w : World) (h0 : 0 ≤ left) (h1 : left ≤ 1048576) (hin : RowInn SymIn xs) (h : RowC 4 SymE w v xs) :
    Calls Tryz.prog 65 #[v, .int .i64 left] w fun e w' => ∃ r : Int, e = .returned (.int .i64 r) ∧ (r = -1 ∨ (0 ≤ r ∧ r + (rowTot symTot xs : Nat) = left)) ∧ Below w.heap.size w w' := by
  have HR : Hid (RowC 4 SymE w v xs) := h
  have HIn : Hid (∀ x ∈ xs, SymIn x) := hin.2
  have hm := hin.1
  obtain ⟨a, cap, rfl⟩ := h.slice
  clear h hin
  unfold maxLen at hm
  by_cases hl : left < xs.length
  · have h2 : left - (xs.length : Int) < 0 := by omega
    go_enter Tryz.func65, Tryz.ntmps65
    go_wp2
    go_ret
    exact ⟨_, rfl, .inl rfl, Below.refl _ _⟩
  · go_enter Tryz.func65, Tryz.ntmps65
    go_wp2
    go_loopw [1, 5] (fun rv iv wr => ∃ (r : Int) (k : Nat), rv = .int .i64 r ∧ iv = .int .i64 k ∧ k ≤ xs.length ∧ 0 ≤ r ∧ r + xs.length + (((xs.take k).map symTot).sum : Nat) = left ∧ Below w.heap.size w wr) (fun _ iv _ => xs.length - (intOf iv).toNat)
    case atStart => exact ⟨_, 0, rfl, rfl, Nat.zero_le _, by omega, by simp, Below.refl _ _⟩
    case round =>
      obtain ⟨rr, k, rfl, rfl, hk, hr, ht, hb⟩ := hrel
      have HB : Hid (Below w.heap.size w wr) := hb
      have HRr : Hid (RowC 4 SymE wr (.slice a xs.length cap) xs) := RowC.below SymE_stable HR.out hb
      clear hb
      by_cases hlt : k < xs.length
      · obtain ⟨b, off, vs, rfl, _, hc, hE⟩ := HRr.out.at hlt
        obtain ⟨r0, rfl, hh0⟩ := hE
        have n0 : wr.cell? ⟨b, off + k * 4, none⟩ = some (.int .i64 xs[k].kind) := hc 0 (by simp)
        have n1 : wr.cell? ⟨b, off + k * 4 + 1, none⟩ = some (.string xs[k].text) := hc 1 (by simp)
        have n2 : wr.cell? ⟨b, off + k * 4 + 2, none⟩ = some (r0) := hc 2 (by simp)
        have n3 : wr.cell? ⟨b, off + k * 4 + 3, none⟩ = some (.string xs[k].bind) := hc 3 (by simp)
        have hnx := rowTot_next symTot xs k hlt
        have HS : Hid (∀ W, Below wr.heap.size wr W → _) := fun W hW => gszSym r0 xs[k] rr W hr (by omega) (HIn.out _ (List.getElem_mem hlt)) (RowC.below ExprE_stable hh0 hW)
        obtain ⟨aa0, ca0, rfl⟩ := hh0.slice
        clear hc hh0
        go_wp2_with fail
        refine (HS.out _ (Below.refl _ _)).mono ?_
        rintro e w1 ⟨r1, rfl, hr1, hb1⟩
        have HB1 : Hid (Below w.heap.size w w1) := HB.out.trans (hb1.mono HB.out.size)
        clear hb1
        rcases hr1 with rfl | ⟨hr1, hr2⟩
        · go_wp2
          go_ret
          exact ⟨_, rfl, .inl rfl, HB1.out⟩
        · have hr3 : ¬ r1 < 0 := by omega
          go_wp2
          go_roundw
          case rel => exact ⟨r1, k + 1, rfl, by go_num, by omega, hr1, by omega, HB1.out⟩
          case measure => simp [intOf]; omega
      · obtain rfl : k = xs.length := by omega
        rw [List.take_of_length_le (Nat.le_refl _)] at ht
        have HE : Hid (rr + (rowTot symTot xs : Nat) = left) := by rw [Hid, rowTot]; omega
        go_wp2
        go_ret
        exact ⟨_, rfl, .inr ⟨hr, HE.out⟩, HB.out⟩

set_option maxHeartbeats 1600000 in
theorem gszAlt (r0 : Value) (x : List SymD) (left : Int) (w : World) (h0 : 0 ≤ left) (h1 : left ≤ 1048576) (hin : AltIn x) (hh0 : RowC 4 SymE w r0 x) :
    Calls Tryz.prog 48 #[.agg #[r0], .int .i64 left] w fun e w' => ∃ r : Int, e = .returned (.int .i64 r) ∧ (r = -1 ∨ (0 ≤ r ∧ r + (altTot x : Nat) = left)) ∧ Below w.heap.size w w' := by
  have BW : Hid (Below w.heap.size w (w.alloc (.cells #[r0] 90))) := (Below.refl _ _).alloc (Nat.le_refl _) _
  have HTt : Hid (altTot x = rowTot symTot x) := rfl
  have iSyms := hin
  have R0 : Hid (RowC 4 SymE w r0 x) := hh0
  obtain ⟨aa0, ca0, rfl⟩ := hh0.slice
  clear hh0
  go_enter Tryz.func48, Tryz.ntmps48
  go_wp2_with fail
  refine (gszSymS _ x left _ (by omega) (by omega) iSyms (RowC.below SymE_stable R0.out BW.out)).mono ?_
  rintro e w0 ⟨l0, rfl, hl0, hb0⟩
  have B0 : Hid (Below w.heap.size w w0) := BW.out.trans (hb0.mono BW.out.size)
  clear hb0
  rcases hl0 with rfl | ⟨p0, q0'⟩
  · go_wp2
    go_ret
    exact ⟨_, rfl, .inl rfl, B0.out⟩
  · have t0 : ¬ l0 < 0 := by omega
    go_wp2
    go_ret
    exact ⟨_, rfl, .inr ⟨by omega, by have := HTt.out; omega⟩, B0.out⟩

set_option maxHeartbeats 1600000 in
theorem gszAltS (v : Value) (xs : List (List SymD)) (left : Int) (w : World) (h0 : 0 ≤ left) (h1 : left ≤ 1048576) (hin : RowInn AltIn xs) (h : RowC 1 AltE w v xs) :
    Calls Tryz.prog 35 #[v, .int .i64 left] w fun e w' => ∃ r : Int, e = .returned (.int .i64 r) ∧ (r = -1 ∨ (0 ≤ r ∧ r + (rowTot altTot xs : Nat) = left)) ∧ Below w.heap.size w w' := by
  have HR : Hid (RowC 1 AltE w v xs) := h
  have HIn : Hid (∀ x ∈ xs, AltIn x) := hin.2
  have hm := hin.1
  obtain ⟨a, cap, rfl⟩ := h.slice
  clear h hin
  unfold maxLen at hm
  by_cases hl : left < xs.length
  · have h2 : left - (xs.length : Int) < 0 := by omega
    go_enter Tryz.func35, Tryz.ntmps35
    go_wp2
    go_ret
    exact ⟨_, rfl, .inl rfl, Below.refl _ _⟩
  · go_enter Tryz.func35, Tryz.ntmps35
    go_wp2
    go_loopw [1, 5] (fun rv iv wr => ∃ (r : Int) (k : Nat), rv = .int .i64 r ∧ iv = .int .i64 k ∧ k ≤ xs.length ∧ 0 ≤ r ∧ r + xs.length + (((xs.take k).map altTot).sum : Nat) = left ∧ Below w.heap.size w wr) (fun _ iv _ => xs.length - (intOf iv).toNat)
    case atStart => exact ⟨_, 0, rfl, rfl, Nat.zero_le _, by omega, by simp, Below.refl _ _⟩
    case round =>
      obtain ⟨rr, k, rfl, rfl, hk, hr, ht, hb⟩ := hrel
      have HB : Hid (Below w.heap.size w wr) := hb
      have HRr : Hid (RowC 1 AltE wr (.slice a xs.length cap) xs) := RowC.below AltE_stable HR.out hb
      clear hb
      by_cases hlt : k < xs.length
      · obtain ⟨b, off, vs, rfl, _, hc, hE⟩ := HRr.out.at hlt
        obtain ⟨r0, rfl, hh0⟩ := hE
        have n0 : wr.cell? ⟨b, off + k, none⟩ = some (r0) := by have h := hc 0 (by simp); rw [Nat.mul_one] at h; exact h
        have hnx := rowTot_next altTot xs k hlt
        have HS : Hid (∀ W, Below wr.heap.size wr W → _) := fun W hW => gszAlt r0 xs[k] rr W hr (by omega) (HIn.out _ (List.getElem_mem hlt)) (RowC.below SymE_stable hh0 hW)
        obtain ⟨aa0, ca0, rfl⟩ := hh0.slice
        clear hc hh0
        go_wp2_with fail
        refine (HS.out _ (Below.refl _ _)).mono ?_
        rintro e w1 ⟨r1, rfl, hr1, hb1⟩
        have HB1 : Hid (Below w.heap.size w w1) := HB.out.trans (hb1.mono HB.out.size)
        clear hb1
        rcases hr1 with rfl | ⟨hr1, hr2⟩
        · go_wp2
          go_ret
          exact ⟨_, rfl, .inl rfl, HB1.out⟩
        · have hr3 : ¬ r1 < 0 := by omega
          go_wp2
          go_roundw
          case rel => exact ⟨r1, k + 1, rfl, by go_num, by omega, hr1, by omega, HB1.out⟩
          case measure => simp [intOf]; omega
      · obtain rfl : k = xs.length := by omega
        rw [List.take_of_length_le (Nat.le_refl _)] at ht
        have HE : Hid (rr + (rowTot altTot xs : Nat) = left) := by rw [Hid, rowTot]; omega
        go_wp2
        go_ret
        exact ⟨_, rfl, .inr ⟨hr, HE.out⟩, HB.out⟩

set_option maxHeartbeats 1600000 in
theorem gszRule (r0 r1 : Value) (x : RuleD) (left : Int) (w : World) (h0 : 0 ≤ left) (h1 : left ≤ 1048576) (hin : RuleIn x) (hh0 : SRow w r0 x.params) (hh1 : RowC 1 AltE w r1 x.alts) :
    Calls Tryz.prog 22 #[.agg #[.string x.name, r0, r1], .int .i64 left] w fun e w' => ∃ r : Int, e = .returned (.int .i64 r) ∧ (r = -1 ∨ (0 ≤ r ∧ r + (ruleTot x : Nat) = left)) ∧ Below w.heap.size w w' := by
  have BW : Hid (Below w.heap.size w (w.alloc (.cells #[.string x.name, r0, r1] 57))) := (Below.refl _ _).alloc (Nat.le_refl _) _
  have HTt : Hid (ruleTot x = x.name.size + rowTot ByteArray.size x.params + rowTot altTot x.alts) := rfl
  obtain ⟨iName, iParams, iAlts⟩ := hin
  have sName : x.name.size ≤ 9223372036854775807 := by have := iName; unfold StrIn maxLen at this; omega
  have R0 : Hid (SRow w r0 x.params) := hh0
  obtain ⟨aa0, ca0, rfl⟩ := hh0.slice
  have R1 : Hid (RowC 1 AltE w r1 x.alts) := hh1
  obtain ⟨aa1, ca1, rfl⟩ := hh1.slice
  clear hh0 hh1
  by_cases z0 : left < x.name.size
  · have q0 : left - (x.name.size : Int) < 0 := by omega
    go_enter Tryz.func22, Tryz.ntmps22
    go_wp2
    go_ret
    exact ⟨_, rfl, .inl rfl, BW.out⟩
  · have q0 : ¬ left - (x.name.size : Int) < 0 := by omega
    go_enter Tryz.func22, Tryz.ntmps22
    go_wp2_with fail
    refine (gszStringS _ x.params (left - (x.name.size : Int)) _ (by omega) (by omega) iParams (R0.out.below BW.out)).mono ?_
    rintro e w0 ⟨l0, rfl, hl0, hb0⟩
    have B0 : Hid (Below w.heap.size w w0) := BW.out.trans (hb0.mono BW.out.size)
    have K0_2 : w0.cell? ⟨w.heap.size, 2, none⟩ = some (.slice aa1 x.alts.length ca1) := cell_keep (box_at w #[.string x.name, .slice aa0 x.params.length ca0, .slice aa1 x.alts.length ca1] 57 2 _ rfl) hb0
    clear hb0
    rcases hl0 with rfl | ⟨p0, q0'⟩
    · go_wp2
      go_ret
      exact ⟨_, rfl, .inl rfl, B0.out⟩
    · have t0 : ¬ l0 < 0 := by omega
      go_wp2_with fail
      refine (gszAltS _ x.alts l0 _ (by omega) (by omega) iAlts (RowC.below AltE_stable R1.out B0.out)).mono ?_
      rintro e w1 ⟨l1, rfl, hl1, hb1⟩
      have B1 : Hid (Below w.heap.size w w1) := B0.out.trans (hb1.mono B0.out.size)
      clear hb1
      rcases hl1 with rfl | ⟨p1, q1'⟩
      · go_wp2
        go_ret
        exact ⟨_, rfl, .inl rfl, B1.out⟩
      · have t1 : ¬ l1 < 0 := by omega
        go_wp2
        go_ret
        exact ⟨_, rfl, .inr ⟨by omega, by have := HTt.out; omega⟩, B1.out⟩

set_option maxHeartbeats 1600000 in
theorem gszRuleS (v : Value) (xs : List (RuleD)) (left : Int) (w : World) (h0 : 0 ≤ left) (h1 : left ≤ 1048576) (hin : RowInn RuleIn xs) (h : RowC 3 RuleE w v xs) :
    Calls Tryz.prog 13 #[v, .int .i64 left] w fun e w' => ∃ r : Int, e = .returned (.int .i64 r) ∧ (r = -1 ∨ (0 ≤ r ∧ r + (rowTot ruleTot xs : Nat) = left)) ∧ Below w.heap.size w w' := by
  have HR : Hid (RowC 3 RuleE w v xs) := h
  have HIn : Hid (∀ x ∈ xs, RuleIn x) := hin.2
  have hm := hin.1
  obtain ⟨a, cap, rfl⟩ := h.slice
  clear h hin
  unfold maxLen at hm
  by_cases hl : left < xs.length
  · have h2 : left - (xs.length : Int) < 0 := by omega
    go_enter Tryz.func13, Tryz.ntmps13
    go_wp2
    go_ret
    exact ⟨_, rfl, .inl rfl, Below.refl _ _⟩
  · go_enter Tryz.func13, Tryz.ntmps13
    go_wp2
    go_loopw [1, 5] (fun rv iv wr => ∃ (r : Int) (k : Nat), rv = .int .i64 r ∧ iv = .int .i64 k ∧ k ≤ xs.length ∧ 0 ≤ r ∧ r + xs.length + (((xs.take k).map ruleTot).sum : Nat) = left ∧ Below w.heap.size w wr) (fun _ iv _ => xs.length - (intOf iv).toNat)
    case atStart => exact ⟨_, 0, rfl, rfl, Nat.zero_le _, by omega, by simp, Below.refl _ _⟩
    case round =>
      obtain ⟨rr, k, rfl, rfl, hk, hr, ht, hb⟩ := hrel
      have HB : Hid (Below w.heap.size w wr) := hb
      have HRr : Hid (RowC 3 RuleE wr (.slice a xs.length cap) xs) := RowC.below RuleE_stable HR.out hb
      clear hb
      by_cases hlt : k < xs.length
      · obtain ⟨b, off, vs, rfl, _, hc, hE⟩ := HRr.out.at hlt
        obtain ⟨r0, r1, rfl, hh0, hh1⟩ := hE
        have n0 : wr.cell? ⟨b, off + k * 3, none⟩ = some (.string xs[k].name) := hc 0 (by simp)
        have n1 : wr.cell? ⟨b, off + k * 3 + 1, none⟩ = some (r0) := hc 1 (by simp)
        have n2 : wr.cell? ⟨b, off + k * 3 + 2, none⟩ = some (r1) := hc 2 (by simp)
        have hnx := rowTot_next ruleTot xs k hlt
        have HS : Hid (∀ W, Below wr.heap.size wr W → _) := fun W hW => gszRule r0 r1 xs[k] rr W hr (by omega) (HIn.out _ (List.getElem_mem hlt)) (hh0.below hW) (RowC.below AltE_stable hh1 hW)
        obtain ⟨aa0, ca0, rfl⟩ := hh0.slice
        obtain ⟨aa1, ca1, rfl⟩ := hh1.slice
        clear hc hh0 hh1
        go_wp2_with fail
        refine (HS.out _ (Below.refl _ _)).mono ?_
        rintro e w1 ⟨r1, rfl, hr1, hb1⟩
        have HB1 : Hid (Below w.heap.size w w1) := HB.out.trans (hb1.mono HB.out.size)
        clear hb1
        rcases hr1 with rfl | ⟨hr1, hr2⟩
        · go_wp2
          go_ret
          exact ⟨_, rfl, .inl rfl, HB1.out⟩
        · have hr3 : ¬ r1 < 0 := by omega
          go_wp2
          go_roundw
          case rel => exact ⟨r1, k + 1, rfl, by go_num, by omega, hr1, by omega, HB1.out⟩
          case measure => simp [intOf]; omega
      · obtain rfl : k = xs.length := by omega
        rw [List.take_of_length_le (Nat.le_refl _)] at ht
        have HE : Hid (rr + (rowTot ruleTot xs : Nat) = left) := by rw [Hid, rowTot]; omega
        go_wp2
        go_ret
        exact ⟨_, rfl, .inr ⟨hr, HE.out⟩, HB.out⟩

set_option maxHeartbeats 1600000 in
theorem gszGrammar (r0 : Value) (x : List RuleD) (left : Int) (w : World) (h0 : 0 ≤ left) (h1 : left ≤ 1048576) (hin : GrammarIn x) (hh0 : RowC 3 RuleE w r0 x) :
    Calls Tryz.prog 4 #[.agg #[r0], .int .i64 left] w fun e w' => ∃ r : Int, e = .returned (.int .i64 r) ∧ (r = -1 ∨ (0 ≤ r ∧ r + (grammarTot x : Nat) = left)) ∧ Below w.heap.size w w' := by
  have BW : Hid (Below w.heap.size w (w.alloc (.cells #[r0] 24))) := (Below.refl _ _).alloc (Nat.le_refl _) _
  have HTt : Hid (grammarTot x = rowTot ruleTot x) := rfl
  have iRules := hin
  have R0 : Hid (RowC 3 RuleE w r0 x) := hh0
  obtain ⟨aa0, ca0, rfl⟩ := hh0.slice
  clear hh0
  go_enter Tryz.func4, Tryz.ntmps4
  go_wp2_with fail
  refine (gszRuleS _ x left _ (by omega) (by omega) iRules (RowC.below RuleE_stable R0.out BW.out)).mono ?_
  rintro e w0 ⟨l0, rfl, hl0, hb0⟩
  have B0 : Hid (Below w.heap.size w w0) := BW.out.trans (hb0.mono BW.out.size)
  clear hb0
  rcases hl0 with rfl | ⟨p0, q0'⟩
  · go_wp2
    go_ret
    exact ⟨_, rfl, .inl rfl, B0.out⟩
  · have t0 : ¬ l0 < 0 := by omega
    go_wp2
    go_ret
    exact ⟨_, rfl, .inr ⟨by omega, by have := HTt.out; omega⟩, B0.out⟩

end Go.Proofs.YtofpoiccghpliaaGreatDoor
