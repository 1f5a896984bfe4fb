/- The specification's l11Put: a node behind a pointer to a list of nodes. -/
/- What the expression's readers leave of the reader: in pure terms. -/
/- The reader of an expression: the reader, and the nodes behind a pointer; two. -/
/- The expression's readers, by strong induction on the fuel: what each asks, and simple. -/
/- The expression's readers: compare. -/
/- The expression's readers: product and sum (printed by mk/s11i.py). -/
import Derived.Test.YtipkbkhnaekceaaS11K
import Derived.Test.YtipkbkhnaekceaaXPure
import Derived.Deep.RegionLaw
import Derived.Deep.AppendLies
import Derived.Deep.LoopGhost
namespace Go.Proofs.Ytipkbkhnaekceaa
open Go.RowKit
set_option linter.unusedVariables false

def Box11 (bo : Nat) (o : Value) (w : World) : Prop := w.heap[bo]? = some (.cells #[o] 53 (0, 0))
def NodV (B : Nat) (w : World) (vs : List Value) (x : NodeD) : Prop := ∃ kv : Value, vs = [.int .i64 x.op, .int .i64 x.num, .string x.name, kv] ∧ OwnZ B kv x.kids w
def NodesO (B : Nat) (v : Value) (ns : List NodeD) (w : World) : Prop := RowO 4 72 (NodV B) B v ns w
abbrev FrX (B : Nat) (w w' : World) : Prop := FrT [53, 72] B w w'
theorem nodV_fr {ts : List TypeId} {B B' : Nat} {w w' : World} {vs : List Value} {x : NodeD} (h : NodV B w vs x) (hf : FrT ts B' w w') (ht : 3 ∉ ts) : NodV B w' vs x := by
  obtain ⟨kv, e, h1⟩ := h
  exact ⟨kv, e, ownZ_fr h1 hf ht⟩
theorem NodesO.below {B : Nat} {v : Value} {ns : List NodeD} {w w' : World} (h : NodesO B v ns w) (hb : Below w.heap.size w w') : NodesO B v ns w' :=
  RowO.below (fun _ _ _ _ hx hb => nodV_fr (ts := []) hx (FrT.below (B := 0) hb (Nat.zero_le _)) (by simp)) h hb
theorem Try.infoNode11 : (Try.prog.info? 72).map (fun i => (i.zero, i.size, i.bytes)) = some (some (.agg #[.int .i64 0, .int .i64 0, .string ⟨#[]⟩, .slice none 0 0]), 4, 56) := by kernel_rfl
theorem four11 (a b : Int) (s : ByteArray) (o : Option Addr) (l c : Nat) : ∀ u ∈ [Value.int .i64 a, .int .i64 b, .string s, .slice o l c], u.oneCell' = true := by
  intro u hu
  simp only [List.mem_cons, List.not_mem_nil, or_false] at hu
  rcases hu with rfl | rfl | rfl | rfl <;> rfl
theorem box11_grown {bo : Nat} {o : Value} {w w' : World} {k : Option Nat} (hg : w.grownBy w' k) (h : Box11 bo o w) (hne : k ≠ some bo) : Box11 bo o w' := by
  rw [Box11, hg.block bo (Array.getElem?_eq_some_iff.1 h).1 (fun e => hne e.symm)]
  exact h
theorem box11_alloc {bo : Nat} {o : Value} {w : World} (h : Box11 bo o w) (ob : Obj) : Box11 bo o (w.alloc ob) := by
  rw [Box11, Below.heap_alloc _ _ _ (Array.getElem?_eq_some_iff.1 h).1]
  exact h

set_option maxHeartbeats 6400000 in
set_option maxRecDepth 100000 in
theorem put11_any {B : Nat} (bo : Nat) (o kv : Value) (ns : List NodeD) (x : NodeD) (w : World) (hB : B ≤ bo) (hl : ns.length ≤ 100000) (hb : Box11 bo o w) (ho : NodesO B o ns w) (hk : OwnZ B kv x.kids w) :
    Calls Try.prog 99 #[.pointer (some ⟨bo, 0, none⟩), .agg #[.int .i64 x.op, .int .i64 x.num, .string x.name, kv]] w fun e w' => e = .returned (.int .i64 ns.length) ∧ ∃ o', Box11 bo o' w' ∧ NodesO B o' (ns ++ [x]) w' ∧ FrX B w w' := by
  obtain ⟨i0, hi, hz0, hz1, hz2⟩ := info_parts Try.infoNode11
  obtain ⟨ak, ck, rfl⟩ := hk.row.slice
  obtain ⟨ao, co, rfl⟩ := RowO.slice ho
  have hbw : bo < w.heap.size := (Array.getElem?_eq_some_iff.1 hb).1
  have bal : Hid (Below w.heap.size w (w.alloc (.cells #[.int .i64 x.op, .int .i64 x.num, .string x.name, .slice ak x.kids.length ck] 72))) := (Below.refl _ _).alloc (Nat.le_refl _) _
  have x0 : (w.alloc (.cells #[.int .i64 x.op, .int .i64 x.num, .string x.name, .slice ak x.kids.length ck] 72)).cell? ⟨w.heap.size, 0, none⟩ = some (.int .i64 x.op) := box10 _ _ _ 0 _ rfl
  have x1 : (w.alloc (.cells #[.int .i64 x.op, .int .i64 x.num, .string x.name, .slice ak x.kids.length ck] 72)).cell? ⟨w.heap.size, 1, none⟩ = some (.int .i64 x.num) := box10 _ _ _ 1 _ rfl
  have x2 : (w.alloc (.cells #[.int .i64 x.op, .int .i64 x.num, .string x.name, .slice ak x.kids.length ck] 72)).cell? ⟨w.heap.size, 2, none⟩ = some (.string x.name) := box10 _ _ _ 2 _ rfl
  have x3 : (w.alloc (.cells #[.int .i64 x.op, .int .i64 x.num, .string x.name, .slice ak x.kids.length ck] 72)).cell? ⟨w.heap.size, 3, none⟩ = some (.slice ak x.kids.length ck) := box10 _ _ _ 3 _ rfl
  have HB0 : Hid (Box11 bo (.slice ao ns.length co) (w.alloc (.cells #[.int .i64 x.op, .int .i64 x.num, .string x.name, .slice ak x.kids.length ck] 72))) := box11_alloc hb _
  have HO0 : Hid (NodesO B (.slice ao ns.length co) ns (w.alloc (.cells #[.int .i64 x.op, .int .i64 x.num, .string x.name, .slice ak x.kids.length ck] 72))) := NodesO.below ho bal.out
  have HK0 : Hid (OwnZ B (.slice ak x.kids.length ck) x.kids (w.alloc (.cells #[.int .i64 x.op, .int .i64 x.num, .string x.name, .slice ak x.kids.length ck] 72))) := hk.below bal.out
  have HF0 : Hid (FrX B w (w.alloc (.cells #[.int .i64 x.op, .int .i64 x.num, .string x.name, .slice ak x.kids.length ck] 72))) := FrT.below bal.out (by omega)
  clear hb ho hk bal
  go_enter Try.func99, Try.ntmps99
  go_wp2_with fail
  generalize hwt : w.alloc (.cells #[.int .i64 x.op, .int .i64 x.num, .string x.name, .slice ak x.kids.length ck] 72) = wt at *
  have hszt : w.heap.size < wt.heap.size := by rw [← hwt]; simp
  have HWt : Hid _ := hwt
  clear hwt
  generalize w.heap.size = bx at *
  have cbo : wt.cell? ⟨bo, 0, none⟩ = some (.slice ao ns.length co) := run_cell HB0.out rfl
  have fbo : wt.frozen? ⟨bo, 0, none⟩ = false := run_frozen HB0.out
  obtain ⟨cs, hcs, hsn⟩ := RowO.snoc HO0.out
  have HC : Hid (wt.ownsRow B 72 4 (.slice ao ns.length co) ns.length cs) := hcs
  have HSn : Hid _ := hsn
  have HNe : Hid ((Value.slice ao ns.length co).ownBlock ≠ some bo) := own_offT hcs HB0.out (by decide)
  have cbo2 : (wt.alloc (.cells #[.int .i64 x.op, .int .i64 x.num, .string x.name, .slice ak x.kids.length ck] 72)).cell? ⟨bo, 0, none⟩ = some (.slice ao ns.length co) := run_cell (box11_alloc HB0.out _) rfl
  have i9 : IntKind.i64.wrap (((ns.length : Int) + 1) - 1) = (ns.length : Int) := by rw [IntKind.wrap_i64]; omega
  clear hcs hsn
  go_region_law ((refine step_append_lies _ (by rfl) _ _ _ (by rfl) B 72 i0 _ 4 56 Try.underlying53 hi hz0 hz1 hz2 rfl (by omega) _ _ _ (by rfl) (World.ownsRow.alloc HC.out _) ⟨wt.heap.size, 0, none⟩ 1 1 [.int .i64 x.op, .int .i64 x.num, .string x.name, .slice ak x.kids.length ck] (by rfl) (by rfl) (World.news_of_block (cs := #[.int .i64 x.op, .int .i64 x.num, .string x.name, .slice ak x.kids.length ck]) (t := 72) (fr := (0, 0)) (heap_alloc_new wt _)) (four11 _ _ _ _ _ _) (by omega) (by unfold maxLen; omega) (by omega) (by simp; omega) (wt.heap.size + 1) (by simp) ?_; intro gg cap w3 hown3 hgrow hat hlt3; have hb3 := box11_grown hgrow (box11_alloc HB0.out _) HNe.out; have c3 := run_cell (j := 0) hb3 rfl; have f3 := run_frozen (j := 0) hb3))
  all_goals
    have hg2 : (wt.alloc (.cells #[.int .i64 x.op, .int .i64 x.num, .string x.name, .slice ak x.kids.length ck] 72)).grownBy w3 (Value.slice ao ns.length co).ownBlock := ⟨hgrow.os, hgrow.tape, hgrow.output, hgrow.size, hgrow.block⟩
    have F3 : FrX B wt w3 := (FrT.below ((Below.refl _ _).alloc (Nat.le_refl _) _) (by omega)).trans (fr_grown (World.ownsRow.alloc HC.out _) hg2 (by simp) (by simp; omega))
    have F4 : Hid (FrX B wt (w3.setCell ⟨bo, 0, none⟩ (.slice (some ⟨gg, 0, none⟩) (ns.length + 1) cap))) := F3.trans (fr_set _ hb3 (by simp) hB)
    have R3 : NodesO B (.slice (some ⟨gg, 0, none⟩) (ns.length + 1) cap) (ns ++ [x]) w3 := HSn.out _ w3 _ x rfl hown3 (fun vs y hy => nodV_fr hy F3 (by decide)) ⟨_, rfl, ownZ_fr HK0.out F3 (by decide)⟩
    have R4 : Hid (NodesO B (.slice (some ⟨gg, 0, none⟩) (ns.length + 1) cap) (ns ++ [x]) (w3.setCell ⟨bo, 0, none⟩ (.slice (some ⟨gg, 0, none⟩) (ns.length + 1) cap))) :=
      RowO.world R3 (fun _ _ h3 => World.ownsRow.kept h3 (grown_setCell w3 bo 0 _) (.inr (own_offT h3 hb3 (by decide)))) (fun _ _ hx => nodV_fr hx (fr_set (ts := [53]) _ hb3 (by simp) hB) (by decide))
    have X4 : Hid (Box11 bo (.slice (some ⟨gg, 0, none⟩) (ns.length + 1) cap) (w3.setCell ⟨bo, 0, none⟩ (.slice (some ⟨gg, 0, none⟩) (ns.length + 1) cap))) := by rw [Hid, Box11, setCell_self _ hb3]; rfl
    have c4 : (w3.setCell ⟨bo, 0, none⟩ (.slice (some ⟨gg, 0, none⟩) (ns.length + 1) cap)).cell? ⟨bo, 0, none⟩ = some (.slice (some ⟨gg, 0, none⟩) (ns.length + 1) cap) := run_cell X4.out rfl
    clear hg2 F3 R3 hown3 hgrow hat hlt3 hb3
    go_wp2
    go_ret
    exact ⟨rfl, _, X4.out, R4.out, HF0.out.trans F4.out⟩

end Go.Proofs.Ytipkbkhnaekceaa

namespace Go.Proofs.Ytipkbkhnaekceaa
open Go.RowKit

def loopM : Md → Bool
  | .prodL | .sumL | .exprL => true
  | _ => false
def deepM (m : Md) (d : Int) : Int := match m with | .exprL => d - 1 | _ => d
/-- How many nodes may come of a wrong place. -/
def slack (m : Md) (r r' : RdD) : Nat := if r'.bad = true ∧ (loopM m = false ∨ r.bad = false) then 1 else 0
structure ExI (tk : List TokD) (m : Md) (r : RdD) (ns : List NodeD) (q : RdD × List NodeD × Int) : Prop where
  deep : q.1.deep = deepM m r.deep
  at1 : r.at_ ≤ q.1.at_
  at2 : q.1.at_ ≤ max r.at_ tk.length
  bad : r.bad = true → q.1.bad = true
  out : q.1.out = r.out
  len : ns.length ≤ q.2.1.length
  siz : q.2.1.length ≤ ns.length + (q.1.at_ - r.at_) + slack m r q.1
theorem isT_lt {tk : List TokD} {r : RdD} {s : ByteArray} (h : isT tk r s = true) : r.at_ < tk.length := by
  rcases Nat.lt_or_ge r.at_ tk.length with c | c
  · exact c
  · rw [isT, List.getElem?_eq_none c] at h; simp at h
theorem kindR_lt {tk : List TokD} {r : RdD} {k : Int} {t : ByteArray} (h : kindR tk r k = some t) : r.at_ < tk.length := by
  rcases Nat.lt_or_ge r.at_ tk.length with c | c
  · exact c
  · rw [kindR, List.getElem?_eq_none c] at h; split at h <;> cases h
theorem isT_nb {tk : List TokD} {r : RdD} {s : ByteArray} (h : isT tk r s = true) : r.bad = false := by
  cases hb : r.bad
  · rfl
  · rw [isT, hb] at h; cases h
theorem kindR_nb {tk : List TokD} {r : RdD} {k : Int} {t : ByteArray} (h : kindR tk r k = some t) : r.bad = false := by
  cases hb : r.bad
  · rfl
  · rw [kindR, if_pos hb] at h; cases h
theorem wantR_I (tk : List TokD) (r : RdD) (s : ByteArray) : (wantR tk r s).deep = r.deep ∧ r.at_ ≤ (wantR tk r s).at_ ∧ (wantR tk r s).at_ ≤ max r.at_ tk.length ∧ (r.bad = true → (wantR tk r s).bad = true) ∧ (wantR tk r s).out = r.out := by
  unfold wantR
  split
  · rename_i h
    have := isT_lt h
    exact ⟨rfl, Nat.le_succ _, by show r.at_ + 1 ≤ _; omega, fun h => h, rfl⟩
  · exact ⟨rfl, Nat.le_refl _, by show r.at_ ≤ _; omega, fun _ => rfl, rfl⟩
theorem slack_le (m : Md) (r r' : RdD) : slack m r r' ≤ 1 := by unfold slack; split <;> omega
theorem slack_bad {m : Md} {r r' : RdD} (h : loopM m = false ∨ r.bad = false) (h' : r'.bad = true) : slack m r r' = 1 := by unfold slack; rw [if_pos ⟨h', h⟩]
theorem slack_zero {m : Md} {r r' : RdD} (h : r'.bad = false) : slack m r r' = 0 := by unfold slack; rw [if_neg (fun c => by rw [h] at c; cases c.1)]
theorem slack_loop {m : Md} {r r' : RdD} (hm : loopM m = true) (c : r.bad = true) : slack m r r' = 0 := by
  unfold slack
  rw [if_neg]
  rintro ⟨_, x | x⟩
  · rw [hm] at x; cases x
  · rw [c] at x; cases x

/-- A first reader, and what goes on behind it without a node. -/
theorem ExI.base {tk : List TokD} {m : Md} {r : RdD} {ns : List NodeD} {k : Int} (hm : deepM m r.deep = r.deep) : ExI tk m r ns (r, ns, k) := ⟨hm.symm, Nat.le_refl _, by show r.at_ ≤ _; omega, fun h => h, rfl, Nat.le_refl _, by show ns.length ≤ ns.length + (r.at_ - r.at_) + _; omega⟩

/-- A reader, then a loop that goes on. -/
theorem exI_two {tk : List TokD} {m m1 m2 : Md} {r : RdD} {ns : List NodeD} {q : RdD × List NodeD × Int} {g : RdD → List NodeD → Int → RdD × List NodeD × Int} (hm : loopM m = false) (hm2 : loopM m2 = true) (e0 : ∀ {d : Int}, deepM m d = d := by intros; rfl) (e1 : ∀ {d : Int}, deepM m1 d = d := by intros; rfl) (e2 : ∀ {d : Int}, deepM m2 d = d := by intros; rfl)
    (h : ExI tk m1 r ns q) (hg : ∀ r ns k, ExI tk m2 r ns (g r ns k)) : ExI tk m r ns (match q with | (r, ns, k) => g r ns k) := by
  obtain ⟨r1, ns1, k1⟩ := q
  obtain ⟨d, a, a2, b, o, l, z⟩ := h
  obtain ⟨d', a', a2', b', o', l', z'⟩ := hg r1 ns1 k1
  simp only [] at d a a2 b o l z
  simp only []
  generalize g r1 ns1 k1 = q' at *
  rw [e1] at d
  rw [e2] at d'
  refine ⟨by rw [e0]; exact d'.trans d, Nat.le_trans a a', by omega, fun h => b' (b h), o'.trans o, Nat.le_trans l l', ?_⟩
  have key : slack m1 r r1 + slack m2 r1 q'.1 ≤ slack m r q'.1 := by
    by_cases c : r1.bad = true
    · have e3 : slack m2 r1 q'.1 = 0 := slack_loop hm2 c
      rw [slack_bad (.inl hm) (b' c), e3]
      have := slack_le m1 r r1
      omega
    · rw [slack_zero (r' := r1) (by simpa using c), Nat.zero_add]
      by_cases c2 : q'.1.bad = true
      · rw [slack_bad (.inl hm) c2]; exact slack_le _ _ _
      · rw [slack_zero (r' := q'.1) (by simpa using c2)]; omega
  omega
/-- A sign, a reader behind it, a node of two, and on. -/
theorem exI_op {tk : List TokD} {m m1 : Md} {r : RdD} {ns : List NodeD} {q : RdD × List NodeD × Int} {g : RdD → List NodeD → Int → RdD × List NodeD × Int} (hb : r.bad = false) (hlt : r.at_ < tk.length) (hm : loopM m = true) (_hm1 : loopM m1 = false)
    (h : ExI tk m1 (onR r) ns q) (hg : ∀ r ns k, ExI tk m r ns (g r ns k)) (op k : Int) (e1 : ∀ {d : Int}, deepM m1 d = d := by intros; rfl) : ExI tk m r ns (match q with | (r, ns, b) => g r (ns ++ [two op k b]) ns.length) := by
  obtain ⟨r1, ns1, k1⟩ := q
  obtain ⟨d, a, a2, b, o, l, z⟩ := h
  obtain ⟨d', a', a2', b', o', l', z'⟩ := hg r1 (ns1 ++ [two op k k1]) ns1.length
  simp only [onR] at d a a2 b o l z
  simp only []
  generalize g r1 (ns1 ++ [two op k k1]) ns1.length = q' at *
  rw [e1] at d
  rw [List.length_append, List.length_singleton] at l' z'
  refine ⟨by rw [d', d], by omega, by omega, fun h => b' (b h), o'.trans o, by omega, ?_⟩
  have key : slack m1 { at_ := r.at_ + 1, deep := r.deep, bad := r.bad, out := r.out } r1 + slack m r1 q'.1 ≤ slack m r q'.1 := by
    by_cases c : r1.bad = true
    · have e3 : slack m r1 q'.1 = 0 := slack_loop hm c
      rw [slack_bad (.inr hb) (b' c), e3]
      have := slack_le m1 { at_ := r.at_ + 1, deep := r.deep, bad := r.bad, out := r.out } r1
      omega
    · rw [slack_zero (r' := r1) (by simpa using c), Nat.zero_add]
      by_cases c2 : q'.1.bad = true
      · rw [slack_bad (.inr hb) c2]; exact slack_le _ _ _
      · rw [slack_zero (r' := q'.1) (by simpa using c2)]; omega
  omega

set_option maxHeartbeats 1600000 in
theorem exF_I (tk : List TokD) : ∀ (f : Nat) (m : Md) (r : RdD) (ns : List NodeD) (k : Int), ExI tk m r ns (exF tk f m r ns k)
  | 0, m, r, ns, k => by
    cases m
    all_goals exact ⟨rfl, Nat.le_refl _, by simp only [exF, upR]; omega, fun h => h, rfl, Nat.le_refl _, by simp only [exF, upR]; omega⟩
  | f + 1, .simple, r, ns, k => by
    have ih := exF_I tk f .one (downR r) ns 0
    rw [exF]
    generalize exF tk f .one (downR r) ns 0 = q at *
    obtain ⟨r1, ns1, k1⟩ := q
    obtain ⟨d, a, a2, b, o, l, z⟩ := ih
    simp only [downR, deepM] at d a a2 b o l z
    refine ⟨?_, a, a2, fun h => b (by rw [h]; rfl), o, l, ?_⟩
    · show r1.deep - 1 = r.deep
      omega
    · show ns1.length ≤ ns.length + (r1.at_ - r.at_) + slack .simple r (upR r1)
      have h2 : slack .one (downR r) r1 ≤ slack .simple r (upR r1) := by
        by_cases c : r1.bad = true
        · rw [slack_bad (.inl rfl) (show (upR r1).bad = true from c)]; exact slack_le _ _ _
        · rw [slack_zero (r' := r1) (by simpa using c)]; omega
      have : slack .one (downR r) r1 = slack .one { at_ := r.at_, deep := r.deep + 1, bad := r.bad || decide (20 < r.deep + 1), out := r.out } r1 := rfl
      omega
  | f + 1, .one, r, ns, k => by
    rw [exF]
    split
    · rename_i h33
      have ih := exF_I tk f .simple (onR r) ns 0
      generalize exF tk f .simple (onR r) ns 0 = q at *
      obtain ⟨r1, ns1, k1⟩ := q
      obtain ⟨d, a, a2, b, o, l, z⟩ := ih
      simp only [onR, deepM] at d a a2 b o l z
      have h2 : slack .simple { at_ := r.at_ + 1, deep := r.deep, bad := r.bad, out := r.out } r1 ≤ slack .one r r1 := by
        by_cases c : r1.bad = true
        · rw [slack_bad (m := .one) (r := r) (.inl rfl) c]; exact slack_le _ _ _
        · rw [slack_zero (r' := r1) (by simpa using c)]; omega
      refine ⟨d, by show r.at_ ≤ r1.at_; omega, by show r1.at_ ≤ _; have := isT_lt h33; omega, b, o, ?_, ?_⟩
      · show ns.length ≤ (ns1 ++ _).length
        rw [List.length_append]; omega
      · show (ns1 ++ _).length ≤ ns.length + (r1.at_ - r.at_) + slack .one r r1
        rw [List.length_append, List.length_singleton]; omega
    split
    · rename_i hx
      refine ⟨rfl, Nat.le_succ _, by show r.at_ + 1 ≤ _; first | (have := isT_lt hx; omega) | (have := kindR_lt hx; omega), fun h => h, rfl, ?_, ?_⟩
      · show ns.length ≤ (ns ++ _).length
        rw [List.length_append]; omega
      · show (ns ++ _).length ≤ ns.length + (r.at_ + 1 - r.at_) + _
        rw [List.length_append, List.length_singleton]; omega
    split
    · rename_i h40
      have ih := exF_I tk f .expr (onR r) ns 0
      generalize exF tk f .expr (onR r) ns 0 = q at *
      obtain ⟨r1, ns1, k1⟩ := q
      obtain ⟨d, a, a2, b, o, l, z⟩ := ih
      simp only [onR, deepM] at d a a2 b o l z
      obtain ⟨wd, wa, wa2, wb, wo⟩ := wantR_I tk r1 (s1 41)
      have h2 : slack .expr { at_ := r.at_ + 1, deep := r.deep, bad := r.bad, out := r.out } r1 ≤ slack .one r (wantR tk r1 (s1 41)) := by
        by_cases c : r1.bad = true
        · rw [slack_bad (.inl rfl) (wb c)]; exact slack_le _ _ _
        · rw [slack_zero (r' := r1) (by simpa using c)]; omega
      refine ⟨wd.trans d, by show r.at_ ≤ (wantR tk r1 (s1 41)).at_; omega, by show (wantR tk r1 (s1 41)).at_ ≤ _; have := isT_lt h40; omega, fun h => wb (b h), wo.trans o, l, ?_⟩
      show ns1.length ≤ ns.length + ((wantR tk r1 (s1 41)).at_ - r.at_) + slack .one r (wantR tk r1 (s1 41))
      omega
    split
    · rename_i hx
      refine ⟨rfl, Nat.le_succ _, by show r.at_ + 1 ≤ _; first | (have := isT_lt hx; omega) | (have := kindR_lt hx; omega), fun h => h, rfl, ?_, ?_⟩
      · show ns.length ≤ (ns ++ _).length
        rw [List.length_append]; omega
      · show (ns ++ _).length ≤ ns.length + (r.at_ + 1 - r.at_) + _
        rw [List.length_append, List.length_singleton]; omega
    · split
      · rename_i hx
        refine ⟨rfl, Nat.le_succ _, by show r.at_ + 1 ≤ _; first | (have := isT_lt hx; omega) | (have := kindR_lt hx; omega), fun h => h, rfl, ?_, ?_⟩
        · show ns.length ≤ (ns ++ _).length
          rw [List.length_append]; omega
        · show (ns ++ _).length ≤ ns.length + (r.at_ + 1 - r.at_) + _
          rw [List.length_append, List.length_singleton]; omega
      · refine ⟨rfl, Nat.le_refl _, by show r.at_ ≤ _; omega, fun _ => rfl, rfl, ?_, ?_⟩
        · show ns.length ≤ (ns ++ _).length
          rw [List.length_append]; omega
        · show (ns ++ _).length ≤ ns.length + (r.at_ - r.at_) + slack .one r (badR r)
          rw [slack_bad (.inl rfl) rfl, List.length_append, List.length_singleton]; omega
  | f + 1, .product, r, ns, k => by rw [exF]; exact exI_two (m1 := .simple) (m2 := .prodL) rfl rfl rfl rfl rfl (exF_I tk f .simple r ns 0) (fun r ns k => exF_I tk f .prodL r ns k)
  | f + 1, .sum, r, ns, k => by rw [exF]; exact exI_two (m1 := .product) (m2 := .sumL) rfl rfl rfl rfl rfl (exF_I tk f .product r ns 0) (fun r ns k => exF_I tk f .sumL r ns k)
  | f + 1, .prodL, r, ns, k => by
    rw [exF]
    split
    · rename_i h
      exact exI_op (m1 := .simple) (m := .prodL) (isT_nb h) (isT_lt h) rfl rfl (exF_I tk f .simple (onR r) ns 0) (fun r ns k => exF_I tk f .prodL r ns k) 6 k
    split
    · rename_i _ h
      exact exI_op (m1 := .simple) (m := .prodL) (isT_nb h) (isT_lt h) rfl rfl (exF_I tk f .simple (onR r) ns 0) (fun r ns k => exF_I tk f .prodL r ns k) 7 k
    · exact ExI.base rfl
  | f + 1, .sumL, r, ns, k => by
    rw [exF]
    split
    · rename_i h
      exact exI_op (m1 := .product) (m := .sumL) (isT_nb h) (isT_lt h) rfl rfl (exF_I tk f .product (onR r) ns 0) (fun r ns k => exF_I tk f .sumL r ns k) 4 k
    split
    · rename_i _ h
      exact exI_op (m1 := .product) (m := .sumL) (isT_nb h) (isT_lt h) rfl rfl (exF_I tk f .product (onR r) ns 0) (fun r ns k => exF_I tk f .sumL r ns k) 5 k
    · exact ExI.base rfl
  | f + 1, .cmp, r, ns, k => by
    rw [exF]
    refine exI_two (m1 := .sum) (m2 := .prodL) (g := fun r ns k => if isT tk r (s1 60) = true then match exF tk f .sum (onR r) ns 0 with | (r, ns, b) => (r, ns ++ [two 8 k b], (ns.length : Int)) else if isT tk r (s1 61) = true then match exF tk f .sum (onR r) ns 0 with | (r, ns, b) => (r, ns ++ [two 9 k b], (ns.length : Int)) else (r, ns, k)) rfl rfl rfl rfl rfl (exF_I tk f .sum r ns 0) (fun r ns k => ?_)
    simp only []
    split
    · rename_i h
      exact exI_op (m1 := .sum) (m := .prodL) (g := fun r ns k => (r, ns, k)) (isT_nb h) (isT_lt h) rfl rfl (exF_I tk f .sum (onR r) ns 0) (fun r ns k => ExI.base rfl) 8 k
    split
    · rename_i _ h
      exact exI_op (m1 := .sum) (m := .prodL) (g := fun r ns k => (r, ns, k)) (isT_nb h) (isT_lt h) rfl rfl (exF_I tk f .sum (onR r) ns 0) (fun r ns k => ExI.base rfl) 9 k
    · exact ExI.base rfl
  | f + 1, .expr, r, ns, k => by
    rw [exF]
    have ih := exF_I tk f .cmp (downR r) ns 0
    generalize exF tk f .cmp (downR r) ns 0 = q at *
    obtain ⟨r1, ns1, k1⟩ := q
    obtain ⟨d, a, a2, b, o, l, z⟩ := ih
    obtain ⟨d', a', a2', b', o', l', z'⟩ := exF_I tk f .exprL r1 ns1 k1
    simp only [downR] at d a a2 b o l
    simp only [] at z
    simp only []
    generalize exF tk f .exprL r1 ns1 k1 = q' at *
    have e1 : r1.deep = r.deep + 1 := d
    have e2 : q'.1.deep = r1.deep - 1 := d'
    refine ⟨by show q'.1.deep = r.deep; omega, Nat.le_trans a a', by omega, fun h => b' (b (by rw [h]; rfl)), o'.trans o, Nat.le_trans l l', ?_⟩
    have key : slack .cmp (downR r) r1 + slack .exprL r1 q'.1 ≤ slack .expr r q'.1 := by
      by_cases c : r1.bad = true
      · rw [slack_bad (m := .expr) (r := r) (.inl rfl) (b' c), slack_loop (m := .exprL) rfl c]
        exact slack_le _ _ _
      · rw [slack_zero (r' := r1) (by simpa using c), Nat.zero_add]
        by_cases c2 : q'.1.bad = true
        · rw [slack_bad (m := .expr) (r := r) (.inl rfl) c2]; exact slack_le _ _ _
        · rw [slack_zero (r' := q'.1) (by simpa using c2)]; omega
    have e3 : (downR r).at_ = r.at_ := rfl
    rw [e3] at z
    omega
  | f + 1, .exprL, r, ns, k => by
    rw [exF]
    split
    · rename_i h
      exact exI_op (m1 := .cmp) (m := .exprL) (isT_nb h) (isT_lt h) rfl rfl (exF_I tk f .cmp (onR r) ns 0) (fun r ns k => exF_I tk f .exprL r ns k) 10 k
    · exact ⟨rfl, Nat.le_refl _, by show r.at_ ≤ _; omega, fun h => h, rfl, Nat.le_refl _, by show ns.length ≤ ns.length + (r.at_ - r.at_) + _; omega⟩

end Go.Proofs.Ytipkbkhnaekceaa

namespace Go.Proofs.Ytipkbkhnaekceaa
open Go.RowKit
set_option linter.unusedVariables false

/-- What a reader of an expression keeps: what lies below B; rows of other types; of all that lies below X every row but the reader's own. -/
structure FrE (B X : Nat) (w w' : World) : Prop where
  fr : FrT [101, 53, 72] B w w'
  old : ∀ (k : Nat) (c : Array Value) (t : TypeId) (fr : Nat × Nat), k < X → w.heap[k]? = some (.cells c t fr) → t ≠ 101 → w'.heap[k]? = some (.cells c t fr)
theorem FrE.trans {B X : Nat} {w w1 w2 : World} (h : FrE B X w w1) (k : FrE B X w1 w2) : FrE B X w w2 :=
  ⟨h.fr.trans k.fr, fun b c t fr hb hh ht => k.old b c t fr hb (h.old b c t fr hb hh ht) ht⟩
theorem FrE.below {B X : Nat} {w w' : World} (h : Below w.heap.size w w') (hB : B ≤ w.heap.size) : FrE B X w w' :=
  ⟨FrT.below h hB, fun k c t fr _ hk _ => (h.block k (Array.getElem?_eq_some_iff.1 hk).1).trans hk⟩
structure ExS (B X p bo : Nat) (lv ov : Value) (tk : List TokD) (r : RdD) (o : Value) (ns : List NodeD) (w : World) : Prop where
  rd : RdB p lv ov r w
  bx : Box11 bo o w
  nd : NodesO X o ns w
  tok : RowC 2 TokV w lv tk
  pB : B ≤ p
  bB : X ≤ bo
  BX : B ≤ X
  low : ∀ b o n c, lv = .slice (some ⟨b, o, none⟩) n c → b < B
theorem tok_fr {B : Nat} {lv : Value} {tk : List TokD} {w w' : World} (h : RowC 2 TokV w lv tk) (hlo : ∀ b o n c, lv = .slice (some ⟨b, o, none⟩) n c → b < B) (hb : Below B w w') : RowC 2 TokV w' lv tk := by
  obtain ⟨a, cap, rfl, hcap, hh⟩ := h
  refine ⟨a, cap, rfl, hcap, fun h0 => ?_⟩
  obtain ⟨b, off, rfl, hlt, hc⟩ := hh h0
  have hbB := hlo b off _ _ rfl
  refine ⟨b, off, rfl, Nat.lt_of_lt_of_le hlt hb.size, fun i hi => ?_⟩
  obtain ⟨vs, h1, h2, h3⟩ := hc i hi
  exact ⟨vs, h1, fun j hj => (World.cell?_of_block (hb.block b hbB)).trans (h2 j hj), h3⟩
theorem nodesO_fr {ts : List TypeId} {B B' : Nat} {v : Value} {ns : List NodeD} {w w' : World} (h : NodesO B v ns w) (hf : FrT ts B' w w') (h1 : 3 ∉ ts) (h2 : 72 ∉ ts) : NodesO B v ns w' :=
  RowO.world h (fun _ _ h3 => own_frT h3 hf h2) (fun _ _ hx => nodV_fr hx hf h1)
/-- The reader itself has gone on. -/
theorem ExS.rdr {B X p bo : Nat} {lv ov : Value} {tk : List TokD} {r r' : RdD} {o : Value} {ns : List NodeD} {w w' : World} (h : ExS B X p bo lv ov tk r o ns w) (hr : RdB p lv ov r' w') (hf : FrR B w w') : ExS B X p bo lv ov tk r' o ns w' :=
  ⟨hr, hf.typ _ _ _ _ h.bx (by decide), nodesO_fr h.nd hf (by decide) (by decide), tok_fr h.tok h.low hf.bel, h.pB, h.bB, h.BX, h.low⟩
/-- The nodes have grown. -/
theorem ExS.grew {B X p bo : Nat} {lv ov : Value} {tk : List TokD} {r : RdD} {o o' : Value} {ns ns' : List NodeD} {w w' : World} (h : ExS B X p bo lv ov tk r o ns w) (hb : Box11 bo o' w') (hn : NodesO X o' ns' w') (hf : FrX X w w') : ExS B X p bo lv ov tk r o' ns' w' :=
  ⟨hf.typ _ _ _ _ h.rd (by decide), hb, hn, tok_fr h.tok h.low (hf.bel.mono h.BX), h.pB, h.bB, h.BX, h.low⟩
theorem FrR.toE {B X : Nat} {w w' : World} (h : FrR B w w') : FrE B X w w' := ⟨FrT.wide h (by simp), fun k c t fr _ hk ht => h.typ k c t fr hk (by simpa using ht)⟩
theorem FrX.toE {B X : Nat} {w w' : World} (hBX : B ≤ X) (h : FrX X w w') : FrE B X w w' := ⟨(FrT.wide h (by simp)).base hBX, fun k c t fr hkX hk _ => (h.bel.block k hkX).trans hk⟩
theorem ExS.below {B X p bo : Nat} {lv ov : Value} {tk : List TokD} {r : RdD} {o : Value} {ns : List NodeD} {w w' : World} (h : ExS B X p bo lv ov tk r o ns w) (hb : Below w.heap.size w w') : ExS B X p bo lv ov tk r o ns w' :=
  h.rdr ((hb.block p (rdb_lt h.rd)).trans h.rd) (FrT.below hb (Nat.le_trans h.pB (Nat.le_of_lt (rdb_lt h.rd))))

set_option maxHeartbeats 1600000 in
set_option maxRecDepth 100000 in
theorem two_any {B X p bo : Nat} {lv ov : Value} {tk : List TokD} {r : RdD} {o : Value} {ns : List NodeD} (op a b : Int) (w : World) (hl : ns.length ≤ 100000) (h : ExS B X p bo lv ov tk r o ns w) :
    Calls Try.prog 97 #[.pointer (some ⟨p, 0, none⟩), .pointer (some ⟨bo, 0, none⟩), .int .i64 op, .int .i64 a, .int .i64 b] w fun e w' => e = .returned (.int .i64 ns.length) ∧ ∃ o', ExS B X p bo lv ov tk r o' (ns ++ [two op a b]) w' ∧ FrE B X w w' := by
  have hXw : X ≤ w.heap.size := Nat.le_trans h.bB (Nat.le_of_lt (Array.getElem?_eq_some_iff.1 h.bx).1)
  have hBX := h.BX
  have HK : Hid (OwnZ X (.slice (some ⟨w.heap.size, 0, none⟩) 2 2) [a, b] (w.alloc (.cells #[.int .i64 a, .int .i64 b] 3))) := World.ownsRow_lit (base := X) (e := 3) (size := 1) w #[.int .i64 a, .int .i64 b] 2 hXw (by decide) rfl
  have bal : Hid (Below w.heap.size w (w.alloc (.cells #[.int .i64 a, .int .i64 b] 3))) := (Below.refl _ _).alloc (Nat.le_refl _) _
  have H : Hid (ExS B X p bo lv ov tk r o ns (w.alloc (.cells #[.int .i64 a, .int .i64 b] 3))) := h.below bal.out
  have HP : Hid (∀ _ : Unit, _) := fun _ => put11_any (B := X) bo o (.slice (some ⟨w.heap.size, 0, none⟩) 2 2) ns (two op a b) _ h.bB hl H.out.bx H.out.nd HK.out
  have HF : Hid (FrE B X w (w.alloc (.cells #[.int .i64 a, .int .i64 b] 3))) := FrE.below bal.out (Nat.le_trans hBX hXw)
  go_enter Try.func97, Try.ntmps97
  go_wp2_with fail
  refine (HP.out ()).mono ?_
  rintro e w2 ⟨rfl, o', h1, h2, h3⟩
  have R : Hid (ExS B X p bo lv ov tk r o' (ns ++ [two op a b]) w2) := H.out.grew h1 h2 h3
  have F : Hid (FrE B X w w2) := HF.out.trans (FrX.toE hBX h3)
  clear h1 h2 h3
  go_wp2
  go_ret
  exact ⟨rfl, o', R.out, F.out⟩

end Go.Proofs.Ytipkbkhnaekceaa

namespace Go.Proofs.Ytipkbkhnaekceaa
open Go.RowKit
set_option linter.unusedVariables false

def rankM : Md → Nat
  | .one => 1 | .simple => 2 | .prodL => 3 | .product => 4 | .sumL => 5 | .sum => 6 | .cmp => 7 | .exprL => 8 | .expr => 9
/-- What is asked of the reader at a fuel. -/
structure Ask (tk : List TokD) (g : Nat) (m : Md) (r : RdD) (ns : List NodeD) : Prop where
  len : tk.length ≤ 1000
  at0 : r.at_ ≤ tk.length
  need : rankM m + 16 * (tk.length - r.at_) ≤ g
  room : ns.length + (tk.length - r.at_) + g ≤ 90000
  lo : -1000000 ≤ r.deep - g
  hi : r.deep + g ≤ 1000000
  num : ∀ x ∈ tk, x.kind = 2 → x.text.size ≤ 2
/-- A reader's contract at a fuel. -/
def ExC (g : Nat) (m : Md) (fn : FuncId) : Prop :=
  ∀ (B X p bo : Nat) (lv ov : Value) (tk : List TokD) (r : RdD) (o : Value) (ns : List NodeD) (w : World), Ask tk g m r ns → ExS B X p bo lv ov tk r o ns w →
    Calls Try.prog fn #[.pointer (some ⟨p, 0, none⟩), .pointer (some ⟨bo, 0, none⟩)] w fun e w' => e = .returned (.int .i64 (exF tk g m r ns 0).2.2) ∧ ∃ o', ExS B X p bo lv ov tk (exF tk g m r ns 0).1 o' (exF tk g m r ns 0).2.1 w' ∧ FrE B X w w'

set_option maxHeartbeats 1600000 in
set_option maxRecDepth 100000 in
theorem simple_C (g : Nat) (ih : ExC g .one 102) : ExC (g + 1) .simple 101 := by
  intro B X p bo lv ov tk r o ns w ha h
  obtain ⟨hlen, hat, hneed, hroom, hlo, hhi, hnum⟩ := ha
  have HD : Hid (∀ _ : Unit, _) := fun _ => down_any (B := B) p lv ov r w h.pB (by omega) (by omega) h.rd
  have H : Hid (ExS B X p bo lv ov tk r o ns w) := h
  have HA : Hid (Ask tk g .one (downR r) ns) := ⟨hlen, hat, by simp only [rankM, downR] at hneed ⊢; omega, by simp only [downR]; omega, by simp only [downR]; omega, by simp only [downR]; omega, hnum⟩
  have hI := exF_I tk g .one (downR r) ns 0
  have HE : Hid (∀ _ : Unit, exF tk (g + 1) .simple r ns 0 = (upR (exF tk g .one (downR r) ns 0).1, (exF tk g .one (downR r) ns 0).2.1, (exF tk g .one (downR r) ns 0).2.2)) := fun _ => by rw [exF]
  have HIh : Hid (∀ W, ExS B X p bo lv ov tk (downR r) o ns W → _) := fun W hW => ih B X p bo lv ov tk (downR r) o ns W HA.out hW
  have hdd : (exF tk g .one (downR r) ns 0).1.deep = r.deep + 1 := hI.deep
  clear h hI
  generalize exF tk g .one (downR r) ns 0 = q at *
  go_enter Try.func101, Try.ntmps101
  go_wp2_with fail
  refine (HD.out ()).mono ?_
  rintro e w1 ⟨rfl, h1, h2⟩
  have S1 : Hid (ExS B X p bo lv ov tk (downR r) o ns w1) := H.out.rdr h1 h2
  have F1 : Hid (FrE B X w w1) := FrR.toE h2
  clear h1 h2
  go_wp2_with fail
  refine (HIh.out _ S1.out).mono ?_
  rintro e w2 ⟨rfl, o2, h1, h2⟩
  have S2 : Hid (ExS B X p bo lv ov tk q.1 o2 q.2.1 w2) := h1
  have F2 : Hid (FrE B X w w2) := F1.out.trans h2
  clear h1 h2
  go_wp2_with fail
  refine (up_any (B := B) p lv ov q.1 w2 S2.out.pB (by omega) (by omega) S2.out.rd).mono ?_
  rintro e w3 ⟨rfl, h1, h2⟩
  have S3 : Hid (ExS B X p bo lv ov tk (upR q.1) o2 q.2.1 w3) := S2.out.rdr h1 h2
  have F3 : Hid (FrE B X w w3) := F2.out.trans (FrR.toE h2)
  clear h1 h2
  go_wp2
  go_ret
  rw [HE.out ()]
  exact ⟨rfl, o2, S3.out, F3.out⟩

end Go.Proofs.Ytipkbkhnaekceaa

namespace Go.Proofs.Ytipkbkhnaekceaa
open Go.RowKit
set_option linter.unusedVariables false

/-- What a reader leaves, as the next one asks it. -/
theorem Ask.next {s : ByteArray} {tk : List TokD} {g : Nat} {m m1 m2 : Md} {r : RdD} {ns : List NodeD} {q : RdD × List NodeD × Int} (ha : Ask tk (g + 1) m r ns) (hI : ExI tk m1 r ns q) (hd : deepM m1 r.deep = r.deep) (hs : isT tk q.1 s = true) : Ask tk g m2 (onR q.1) q.2.1 := by
  obtain ⟨hlen, hat, hneed, hroom, hlo, hhi, hnum⟩ := ha
  obtain ⟨d, a, a2, b, o, l, z⟩ := hI
  have h1 := isT_lt hs
  have h2 := slack_le m1 r q.1
  rw [hd] at d
  have h3 : rankM m2 ≤ 9 := by cases m2 <;> decide
  have h4 : 1 ≤ rankM m := by cases m <;> decide
  exact ⟨hlen, by show q.1.at_ + 1 ≤ _; omega, by show rankM m2 + 16 * (tk.length - (q.1.at_ + 1)) ≤ g; omega, by show q.2.1.length + (tk.length - (q.1.at_ + 1)) + g ≤ _; omega, by show _ ≤ q.1.deep - _; omega, by show q.1.deep + _ ≤ _; omega, hnum⟩
theorem Ask.first {tk : List TokD} {g : Nat} {m m1 : Md} {r : RdD} {ns : List NodeD} (ha : Ask tk (g + 1) m r ns) (hr : rankM m1 < rankM m) : Ask tk g m1 r ns := by
  obtain ⟨hlen, hat, hneed, hroom, hlo, hhi, hnum⟩ := ha
  exact ⟨hlen, hat, by omega, by omega, by omega, by omega, hnum⟩

set_option maxHeartbeats 3200000 in
set_option maxRecDepth 100000 in
theorem cmp_C (g : Nat) (ih : ExC g .sum 98) : ExC (g + 1) .cmp 96 := by
  intro B X p bo lv ov tk r o ns w ha h
  have HA : Hid (Ask tk (g + 1) .cmp r ns) := ha
  have hI1 := exF_I tk g .sum r ns 0
  have HI1 : Hid (ExI tk .sum r ns (exF tk g .sum r ns 0)) := hI1
  have hroom := ha.room
  have hlen := ha.len
  have HC : Hid (∀ _ : Unit, _) := fun _ => ih B X p bo lv ov tk r o ns w (ha.first (by decide)) h
  have HE : Hid (∀ _ : Unit, exF tk (g + 1) .cmp r ns 0 = if isT tk (exF tk g .sum r ns 0).1 (s1 60) = true then ((exF tk g .sum (onR (exF tk g .sum r ns 0).1) (exF tk g .sum r ns 0).2.1 0).1, (exF tk g .sum (onR (exF tk g .sum r ns 0).1) (exF tk g .sum r ns 0).2.1 0).2.1 ++ [two 8 (exF tk g .sum r ns 0).2.2 (exF tk g .sum (onR (exF tk g .sum r ns 0).1) (exF tk g .sum r ns 0).2.1 0).2.2], ((exF tk g .sum (onR (exF tk g .sum r ns 0).1) (exF tk g .sum r ns 0).2.1 0).2.1.length : Int))
      else if isT tk (exF tk g .sum r ns 0).1 (s1 61) = true then ((exF tk g .sum (onR (exF tk g .sum r ns 0).1) (exF tk g .sum r ns 0).2.1 0).1, (exF tk g .sum (onR (exF tk g .sum r ns 0).1) (exF tk g .sum r ns 0).2.1 0).2.1 ++ [two 9 (exF tk g .sum r ns 0).2.2 (exF tk g .sum (onR (exF tk g .sum r ns 0).1) (exF tk g .sum r ns 0).2.1 0).2.2], ((exF tk g .sum (onR (exF tk g .sum r ns 0).1) (exF tk g .sum r ns 0).2.1 0).2.1.length : Int))
      else exF tk g .sum r ns 0) := fun _ => by rw [exF]
  clear h ha hI1
  generalize exF tk g .sum r ns 0 = q at *
  have HI2 : Hid (ExI tk .sum (onR q.1) q.2.1 (exF tk g .sum (onR q.1) q.2.1 0)) := exF_I tk g .sum (onR q.1) q.2.1 0
  have HIh : Hid (∀ (o2 : Value) (W : World), Ask tk g .sum (onR q.1) q.2.1 → ExS B X p bo lv ov tk (onR q.1) o2 q.2.1 W → _) := fun o2 W ha hW => ih B X p bo lv ov tk (onR q.1) o2 q.2.1 W ha hW
  have hq2 : isT tk q.1 (s1 60) = true ∨ isT tk q.1 (s1 61) = true → (exF tk g .sum (onR q.1) q.2.1 0).2.1.length ≤ 100000 := fun hs => by
    have z1 := HI1.out.siz
    have z2 := HI2.out.siz
    have a2 := HI2.out.at2
    have a1 := HI1.out.at2
    have b1 := HI1.out.at1
    have s1' := slack_le .sum r q.1
    have s2' := slack_le .sum (onR q.1) (exF tk g .sum (onR q.1) q.2.1 0).1
    have e1 : (onR q.1).at_ = q.1.at_ + 1 := rfl
    rw [e1] at z2 a2
    omega
  generalize exF tk g .sum (onR q.1) q.2.1 0 = q2 at *
  go_enter Try.func96, Try.ntmps96
  go_wp2_with fail
  refine (HC.out ()).mono ?_
  rintro e w1 ⟨rfl, o1, h1, h2⟩
  have S1 : Hid (ExS B X p bo lv ov tk q.1 o1 q.2.1 w1) := h1
  have F1 : Hid (FrE B X w w1) := h2
  clear h1 h2 HC
  go_wp2_with fail
  refine (sign_any (B := B) p lv ov tk q.1 (s1 60) w1 S1.out.pB (by omega) S1.out.rd S1.out.tok).mono ?_
  rintro e w2 ⟨rfl, h1, h2⟩
  cases hs : isT tk q.1 (s1 60) with
  | true =>
    rw [signR, if_pos hs] at h1
    have S2 : Hid (ExS B X p bo lv ov tk (onR q.1) o1 q.2.1 w2) := S1.out.rdr h1 h2
    have F2 : Hid (FrE B X w w2) := F1.out.trans (FrR.toE h2)
    have HA2 : Hid (Ask tk g .sum (onR q.1) q.2.1) := HA.out.next HI1.out rfl hs
    have hql := hq2 (.inl hs)
    have HV : Hid (_ = _) := (HE.out ()).trans (if_pos hs)
    clear h1 h2 hs hq2 HE
    go_wp2_with fail
    refine (HIh.out o1 _ HA2.out S2.out).mono ?_
    rintro e w3 ⟨rfl, o3, h1, h2⟩
    have S3 : Hid (ExS B X p bo lv ov tk q2.1 o3 q2.2.1 w3) := h1
    have F3 : Hid (FrE B X w w3) := F2.out.trans h2
    clear h1 h2
    go_wp2_with fail
    refine (two_any 8 q.2.2 q2.2.2 w3 hql S3.out).mono ?_
    rintro e w4 ⟨rfl, o4, h1, h2⟩
    have S4 : Hid (ExS B X p bo lv ov tk q2.1 o4 (q2.2.1 ++ [two 8 q.2.2 q2.2.2]) w4) := h1
    have F4 : Hid (FrE B X w w4) := F3.out.trans h2
    clear h1 h2
    go_wp2
    go_ret
    rw [HV.out]
    exact ⟨rfl, o4, S4.out, F4.out⟩
  | false =>
    rw [signR, if_neg (by rw [hs]; decide)] at h1
    have S2 : Hid (ExS B X p bo lv ov tk q.1 o1 q.2.1 w2) := S1.out.rdr h1 h2
    have F2 : Hid (FrE B X w w2) := F1.out.trans (FrR.toE h2)
    have HE2 : Hid (∀ _ : Unit, _) := fun _ => (HE.out ()).trans (if_neg (by rw [hs]; decide))
    clear h1 h2 hs HE
    go_wp2_with fail
    refine (sign_any (B := B) p lv ov tk q.1 (s1 61) w2 S2.out.pB (by omega) S2.out.rd S2.out.tok).mono ?_
    rintro e w3 ⟨rfl, h1, h2⟩
    cases hs : isT tk q.1 (s1 61) with
    | true =>
      rw [signR, if_pos hs] at h1
      have S3 : Hid (ExS B X p bo lv ov tk (onR q.1) o1 q.2.1 w3) := S2.out.rdr h1 h2
      have F3 : Hid (FrE B X w w3) := F2.out.trans (FrR.toE h2)
      have HA2 : Hid (Ask tk g .sum (onR q.1) q.2.1) := HA.out.next HI1.out rfl hs
      have hql := hq2 (.inr hs)
      have HV : Hid (_ = _) := (HE2.out ()).trans (if_pos hs)
      clear h1 h2 hs hq2 HE2
      go_wp2_with fail
      refine (HIh.out o1 _ HA2.out S3.out).mono ?_
      rintro e w4 ⟨rfl, o4, h1, h2⟩
      have S4 : Hid (ExS B X p bo lv ov tk q2.1 o4 q2.2.1 w4) := h1
      have F4 : Hid (FrE B X w w4) := F3.out.trans h2
      clear h1 h2
      go_wp2_with fail
      refine (two_any 9 q.2.2 q2.2.2 w4 hql S4.out).mono ?_
      rintro e w5 ⟨rfl, o5, h1, h2⟩
      have S5 : Hid (ExS B X p bo lv ov tk q2.1 o5 (q2.2.1 ++ [two 9 q.2.2 q2.2.2]) w5) := h1
      have F5 : Hid (FrE B X w w5) := F4.out.trans h2
      clear h1 h2
      go_wp2
      go_ret
      rw [HV.out]
      exact ⟨rfl, o5, S5.out, F5.out⟩
    | false =>
      rw [signR, if_neg (by rw [hs]; decide)] at h1
      have S3 : Hid (ExS B X p bo lv ov tk q.1 o1 q.2.1 w3) := S2.out.rdr h1 h2
      have F3 : Hid (FrE B X w w3) := F2.out.trans (FrR.toE h2)
      have HV : Hid (_ = _) := (HE2.out ()).trans (if_neg (by rw [hs]; decide))
      clear h1 h2 hs hq2 HE2
      go_wp2
      go_ret
      rw [HV.out]
      exact ⟨rfl, o1, S3.out, F3.out⟩

end Go.Proofs.Ytipkbkhnaekceaa

namespace Go.Proofs.Ytipkbkhnaekceaa
open Go.RowKit
set_option linter.unusedVariables false

theorem Ask.sub {s : ByteArray} {tk : List TokD} {f : Nat} {m m1 : Md} {r : RdD} {ns : List NodeD} (ha : Ask tk (f + 1) m r ns) (hs : isT tk r s = true) : Ask tk f m1 (onR r) ns := by
  obtain ⟨hlen, hat, hneed, hroom, hlo, hhi, hnum⟩ := ha
  have h1 := isT_lt hs
  have h3 : rankM m1 ≤ 9 := by cases m1 <;> decide
  have h4 : 1 ≤ rankM m := by cases m <;> decide
  exact ⟨hlen, by show r.at_ + 1 ≤ _; omega, by show rankM m1 + 16 * (tk.length - (r.at_ + 1)) ≤ f; omega, by show ns.length + (tk.length - (r.at_ + 1)) + f ≤ _; omega, by show _ ≤ r.deep - _; omega, by show r.deep + _ ≤ _; omega, hnum⟩
theorem Ask.loop {s : ByteArray} {tk : List TokD} {f : Nat} {m m1 : Md} {r : RdD} {ns : List NodeD} {q : RdD × List NodeD × Int} {x : NodeD} (ha : Ask tk (f + 1) m r ns) (hs : isT tk r s = true) (hI : ExI tk m1 (onR r) ns q) (hd : deepM m1 r.deep = r.deep) : Ask tk f m q.1 (q.2.1 ++ [x]) := by
  obtain ⟨hlen, hat, hneed, hroom, hlo, hhi, hnum⟩ := ha
  obtain ⟨d, a, a2, b, o, l, z⟩ := hI
  have h1 := isT_lt hs
  have h2 := slack_le m1 (onR r) q.1
  have e1 : (onR r).at_ = r.at_ + 1 := rfl
  have e2 : (onR r).deep = r.deep := rfl
  rw [e1] at a a2 z
  rw [e2, hd] at d
  have h3 : 1 ≤ rankM m := by cases m <;> decide
  exact ⟨hlen, by omega, by omega, by rw [List.length_append, List.length_singleton]; omega, by omega, by omega, hnum⟩
/-- A first reader is read: its loop goes on. -/
theorem Ask.then_ {tk : List TokD} {g : Nat} {m m1 m2 : Md} {r : RdD} {ns : List NodeD} {q : RdD × List NodeD × Int} (ha : Ask tk (g + 1) m r ns) (hI : ExI tk m1 r ns q) (hd : deepM m1 r.deep = r.deep) (hr : rankM m2 < rankM m) : Ask tk g m2 q.1 q.2.1 := by
  obtain ⟨hlen, hat, hneed, hroom, hlo, hhi, hnum⟩ := ha
  obtain ⟨d, a, a2, b, o, l, z⟩ := hI
  have h2 := slack_le m1 r q.1
  rw [hd] at d
  exact ⟨hlen, by omega, by omega, by omega, by omega, by omega, hnum⟩

set_option maxHeartbeats 6400000 in
set_option maxRecDepth 100000 in
theorem product_C (g : Nat) (ih : ∀ f, f ≤ g → ExC f .simple 101) : ExC (g + 1) .product 100 := by
  intro B X p bo lv ov tk r o ns w ha h
  have HA : Hid (Ask tk (g + 1) .product r ns) := ha
  have hlen := ha.len
  have HI1 : Hid (ExI tk .simple r ns (exF tk g .simple r ns 0)) := exF_I tk g .simple r ns 0
  have HC : Hid (∀ _ : Unit, _) := fun _ => ih g (Nat.le_refl _) B X p bo lv ov tk r o ns w (ha.first (by decide)) h
  have HE : Hid (exF tk g .prodL (exF tk g .simple r ns 0).1 (exF tk g .simple r ns 0).2.1 (exF tk g .simple r ns 0).2.2 = exF tk (g + 1) .product r ns 0) := by rw [Hid, exF]
  have HAL : Hid (Ask tk g .prodL (exF tk g .simple r ns 0).1 (exF tk g .simple r ns 0).2.1) := HA.out.then_ HI1.out rfl (by decide)
  clear h ha HI1
  generalize exF tk g .simple r ns 0 = q at *
  generalize exF tk (g + 1) .product r ns 0 = qq at *
  go_enter Try.func100, Try.ntmps100
  go_wp2_with fail
  refine (HC.out ()).mono ?_
  rintro e w1 ⟨rfl, oo, h1, h2⟩
  have S1 : Hid (ExS B X p bo lv ov tk q.1 oo q.2.1 w1) := h1
  have F1 : Hid (FrE B X w w1) := h2
  clear h1 h2 HC
  go_wp2
  go_loopg [5] g (fun gg kv wr => ∃ (k1 : Int) (r1 : RdD) (ns1 : List NodeD) (o1 : Value), kv = .int .i64 k1 ∧ exF tk gg .prodL r1 ns1 k1 = qq ∧ Ask tk gg .prodL r1 ns1 ∧ gg ≤ g ∧ ExS B X p bo lv ov tk r1 o1 ns1 wr ∧ FrE B X w wr)
  case atStart => exact ⟨_, _, _, _, rfl, HE.out, HAL.out, Nat.le_refl _, S1.out, F1.out⟩
  case round =>
    obtain ⟨k1, r1, ns1, o1, rfl, hq, hA, hgg, hS, hF⟩ := hrel
    have hne := hA.need
    obtain ⟨f, rfl⟩ : ∃ f, gk = f + 1 := ⟨gk - 1, by simp only [rankM] at hne; omega⟩
    have HQ : Hid (exF tk (f + 1) .prodL r1 ns1 k1 = qq) := hq
    have HA1 : Hid (Ask tk (f + 1) .prodL r1 ns1) := hA
    have hfg : f + 1 ≤ g := hgg
    have SR : Hid (ExS B X p bo lv ov tk r1 o1 ns1 wr) := hS
    have FR : Hid (FrE B X w wr) := hF
    have e3 : wr.cell? ⟨p, 3, none⟩ = some (.bool r1.bad) := run_cell hS.rd rfl
    have HE1 : Hid (∀ _ : Unit, exF tk (f + 1) .prodL r1 ns1 k1 = if isT tk r1 (s1 42) = true then exF tk f .prodL (exF tk f .simple (onR r1) ns1 0).1 ((exF tk f .simple (onR r1) ns1 0).2.1 ++ [two 6 k1 (exF tk f .simple (onR r1) ns1 0).2.2]) (exF tk f .simple (onR r1) ns1 0).2.1.length
      else if isT tk r1 (s1 47) = true then exF tk f .prodL (exF tk f .simple (onR r1) ns1 0).1 ((exF tk f .simple (onR r1) ns1 0).2.1 ++ [two 7 k1 (exF tk f .simple (onR r1) ns1 0).2.2]) (exF tk f .simple (onR r1) ns1 0).2.1.length
      else (r1, ns1, k1)) := fun _ => by rw [exF]
    clear hq hA hgg hS hF hne HE HAL
    cases hb : r1.bad with
    | true =>
      have HV : Hid (qq = (r1, ns1, k1)) := by
        rw [Hid, ← HQ.out, HE1.out (), if_neg (by rw [isT_bad hb]; decide), if_neg (by rw [isT_bad hb]; decide)]
      rw [hb] at e3
      clear hb HE1 HQ
      go_wp2
      go_ret
      rw [HV.out]
      exact ⟨rfl, o1, SR.out, FR.out⟩
    | false =>
      rw [hb] at e3
      clear hb
      go_wp2_with fail
      refine (sign_any (B := B) p lv ov tk r1 (s1 42) wr SR.out.pB (by omega) SR.out.rd SR.out.tok).mono ?_
      rintro e w2 ⟨rfl, h1, h2⟩
      cases hs : isT tk r1 (s1 42) with
      | true =>
        rw [signR, if_pos hs] at h1
        have S2 : Hid (ExS B X p bo lv ov tk (onR r1) o1 ns1 w2) := SR.out.rdr h1 h2
        have F2 : Hid (FrE B X w w2) := FR.out.trans (FrR.toE h2)
        have HA2 : Hid (Ask tk f .simple (onR r1) ns1) := HA1.out.sub hs
        have HI2 : Hid (ExI tk .simple (onR r1) ns1 (exF tk f .simple (onR r1) ns1 0)) := exF_I tk f .simple (onR r1) ns1 0
        have HIh : Hid (∀ _ : Unit, _) := fun _ => ih f (by omega) B X p bo lv ov tk (onR r1) o1 ns1 w2 HA2.out S2.out
        have HNx : Hid (∀ x, Ask tk f .prodL (exF tk f .simple (onR r1) ns1 0).1 ((exF tk f .simple (onR r1) ns1 0).2.1 ++ [x])) := fun x => HA1.out.loop hs HI2.out rfl
        have HV : Hid (_ = _) := HE1.out ()
        rw [if_pos hs] at HV
        have hql : (exF tk f .simple (onR r1) ns1 0).2.1.length ≤ 100000 := by
          have := (HNx.out (two 0 0 0)).room
          rw [List.length_append] at this
          omega
        clear h1 h2 hs HA2 HI2
        generalize exF tk f .simple (onR r1) ns1 0 = q2 at *
        go_wp2_with fail
        refine (HIh.out ()).mono ?_
        rintro e w3 ⟨rfl, o3, h1, h2⟩
        have S3 : Hid (ExS B X p bo lv ov tk q2.1 o3 q2.2.1 w3) := h1
        have F3 : Hid (FrE B X w w3) := F2.out.trans h2
        clear h1 h2
        go_wp2_with fail
        refine (two_any 6 k1 q2.2.2 w3 hql S3.out).mono ?_
        rintro e w4 ⟨rfl, o4, h1, h2⟩
        have S4 : Hid (ExS B X p bo lv ov tk q2.1 o4 (q2.2.1 ++ [two 6 k1 q2.2.2]) w4) := h1
        have F4 : Hid (FrE B X w w4) := F3.out.trans h2
        clear h1 h2
        go_wp2
        go_roundg f
        case measure => omega
        case rel => exact ⟨_, q2.1, _, o4, rfl, by rw [← HQ.out, HV.out], HNx.out _, Nat.le_trans (Nat.le_succ f) hfg, S4.out, F4.out⟩
      | false =>
        rw [signR, if_neg (by rw [hs]; decide)] at h1
        have S2a : Hid (ExS B X p bo lv ov tk r1 o1 ns1 w2) := SR.out.rdr h1 h2
        have F2a : Hid (FrE B X w w2) := FR.out.trans (FrR.toE h2)
        have HE2 : Hid (∀ _ : Unit, _ = _) := fun _ => (HE1.out ()).trans (if_neg (by rw [hs]; decide))
        clear h1 h2 hs HE1
        go_wp2_with fail
        refine (sign_any (B := B) p lv ov tk r1 (s1 47) w2 S2a.out.pB (by omega) S2a.out.rd S2a.out.tok).mono ?_
        rintro e w2b ⟨rfl, h1, h2⟩
        cases hs : isT tk r1 (s1 47) with
        | true =>
          rw [signR, if_pos hs] at h1
          have S2 : Hid (ExS B X p bo lv ov tk (onR r1) o1 ns1 w2b) := S2a.out.rdr h1 h2
          have F2 : Hid (FrE B X w w2b) := F2a.out.trans (FrR.toE h2)
          have HA2 : Hid (Ask tk f .simple (onR r1) ns1) := HA1.out.sub hs
          have HI2 : Hid (ExI tk .simple (onR r1) ns1 (exF tk f .simple (onR r1) ns1 0)) := exF_I tk f .simple (onR r1) ns1 0
          have HIh : Hid (∀ _ : Unit, _) := fun _ => ih f (by omega) B X p bo lv ov tk (onR r1) o1 ns1 w2b HA2.out S2.out
          have HNx : Hid (∀ x, Ask tk f .prodL (exF tk f .simple (onR r1) ns1 0).1 ((exF tk f .simple (onR r1) ns1 0).2.1 ++ [x])) := fun x => HA1.out.loop hs HI2.out rfl
          have HV : Hid (_ = _) := HE2.out ()
          rw [if_pos hs] at HV
          have hql : (exF tk f .simple (onR r1) ns1 0).2.1.length ≤ 100000 := by
            have := (HNx.out (two 0 0 0)).room
            rw [List.length_append] at this
            omega
          clear h1 h2 hs HA2 HI2
          generalize exF tk f .simple (onR r1) ns1 0 = q2 at *
          go_wp2_with fail
          refine (HIh.out ()).mono ?_
          rintro e w3 ⟨rfl, o3, h1, h2⟩
          have S3 : Hid (ExS B X p bo lv ov tk q2.1 o3 q2.2.1 w3) := h1
          have F3 : Hid (FrE B X w w3) := F2.out.trans h2
          clear h1 h2
          go_wp2_with fail
          refine (two_any 7 k1 q2.2.2 w3 hql S3.out).mono ?_
          rintro e w4 ⟨rfl, o4, h1, h2⟩
          have S4 : Hid (ExS B X p bo lv ov tk q2.1 o4 (q2.2.1 ++ [two 7 k1 q2.2.2]) w4) := h1
          have F4 : Hid (FrE B X w w4) := F3.out.trans h2
          clear h1 h2
          go_wp2
          go_roundg f
          case measure => omega
          case rel => exact ⟨_, q2.1, _, o4, rfl, by rw [← HQ.out, HV.out], HNx.out _, Nat.le_trans (Nat.le_succ f) hfg, S4.out, F4.out⟩
        | false =>
          rw [signR, if_neg (by rw [hs]; decide)] at h1
          have S2 : Hid (ExS B X p bo lv ov tk r1 o1 ns1 w2b) := S2a.out.rdr h1 h2
          have F2 : Hid (FrE B X w w2b) := F2a.out.trans (FrR.toE h2)
          have HV : Hid (qq = (r1, ns1, k1)) := by
            rw [Hid, ← HQ.out, HE2.out (), if_neg (by rw [hs]; decide)]
          clear h1 h2 hs HE2 HQ
          go_wp2
          go_ret
          rw [HV.out]
          exact ⟨rfl, o1, S2.out, F2.out⟩

set_option maxHeartbeats 6400000 in
set_option maxRecDepth 100000 in
theorem sum_C (g : Nat) (ih : ∀ f, f ≤ g → ExC f .product 100) : ExC (g + 1) .sum 98 := by
  intro B X p bo lv ov tk r o ns w ha h
  have HA : Hid (Ask tk (g + 1) .sum r ns) := ha
  have hlen := ha.len
  have HI1 : Hid (ExI tk .product r ns (exF tk g .product r ns 0)) := exF_I tk g .product r ns 0
  have HC : Hid (∀ _ : Unit, _) := fun _ => ih g (Nat.le_refl _) B X p bo lv ov tk r o ns w (ha.first (by decide)) h
  have HE : Hid (exF tk g .sumL (exF tk g .product r ns 0).1 (exF tk g .product r ns 0).2.1 (exF tk g .product r ns 0).2.2 = exF tk (g + 1) .sum r ns 0) := by rw [Hid, exF]
  have HAL : Hid (Ask tk g .sumL (exF tk g .product r ns 0).1 (exF tk g .product r ns 0).2.1) := HA.out.then_ HI1.out rfl (by decide)
  clear h ha HI1
  generalize exF tk g .product r ns 0 = q at *
  generalize exF tk (g + 1) .sum r ns 0 = qq at *
  go_enter Try.func98, Try.ntmps98
  go_wp2_with fail
  refine (HC.out ()).mono ?_
  rintro e w1 ⟨rfl, oo, h1, h2⟩
  have S1 : Hid (ExS B X p bo lv ov tk q.1 oo q.2.1 w1) := h1
  have F1 : Hid (FrE B X w w1) := h2
  clear h1 h2 HC
  go_wp2
  go_loopg [5] g (fun gg kv wr => ∃ (k1 : Int) (r1 : RdD) (ns1 : List NodeD) (o1 : Value), kv = .int .i64 k1 ∧ exF tk gg .sumL r1 ns1 k1 = qq ∧ Ask tk gg .sumL r1 ns1 ∧ gg ≤ g ∧ ExS B X p bo lv ov tk r1 o1 ns1 wr ∧ FrE B X w wr)
  case atStart => exact ⟨_, _, _, _, rfl, HE.out, HAL.out, Nat.le_refl _, S1.out, F1.out⟩
  case round =>
    obtain ⟨k1, r1, ns1, o1, rfl, hq, hA, hgg, hS, hF⟩ := hrel
    have hne := hA.need
    obtain ⟨f, rfl⟩ : ∃ f, gk = f + 1 := ⟨gk - 1, by simp only [rankM] at hne; omega⟩
    have HQ : Hid (exF tk (f + 1) .sumL r1 ns1 k1 = qq) := hq
    have HA1 : Hid (Ask tk (f + 1) .sumL r1 ns1) := hA
    have hfg : f + 1 ≤ g := hgg
    have SR : Hid (ExS B X p bo lv ov tk r1 o1 ns1 wr) := hS
    have FR : Hid (FrE B X w wr) := hF
    have e3 : wr.cell? ⟨p, 3, none⟩ = some (.bool r1.bad) := run_cell hS.rd rfl
    have HE1 : Hid (∀ _ : Unit, exF tk (f + 1) .sumL r1 ns1 k1 = if isT tk r1 (s1 43) = true then exF tk f .sumL (exF tk f .product (onR r1) ns1 0).1 ((exF tk f .product (onR r1) ns1 0).2.1 ++ [two 4 k1 (exF tk f .product (onR r1) ns1 0).2.2]) (exF tk f .product (onR r1) ns1 0).2.1.length
      else if isT tk r1 (s1 45) = true then exF tk f .sumL (exF tk f .product (onR r1) ns1 0).1 ((exF tk f .product (onR r1) ns1 0).2.1 ++ [two 5 k1 (exF tk f .product (onR r1) ns1 0).2.2]) (exF tk f .product (onR r1) ns1 0).2.1.length
      else (r1, ns1, k1)) := fun _ => by rw [exF]
    clear hq hA hgg hS hF hne HE HAL
    cases hb : r1.bad with
    | true =>
      have HV : Hid (qq = (r1, ns1, k1)) := by
        rw [Hid, ← HQ.out, HE1.out (), if_neg (by rw [isT_bad hb]; decide), if_neg (by rw [isT_bad hb]; decide)]
      rw [hb] at e3
      clear hb HE1 HQ
      go_wp2
      go_ret
      rw [HV.out]
      exact ⟨rfl, o1, SR.out, FR.out⟩
    | false =>
      rw [hb] at e3
      clear hb
      go_wp2_with fail
      refine (sign_any (B := B) p lv ov tk r1 (s1 43) wr SR.out.pB (by omega) SR.out.rd SR.out.tok).mono ?_
      rintro e w2 ⟨rfl, h1, h2⟩
      cases hs : isT tk r1 (s1 43) with
      | true =>
        rw [signR, if_pos hs] at h1
        have S2 : Hid (ExS B X p bo lv ov tk (onR r1) o1 ns1 w2) := SR.out.rdr h1 h2
        have F2 : Hid (FrE B X w w2) := FR.out.trans (FrR.toE h2)
        have HA2 : Hid (Ask tk f .product (onR r1) ns1) := HA1.out.sub hs
        have HI2 : Hid (ExI tk .product (onR r1) ns1 (exF tk f .product (onR r1) ns1 0)) := exF_I tk f .product (onR r1) ns1 0
        have HIh : Hid (∀ _ : Unit, _) := fun _ => ih f (by omega) B X p bo lv ov tk (onR r1) o1 ns1 w2 HA2.out S2.out
        have HNx : Hid (∀ x, Ask tk f .sumL (exF tk f .product (onR r1) ns1 0).1 ((exF tk f .product (onR r1) ns1 0).2.1 ++ [x])) := fun x => HA1.out.loop hs HI2.out rfl
        have HV : Hid (_ = _) := HE1.out ()
        rw [if_pos hs] at HV
        have hql : (exF tk f .product (onR r1) ns1 0).2.1.length ≤ 100000 := by
          have := (HNx.out (two 0 0 0)).room
          rw [List.length_append] at this
          omega
        clear h1 h2 hs HA2 HI2
        generalize exF tk f .product (onR r1) ns1 0 = q2 at *
        go_wp2_with fail
        refine (HIh.out ()).mono ?_
        rintro e w3 ⟨rfl, o3, h1, h2⟩
        have S3 : Hid (ExS B X p bo lv ov tk q2.1 o3 q2.2.1 w3) := h1
        have F3 : Hid (FrE B X w w3) := F2.out.trans h2
        clear h1 h2
        go_wp2_with fail
        refine (two_any 4 k1 q2.2.2 w3 hql S3.out).mono ?_
        rintro e w4 ⟨rfl, o4, h1, h2⟩
        have S4 : Hid (ExS B X p bo lv ov tk q2.1 o4 (q2.2.1 ++ [two 4 k1 q2.2.2]) w4) := h1
        have F4 : Hid (FrE B X w w4) := F3.out.trans h2
        clear h1 h2
        go_wp2
        go_roundg f
        case measure => omega
        case rel => exact ⟨_, q2.1, _, o4, rfl, by rw [← HQ.out, HV.out], HNx.out _, Nat.le_trans (Nat.le_succ f) hfg, S4.out, F4.out⟩
      | false =>
        rw [signR, if_neg (by rw [hs]; decide)] at h1
        have S2a : Hid (ExS B X p bo lv ov tk r1 o1 ns1 w2) := SR.out.rdr h1 h2
        have F2a : Hid (FrE B X w w2) := FR.out.trans (FrR.toE h2)
        have HE2 : Hid (∀ _ : Unit, _ = _) := fun _ => (HE1.out ()).trans (if_neg (by rw [hs]; decide))
        clear h1 h2 hs HE1
        go_wp2_with fail
        refine (sign_any (B := B) p lv ov tk r1 (s1 45) w2 S2a.out.pB (by omega) S2a.out.rd S2a.out.tok).mono ?_
        rintro e w2b ⟨rfl, h1, h2⟩
        cases hs : isT tk r1 (s1 45) with
        | true =>
          rw [signR, if_pos hs] at h1
          have S2 : Hid (ExS B X p bo lv ov tk (onR r1) o1 ns1 w2b) := S2a.out.rdr h1 h2
          have F2 : Hid (FrE B X w w2b) := F2a.out.trans (FrR.toE h2)
          have HA2 : Hid (Ask tk f .product (onR r1) ns1) := HA1.out.sub hs
          have HI2 : Hid (ExI tk .product (onR r1) ns1 (exF tk f .product (onR r1) ns1 0)) := exF_I tk f .product (onR r1) ns1 0
          have HIh : Hid (∀ _ : Unit, _) := fun _ => ih f (by omega) B X p bo lv ov tk (onR r1) o1 ns1 w2b HA2.out S2.out
          have HNx : Hid (∀ x, Ask tk f .sumL (exF tk f .product (onR r1) ns1 0).1 ((exF tk f .product (onR r1) ns1 0).2.1 ++ [x])) := fun x => HA1.out.loop hs HI2.out rfl
          have HV : Hid (_ = _) := HE2.out ()
          rw [if_pos hs] at HV
          have hql : (exF tk f .product (onR r1) ns1 0).2.1.length ≤ 100000 := by
            have := (HNx.out (two 0 0 0)).room
            rw [List.length_append] at this
            omega
          clear h1 h2 hs HA2 HI2
          generalize exF tk f .product (onR r1) ns1 0 = q2 at *
          go_wp2_with fail
          refine (HIh.out ()).mono ?_
          rintro e w3 ⟨rfl, o3, h1, h2⟩
          have S3 : Hid (ExS B X p bo lv ov tk q2.1 o3 q2.2.1 w3) := h1
          have F3 : Hid (FrE B X w w3) := F2.out.trans h2
          clear h1 h2
          go_wp2_with fail
          refine (two_any 5 k1 q2.2.2 w3 hql S3.out).mono ?_
          rintro e w4 ⟨rfl, o4, h1, h2⟩
          have S4 : Hid (ExS B X p bo lv ov tk q2.1 o4 (q2.2.1 ++ [two 5 k1 q2.2.2]) w4) := h1
          have F4 : Hid (FrE B X w w4) := F3.out.trans h2
          clear h1 h2
          go_wp2
          go_roundg f
          case measure => omega
          case rel => exact ⟨_, q2.1, _, o4, rfl, by rw [← HQ.out, HV.out], HNx.out _, Nat.le_trans (Nat.le_succ f) hfg, S4.out, F4.out⟩
        | false =>
          rw [signR, if_neg (by rw [hs]; decide)] at h1
          have S2 : Hid (ExS B X p bo lv ov tk r1 o1 ns1 w2b) := S2a.out.rdr h1 h2
          have F2 : Hid (FrE B X w w2b) := F2a.out.trans (FrR.toE h2)
          have HV : Hid (qq = (r1, ns1, k1)) := by
            rw [Hid, ← HQ.out, HE2.out (), if_neg (by rw [hs]; decide)]
          clear h1 h2 hs HE2 HQ
          go_wp2
          go_ret
          rw [HV.out]
          exact ⟨rfl, o1, S2.out, F2.out⟩

end Go.Proofs.Ytipkbkhnaekceaa
