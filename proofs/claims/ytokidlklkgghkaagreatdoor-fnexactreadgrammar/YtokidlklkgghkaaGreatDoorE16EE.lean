/- Grammars whose lists lie each in a block of its own: read, kept, and to be marked. -/
/- The program reads a list of nodes. -/
/- The program reads an argument: an expression out of a text of its own. -/
/- The program reads a list (printed by mk/each16.py out of E16Z). -/
import Derived.Test.YtokidlklkgghkaaGreatDoorGTs
import Derived.Test.YtokidlklkgghkaaGreatDoorE16Y
import Derived.Test.YtokidlklkgghkaaGreatDoorINam
namespace Go.Proofs.YtokidlklkgghkaaGreatDoor
open Go.RowKit
set_option linter.unusedVariables false

def NodeF (F : Nat → Prop) (w : World) (vs : List Value) (x : NodeD) : Prop := ∃ kv : Value, vs = [.int .i64 x.op, .int .i64 x.num, .string x.name, kv] ∧ OwnZ 0 kv x.kids w ∧ ∀ k, kv.ownBlock = some k → F k
def ExprF (F : Nat → Prop) (w : World) (vs : List Value) (x : List NodeD) : Prop := ∃ v : Value, vs = [v] ∧ RowF 4 93 NodeF F v x w
def SymF (F : Nat → Prop) (w : World) (vs : List Value) (x : SymD) : Prop := ∃ v : Value, vs = [.int .i64 x.kind, .string x.text, v, .string x.bind] ∧ RowF 1 66 ExprF F v x.args w
def AltF (F : Nat → Prop) (w : World) (vs : List Value) (x : List SymD) : Prop := ∃ v : Value, vs = [v] ∧ RowF 4 46 SymF F v x w
def RuleF (F : Nat → Prop) (w : World) (vs : List Value) (x : RuleD) : Prop := ∃ (v u : Value) (Fp Fa : Nat → Prop), vs = [.string x.name, v, u] ∧ OwnB 0 v x.params w ∧ (∀ k, v.ownBlock = some k → Fp k) ∧ RowF 1 43 AltF Fa u x.alts w ∧ (∀ k, Fp k → F k) ∧ (∀ k, Fa k → F k) ∧ ∀ k, Fp k → ¬ Fa k
theorem stabNode : StabF NodeF := ⟨fun F w w' vs x h ha => by
    obtain ⟨kv, e, h1, h2⟩ := h
    exact ⟨kv, e, own_ag h1 ha h2, h2⟩, fun F G w vs x h hs => by
    obtain ⟨kv, e, h1, h2⟩ := h
    exact ⟨kv, e, h1, fun k hk => hs k (h2 k hk)⟩⟩
theorem stabExpr : StabF ExprF := ⟨fun F w w' vs x h ha => by
    obtain ⟨v, e, h1⟩ := h
    exact ⟨v, e, h1.ag stabNode ha⟩, fun F G w vs x h hs => by
    obtain ⟨v, e, h1⟩ := h
    exact ⟨v, e, h1.up hs⟩⟩
theorem stabSym : StabF SymF := ⟨fun F w w' vs x h ha => by
    obtain ⟨v, e, h1⟩ := h
    exact ⟨v, e, h1.ag stabExpr ha⟩, fun F G w vs x h hs => by
    obtain ⟨v, e, h1⟩ := h
    exact ⟨v, e, h1.up hs⟩⟩
theorem stabAlt : StabF AltF := ⟨fun F w w' vs x h ha => by
    obtain ⟨v, e, h1⟩ := h
    exact ⟨v, e, h1.ag stabSym ha⟩, fun F G w vs x h hs => by
    obtain ⟨v, e, h1⟩ := h
    exact ⟨v, e, h1.up hs⟩⟩
theorem stabRule : StabF RuleF := ⟨fun F w w' vs x h ha => by
    obtain ⟨v, u, Fp, Fa, e, h1, h2, h3, h4, h5, h6⟩ := h
    exact ⟨v, u, Fp, Fa, e, own_ag h1 ha (fun k hk => h4 k (h2 k hk)), h2, h3.ag stabAlt (ha.sub h5), h4, h5, h6⟩, fun F G w vs x h hs => by
    obtain ⟨v, u, Fp, Fa, e, h1, h2, h3, h4, h5, h6⟩ := h
    exact ⟨v, u, Fp, Fa, e, h1, h2, h3, fun k hk => hs k (h4 k hk), fun k hk => hs k (h5 k hk), h6⟩⟩
/-! ### what they hold -/
theorem RowF.nRow {F : Nat → Prop} {v : Value} {ns : List NodeD} {w : World} (h : RowF 4 93 NodeF F v ns w) : NRow w v ns := by
  obtain ⟨a, cap, rfl, hcap, hh⟩ := h.rowC (E0 := fun w vs x => ∃ kv : Value, vs = [.int .i64 x.op, .int .i64 x.num, .string x.name, kv] ∧ IRow w kv x.kids) (fun F w vs x h => by
    obtain ⟨kv, e, h1, _⟩ := h
    exact ⟨kv, e, h1.row⟩)
  refine ⟨a, cap, rfl, hcap, fun h0 => ?_⟩
  obtain ⟨b, off, rfl, hb, hc⟩ := hh h0
  refine ⟨b, off, rfl, hb, fun i hi => ?_⟩
  obtain ⟨vs, _, h2, kv, rfl, hk⟩ := hc i hi
  exact ⟨kv, h2 0 (by simp), h2 1 (by simp), h2 2 (by simp), h2 3 (by simp), hk⟩
theorem ExprF.e {F : Nat → Prop} {w : World} {vs : List Value} {x : List NodeD} (h : ExprF F w vs x) : ExprE w vs x := by
  obtain ⟨v, rfl, h1⟩ := h
  exact ⟨v, rfl, h1.nRow⟩
theorem SymF.e {F : Nat → Prop} {w : World} {vs : List Value} {x : SymD} (h : SymF F w vs x) : SymE w vs x := by
  obtain ⟨v, rfl, h1⟩ := h
  exact ⟨v, rfl, h1.rowC (fun F w vs x h => h.e)⟩
theorem AltF.e {F : Nat → Prop} {w : World} {vs : List Value} {x : List SymD} (h : AltF F w vs x) : AltE w vs x := by
  obtain ⟨v, rfl, h1⟩ := h
  exact ⟨v, rfl, h1.rowC (fun F w vs x h => h.e)⟩
theorem RuleF.e {F : Nat → Prop} {w : World} {vs : List Value} {x : RuleD} (h : RuleF F w vs x) : RuleE w vs x := by
  obtain ⟨v, u, Fp, Fa, rfl, h1, h2, h3, h4, h5, h6⟩ := h
  exact ⟨v, u, rfl, h1.row, h3.rowC (fun F w vs x h => h.e)⟩
/-! ### to be marked -/
theorem hd_scalars {t : TypeId} {kd : FK} {len : Nat} {F : Nat → Prop} {v : Value} {cs : List Value} {w : World} (ht : tau t = [kd]) (h : w.ownsRow 0 t 1 v len cs) (hF : ∀ k, v.ownBlock = some k → F k) (hc : ∀ i (h : i < cs.length), Hd tau 0 kd w cs[i] 1 (fun _ => False) none) : Hd tau 1 (.row t) w v len F none := by
  have hl : cs.length = len := by have := h.1; omega
  refine ⟨len, cs, List.replicate len 1, fun _ _ => False, by rw [ht]; exact h, by simp [hl], (ones_sum len).symm, ⟨hF, fun _ _ _ h => h, fun _ _ h => h.elim, fun _ _ _ _ h => h.elim⟩, fun i hi => ⟨kd, by rw [ht]; simp [Nat.mod_one], ?_⟩⟩
  have e : (List.replicate len 1).getD i 0 = 1 := by rw [List.getD_eq_getElem?_getD, List.getElem?_replicate, if_pos (by omega)]; rfl
  rw [e]
  exact hc i hi
theorem hd_ownZ {F : Nat → Prop} {v : Value} {ks : List Int} {w : World} (h : OwnZ 0 v ks w) (hF : ∀ k, v.ownBlock = some k → F k) : Hd tau 1 (.row 3) w v ks.length F none :=
  hd_scalars (kd := .int) rfl h hF (fun i hi => by simp only [zv, List.getElem_map]; exact Hd.num)
theorem hd_ownB {F : Nat → Prop} {v : Value} {ss : List ByteArray} {w : World} (h : OwnB 0 v ss w) (hF : ∀ k, v.ownBlock = some k → F k) : Hd tau 1 (.row 9) w v ss.length F none :=
  hd_scalars (kd := .str) rfl h hF (fun i hi => by simp only [sb, List.getElem_map]; exact Hd.text)
theorem cellsNode (F : Nat → Prop) (w : World) (vs : List Value) (x : NodeD) (h : NodeF F w vs x) : CellsF tau 93 1 F w vs (3 + x.kids.length) := by
  obtain ⟨kv, rfl, h1, h2⟩ := h
  refine ⟨[1, 1, 1, x.kids.length], fun r k => r = 3 ∧ F k, rfl, by simp only [List.sum_cons, List.sum_nil]; omega, fun r k h => h.2, fun r q k hne h h' => hne (h.1.trans h'.1.symm), fun r hr => ?_⟩
  match r, hr with
  | 0, _ => exact ⟨_, rfl, Hd.num⟩
  | 1, _ => exact ⟨_, rfl, Hd.num⟩
  | 2, _ => exact ⟨_, rfl, Hd.text⟩
  | 3, _ => exact ⟨_, rfl, hd_ownZ h1 (fun k hk => ⟨rfl, h2 k hk⟩)⟩
theorem cellsOne {t T : TypeId} {n m c : Nat} {F : Nat → Prop} {w : World} {v : Value} (ht : tau T = [.row t]) (hc : c ≤ m) (h : Hd tau n (.row t) w v c F none) : CellsF tau T n F w [v] m :=
  ⟨[c], fun r k => r = 0 ∧ F k, rfl, by simpa using hc, fun r k h => h.2, fun r q k hne h h' => hne (h.1.trans h'.1.symm), fun r hr => match r, hr with
    | 0, _ => ⟨_, by rw [ht]; rfl, Hd.mono _ _ _ _ _ h (fun k hk => ⟨rfl, hk⟩)⟩⟩
theorem cellsExpr (F : Nat → Prop) (w : World) (vs : List Value) (x : List NodeD) (h : ExprF F w vs x) : CellsF tau 66 2 F w vs (cntExpr x) := by
  obtain ⟨v, rfl, h1⟩ := h
  obtain ⟨c, hc, h2⟩ := h1.hd (cnt := fun y : NodeD => 3 + y.kids.length) (τ := tau) (n := 1) rfl (by decide) cellsNode
  exact cellsOne rfl hc h2
theorem cellsSym (F : Nat → Prop) (w : World) (vs : List Value) (x : SymD) (h : SymF F w vs x) : CellsF tau 46 3 F w vs (cntSym x) := by
  obtain ⟨v, rfl, h1⟩ := h
  obtain ⟨c, hc, h2⟩ := h1.hd (cnt := cntExpr) (τ := tau) (n := 2) rfl (by decide) cellsExpr
  refine ⟨[1, 1, c, 1], fun r k => r = 2 ∧ F k, rfl, by unfold cntSym; simp only [List.sum_cons, List.sum_nil]; omega, fun r k h => h.2, fun r q k hne h h' => hne (h.1.trans h'.1.symm), fun r hr => ?_⟩
  match r, hr with
  | 0, _ => exact ⟨_, rfl, Hd.num⟩
  | 1, _ => exact ⟨_, rfl, Hd.text⟩
  | 2, _ => exact ⟨_, rfl, Hd.mono _ _ _ _ _ h2 (fun k hk => ⟨rfl, hk⟩)⟩
  | 3, _ => exact ⟨_, rfl, Hd.text⟩
theorem cellsAlt (F : Nat → Prop) (w : World) (vs : List Value) (x : List SymD) (h : AltF F w vs x) : CellsF tau 43 4 F w vs (cntAlt x) := by
  obtain ⟨v, rfl, h1⟩ := h
  obtain ⟨c, hc, h2⟩ := h1.hd (cnt := cntSym) (τ := tau) (n := 3) rfl (by decide) cellsSym
  exact cellsOne rfl hc h2
theorem cellsRule (F : Nat → Prop) (w : World) (vs : List Value) (x : RuleD) (h : RuleF F w vs x) : CellsF tau 40 5 F w vs (cntRule x) := by
  obtain ⟨v, u, Fp, Fa, rfl, h1, h2, h3, h4, h5, h6⟩ := h
  obtain ⟨c, hc, h7⟩ := h3.hd (cnt := cntAlt) (τ := tau) (n := 4) rfl (by decide) cellsAlt
  have h8 := Hd.fuel 1 5 (by decide) _ _ _ _ _ (hd_ownB h1 h2)
  refine ⟨[1, x.params.length, c], fun r k => r = 1 ∧ Fp k ∨ r = 2 ∧ Fa k, rfl, by unfold cntRule; simp only [List.sum_cons, List.sum_nil]; omega, fun r k h => ?_, fun r q k hne h h' => ?_, fun r hr => ?_⟩
  · rcases h with ⟨_, h⟩ | ⟨_, h⟩
    · exact h4 k h
    · exact h5 k h
  · rcases h with ⟨e, h⟩ | ⟨e, h⟩ <;> rcases h' with ⟨e', h'⟩ | ⟨e', h'⟩
    · exact hne (e.trans e'.symm)
    · exact h6 k h h'
    · exact h6 k h' h
    · exact hne (e.trans e'.symm)
  · match r, hr with
    | 0, _ => exact ⟨_, rfl, Hd.text⟩
    | 1, _ => exact ⟨_, rfl, Hd.mono _ _ _ _ _ h8 (fun k hk => .inl ⟨rfl, hk⟩)⟩
    | 2, _ => exact ⟨_, rfl, Hd.mono _ _ _ _ _ h7 (fun k hk => .inr ⟨rfl, hk⟩)⟩
/-- A grammar's rules: what they hold in every world that has their blocks, and their marks. -/
theorem gram_hd {B H : Nat} {v : Value} {g : List RuleD} {w : World} (h : RowF 3 40 RuleF (Nw B H) v g w) : (Fresh B w fun W => RowC 3 RuleE W v g) ∧ ∃ c, c ≤ (g.map cntRule).sum ∧ Hd tau 6 (.row 40) w v c (Nw B H) none :=
  ⟨h.fresh stabRule (fun F w vs x h => h.e), h.hd (cnt := cntRule) (τ := tau) (n := 5) rfl (by decide) cellsRule⟩

end Go.Proofs.YtokidlklkgghkaaGreatDoor

namespace Go.Proofs.YtokidlklkgghkaaGreatDoor
open Go.RowKit
set_option linter.unusedVariables false

theorem own_baseR {B B' s n : Nat} {e : TypeId} {v : Value} {cs : List Value} {w : World} (h : w.ownsRow B e s v n cs) (hB : B' ≤ B) : w.ownsRow B' e s v n cs := by
  refine ⟨h.1, ?_⟩
  rcases h.2 with h | ⟨g, cap, cur, e, hg, r⟩
  · exact .inl h
  · exact .inr ⟨g, cap, cur, e, Nat.le_trans hB hg, r⟩
theorem hatR {w : World} {ob : Obj} {v v' : Value} (h : v'.ownBlock = v.ownBlock ∨ v'.ownBlock = some (w.heap.size + 1)) : v'.ownBlock = v.ownBlock ∨ v'.ownBlock = some (w.alloc ob).heap.size := by simpa using h
theorem RowF.madeR {α : Type} {sz : Nat} {T : TypeId} {E : (Nat → Prop) → World → List Value → α → Prop} {F : Nat → Prop} {B g cap : Nat} {w : World} (h : w.ownsRow B T sz (.slice (some ⟨g, 0, none⟩) 0 cap) 0 []) (hg : F g) : RowF sz T E F (.slice (some ⟨g, 0, none⟩) 0 cap) ([] : List α) w :=
  ⟨[], fun _ _ => False, rfl, fun _ h => (by cases h), own_baseR h (Nat.zero_le _), ⟨fun k hk => by cases hk; exact hg, fun _ _ _ h => h, fun _ _ h => h.elim, fun _ _ _ _ h => h.elim⟩, fun i h => by cases h⟩
def NdIn (x : NodeD) : Prop := (0 ≤ x.op ∧ x.op ≤ 255) ∧ (0 ≤ x.num ∧ x.num ≤ 1000000000) ∧ x.name.size ≤ 20000 ∧ x.kids.length ≤ 2 ∧ ∀ k ∈ x.kids, 0 ≤ k ∧ k ≤ 255
def RdNs (xs : List NodeD) (v : Value) (w w' : World) : Prop := RowF 4 93 NodeF (Nw w.heap.size w'.heap.size) v xs w' ∧ ∀ x ∈ xs, NdIn x

set_option maxHeartbeats 3200000 in
set_option maxRecDepth 100000 in
theorem readNodes_any (p : Nat) (s : ByteArray) (a : Nat) (w : World) (hs : s.size ≤ 1048576) (ha : a ≤ s.size) (h : RdA p s a w) :
    Calls Tryz.prog 100 #[.pointer (some ⟨p, 0, none⟩), .func (.func 101) #[.pointer (some ⟨p, 0, none⟩)] #[]] w fun e w' =>
      RdOut (listW nodeW) (ListP NodeQ) (listT nodeT) RdNs p s a w e w' := by
  obtain ⟨i0, hi, hz0, hz1, hz2⟩ := info_parts Tryz.infoNode
  have hpw : p < w.heap.size := (Array.getElem?_eq_some_iff.1 h).1
  have bal : Below w.heap.size w (w.alloc (.cells #[] 93)) := (Below.refl _ _).alloc (Nat.le_refl _) _
  have HA1 : Hid (RdA p s a (w.alloc (.cells #[] 93))) := RdA.below h bal
  have HK1 : Hid (Kp (fun q => q = p) w (w.alloc (.cells #[] 93))) := Kp.below bal
  have HO1 : Hid (RowF 4 93 NodeF (Nw w.heap.size (w.alloc (.cells #[] 93)).heap.size) (.slice (some ⟨w.heap.size, 0, none⟩) 0 0) ([] : List NodeD) (w.alloc (.cells #[] 93))) := RowF.madeR (World.ownsRow_made (base := w.heap.size) w #[] 0 (e := 93) (size := 4) (Nat.le_refl _) (by decide) rfl) ⟨Nat.le_refl _, by simp⟩
  clear h bal
  go_enter Tryz.func100, Tryz.ntmps100
  go_wp2_with fail
  generalize w.alloc (.cells #[] 93) = w1 at *
  refine (rdNumber_any p s a w1 hs ha HA1.out).mono ?_
  rintro e w2 ⟨hk2, ⟨rfl, hn2⟩ | ⟨v2, N, a1, rfl, ⟨rfl, hN⟩, hA2, hlt2, hle2, hd2⟩⟩
  · go_simp
    exact ⟨rfl, HK1.out.trans hk2, .inl ⟨rfl, fun ys r hp e => by
      rw [listW, List.append_assoc] at e
      exact hn2 _ _ hp.1 e⟩⟩
  have HA2 : Hid (RdA p s a1 w2) := hA2
  have HK2 : Hid (Kp (fun q => q = p) w w2) := HK1.out.trans hk2
  have HD2 : Hid (∀ x0 r, x0 ≤ 1000000000 → s.data.toList.drop a = varB x0 ++ r → N = x0 ∧ a1 = a + (varB x0).length) := hd2
  have HL2 : Hid (a < a1) := by have h0 : a + 0 < a1 := hlt2; exact h0
  have HO2 : Hid (RowF 4 93 NodeF (Nw w.heap.size w2.heap.size) (.slice (some ⟨w.heap.size, 0, none⟩) 0 0) ([] : List NodeD) w2) := (HO1.out.ag stabNode (hk2.ag (fun q hq e => by have := hq.1; omega))).up (fun q hq => ⟨hq.1, Nat.lt_of_lt_of_le hq.2 hk2.size⟩)
  clear hA2 hk2 hd2 hlt2
  go_wp2
  go_loopw [5, 9] (fun ov kv wr => ∃ (ts : List NodeD) (b : Nat), kv = .int .i64 (ts.length : Int) ∧ ts.length ≤ N ∧ RowF 4 93 NodeF (Nw w.heap.size wr.heap.size) ov ts wr ∧ RdA p s b wr ∧ Kp (fun q => q = p) w wr ∧ LoopD nodeW NodeQ nodeT s a1 N ts b ∧ ∀ t ∈ ts, NdIn t) (fun _ kv _ => N - (intOf kv).toNat)
  case atStart => exact ⟨[], a1, rfl, Nat.zero_le _, HO2.out, HA2.out, HK2.out, LoopD.start hle2, fun t ht => by cases ht⟩
  case round =>
    clear HO2 HA2 HK2
    obtain ⟨ts, b, rfl, hk, ho, hA, hK0, hL, hS⟩ := hrel
    obtain ⟨wk, rfl⟩ : ∃ W, W = wr := ⟨wr, rfl⟩
    obtain ⟨oa, oc, rfl⟩ := ho.slice
    have HO : Hid (RowF 4 93 NodeF (Nw w.heap.size wk.heap.size) (.slice oa ts.length oc) ts wk) := ho
    have HA : Hid (RdA p s b wk) := hA
    have HK : Hid (Kp (fun q => q = p) w wk) := hK0
    have HL : Hid (LoopD nodeW NodeQ nodeT s a1 N ts b) := hL
    have HS : Hid (∀ t ∈ ts, NdIn t) := hS
    have hws : w.heap.size ≤ wk.heap.size := hK0.size
    have htl : ts.length ≤ 1048576 := by
      have h1 := hL.low
      have h2 := hL.up
      have h3 : ∀ l : List NodeD, l.length ≤ (l.map fun x => nodeT x + 1).sum := fun l => by
        induction l with
        | nil => simp
        | cons x l ih => simp only [List.length_cons, List.map_cons, List.sum_cons]; omega
      have h4 := h3 ts
      omega
    have hbu : b ≤ s.size := hL.up
    clear ho hA hK0 hL hS
    by_cases hlt : ts.length < N
    · have i4 : (ts.length : Int) < (N : Int) := by omega
      go_wp2_with fail
      refine (rdNode_any p s b wk hs hbu HA.out).mono ?_
      rintro e w5 ⟨hk5, ⟨rfl, hn5⟩ | ⟨v5, t, b5, rfl, ⟨kv, rfl, hkz, ht5⟩, hA5, hlt5, hle5, hd5⟩⟩
      · go_simp
        exact ⟨rfl, HK.out.trans hk5, .inl ⟨rfl, fun ys r hp => HL.out.bad HD2.out hlt hn5 ys r hp⟩⟩
      have HN5 : Hid (LoopD nodeW NodeQ nodeT s a1 N (ts ++ [t]) b5) := HL.out.next hlt hlt5 hle5 hd5
      have HA5 : Hid (RdA p s b5 w5) := hA5
      have HK5 : Hid (Kp (fun q => q = p) w w5) := HK.out.trans hk5
      obtain ⟨cs, hcs, hAdd⟩ := (HO.out.ag stabNode (hk5.ag (fun q hq e => by have := hq.1; omega))).add stabNode hws hk5.size
      have HCs : Hid (w5.ownsRow 0 93 4 (.slice oa ts.length oc) ts.length cs) := hcs
      have HAdd : Hid (_) := hAdd
      have hne : ∀ q, (Value.slice oa ts.length oc).ownBlock = some q → w.heap.size ≤ q := fun q hq => (HO.out.lt q hq).1.1
      obtain ⟨ka, kc, rfl⟩ := shapeR hkz
      have HE5 : Hid (NodeF (Nw wk.heap.size w5.heap.size) w5 [.int .i64 t.op, .int .i64 t.num, .string t.name, .slice ka t.kids.length kc] t) := ⟨_, rfl, own_baseR hkz (Nat.zero_le _), fun q hq => World.ownsRow.lt hkz q hq⟩
      have HS5 : Hid (∀ x ∈ ts ++ [t], NdIn x) := fun x hx => by
        rcases List.mem_append.1 hx with hx | hx
        · exact HS.out x hx
        · rw [List.mem_singleton.1 hx]; exact ht5
      have hw5 : w.heap.size ≤ w5.heap.size := HK5.out.size
      clear hA5 hk5 hd5 hlt5 hle5 hcs hAdd hkz ht5
      go_wp2_with (at_builtin; refine wpList_append_own_at _ rfl _ _ 64 rfl 0 93 i0 _ 4 56 Tryz.underlying64 hi hz0 hz1 hz2 rfl (by decide) _ _ _ rfl (World.ownsRow.alloc HCs.out _) ⟨_, 0, none⟩ 1 1 [.int .i64 t.op, .int .i64 t.num, .string t.name, .slice ka t.kids.length kc] rfl rfl (cellsR _ _ _) (by intro u hu; simp only [List.mem_cons, List.not_mem_nil, or_false] at hu; rcases hu with rfl | rfl | rfl | rfl <;> rfl) (by unfold maxLen; omega) (by omega) (Nat.zero_le _) ?_)
      intro v6 w6 hown6 hgr6 _ hat6
      obtain ⟨a6, k6, rfl⟩ := shapeR hown6
      have hs6 : w5.heap.size + 1 ≤ w6.heap.size := by have := hgr6.size; simpa using this
      have K6 : Hid (Kp (fun q => q = p) w w6) := ⟨hgr6.os.trans HK5.out.os, hgr6.tape.trans HK5.out.tape, hgr6.output.trans HK5.out.output, by omega, fun j hj hF => (hgr6.block j (by simp; omega) (fun e => by have := hne _ e.symm; omega)).trans ((Below.heap_alloc w5 _ j (by omega)).trans (HK5.out.block j hj hF))⟩
      have A6 : Hid (RdA p s b5 w6) := (hgr6.block p (by simp; omega) (fun e => by have := hne _ e.symm; omega)).trans ((Below.heap_alloc w5 _ p (by omega)).trans HA5.out)
      have O6 : Hid (RowF 4 93 NodeF (Nw w.heap.size w6.heap.size) (.slice a6 (ts.length + 1) k6) (ts ++ [t]) w6) := HAdd.out w5 w6 _ _ _ t rfl (Below.refl _ _) HE5.out hown6 hgr6 (hatR hat6)
      clear hown6 hgr6 hat6
      go_wp2
      go_roundw
      case rel => exact ⟨ts ++ [t], b5, by rw [List.length_append, List.length_singleton]; go_num, by rw [List.length_append, List.length_singleton]; omega, O6.out, A6.out, K6.out, HN5.out, HS5.out⟩
      case measure => simp [intOf]; omega
    · obtain rfl : N = ts.length := by omega
      have i4 : ¬ (ts.length : Int) < (ts.length : Int) := by omega
      go_wp2
      go_ret
      obtain ⟨q1, q2, q3⟩ := HL.out.fin HL2.out HD2.out rfl
      exact ⟨HK.out, .inr ⟨_, ts, b, rfl, ⟨HO.out, HS.out⟩, HA.out, q1, q2, q3⟩⟩

end Go.Proofs.YtokidlklkgghkaaGreatDoor

namespace Go.Proofs.YtokidlklkgghkaaGreatDoor
open Go.RowKit
set_option linter.unusedVariables false

theorem listP_expr {x : List NodeD} (h : exprB x = true) : ListP NodeQ x := by
  obtain ⟨⟨hl1, hl2⟩, hn⟩ := exprB_at h
  refine ⟨by omega, fun y hy => ?_⟩
  obtain ⟨h1, h2⟩ := exprK_of h y hy
  obtain ⟨k, hk, rfl⟩ := List.getElem_of_mem hy
  exact ⟨h1, (node_parts (hn k hk)).1, h2⟩
theorem argT_size {x : List NodeD} (h : exprB x = true) : (str (exprT x)).size ≤ 20000 := by
  rw [str_size, exprT, if_pos h]
  have := (exprW_len h).2
  omega
def RdAr (x : List NodeD) (v : Value) (w w' : World) : Prop := ∃ ev : Value, v = .agg #[ev] ∧ RowF 4 93 NodeF (Nw w.heap.size w'.heap.size) ev x w' ∧ ∀ y ∈ x, NdIn y

set_option maxHeartbeats 3200000 in
set_option maxRecDepth 100000 in
theorem rdArg_any (p : Nat) (s : ByteArray) (a : Nat) (w : World) (hs : s.size ≤ 1048576) (ha : a ≤ s.size) (h : RdA p s a w) :
    Calls Tryz.prog 84 #[.pointer (some ⟨p, 0, none⟩)] w fun e w' => RdOut argW (fun x => exprB x = true) (listT nodeT) RdAr p s a w e w' := by
  have hpw : p < w.heap.size := (Array.getElem?_eq_some_iff.1 h).1
  have bal : Below w.heap.size w (w.alloc (.cells #[.slice none 0 0] 66)) := (Below.refl _ _).alloc (Nat.le_refl _) _
  have HA1 : Hid (RdA p s a (w.alloc (.cells #[.slice none 0 0] 66))) := RdA.below h bal
  have HK1 : Hid (Kp (fun q => q = p) w (w.alloc (.cells #[.slice none 0 0] 66))) := Kp.below bal
  have HP1 : Hid ((w.alloc (.cells #[.slice none 0 0] 66)).heap[w.heap.size]? = some (.cells #[.slice none 0 0] 66 (0, 0))) := heap_alloc_new w _
  clear h bal
  go_enter Tryz.func84, Tryz.ntmps84
  go_wp2_with fail
  generalize w.alloc (.cells #[.slice none 0 0] 66) = w1 at *
  refine (rdShort_any p s a w1 hs ha HA1.out).mono ?_
  rintro e w2 ⟨hk2, ⟨rfl, hn2⟩ | ⟨v2, t, b1, rfl, ⟨rfl, ht⟩, hA2, hl2, hu2, hd2⟩⟩
  · go_simp
    exact ⟨rfl, HK1.out.trans hk2, .inl ⟨rfl, fun x r hx e => hn2 _ _ (argT_size hx) e⟩⟩
  have hw1 : w.heap.size < w1.heap.size := (Array.getElem?_eq_some_iff.1 HP1.out).1
  have HP2 : w2.heap[w.heap.size]? = some (.cells #[.slice none 0 0] 66 (0, 0)) := (hk2.block _ hw1 (by omega)).trans HP1.out
  have hw2 : w.heap.size < w2.heap.size := (Array.getElem?_eq_some_iff.1 HP2).1
  have bal2 : Below w2.heap.size w2 (w2.alloc (.cells #[.string t, .int .i64 0] 51)) := (Below.refl _ _).alloc (Nat.le_refl _) _
  have HR3 : Hid (RdA w2.heap.size t 0 (w2.alloc (.cells #[.string t, .int .i64 0] 51))) := heap_alloc_new w2 _
  have HA3 : Hid (RdA p s b1 (w2.alloc (.cells #[.string t, .int .i64 0] 51))) := RdA.below hA2 bal2
  have HK3 : Hid (Kp (fun q => q = p) w (w2.alloc (.cells #[.string t, .int .i64 0] 51))) := (HK1.out.trans hk2).trans (Kp.below bal2)
  have HP3 : Hid ((w2.alloc (.cells #[.string t, .int .i64 0] 51)).heap[w.heap.size]? = some (.cells #[.slice none 0 0] 66 (0, 0))) := (bal2.block _ hw2).trans HP2
  have HZ3 : Hid (w2.heap.size < (w2.alloc (.cells #[.string t, .int .i64 0] 51)).heap.size) := by rw [Hid]; simp
  have HD2 : Hid (∀ (x : ByteArray) (r : List UInt8), x.size ≤ 20000 → s.data.toList.drop a = shortW x ++ r → t = x ∧ b1 = a + (shortW x).length) := hd2
  have HX : Hid (∀ (x : List NodeD) (r : List UInt8), exprB x = true → s.data.toList.drop a = argW x ++ r → t.data.toList.drop 0 = listW nodeW x ++ [] ∧ b1 = a + (argW x).length) := fun x r hx e => by
    obtain ⟨e1, e2⟩ := HD2.out _ r (argT_size hx) e
    refine ⟨?_, e2⟩
    rw [e1, List.drop_zero, List.append_nil, ← exprW_list, exprT, if_pos hx]
    simp [str]
  have HL2 : Hid (a + t.size < b1) := hl2
  clear hA2 hk2 hd2 hl2 hw1 bal2 HP1 HP2 HA1
  go_wp2_with fail
  generalize w2.alloc (.cells #[.string t, .int .i64 0] 51) = w3 at *
  refine (readNodes_any w2.heap.size t 0 w3 (by omega) (Nat.zero_le _) HR3.out).mono ?_
  rintro e w4 ⟨hk4, hor⟩
  have hz3 := HZ3.out
  have HK4 : Hid (Kp (fun q => q = p) w w4) := ⟨hk4.os.trans HK3.out.os, hk4.tape.trans HK3.out.tape, hk4.output.trans HK3.out.output, Nat.le_trans HK3.out.size hk4.size, fun j hj hF => (hk4.block j (by omega) (by omega)).trans (HK3.out.block j hj hF)⟩
  have HP4 : Hid (w4.heap[w.heap.size]? = some (.cells #[.slice none 0 0] 66 (0, 0))) := (hk4.block _ (by omega) (by omega)).trans HP3.out
  have HA4 : Hid (RdA p s b1 w4) := (hk4.block p (by omega) (by omega)).trans HA3.out
  rcases hor with ⟨rfl, hn4⟩ | ⟨v4, xs, b2, rfl, ⟨hro, hin⟩, _, hl4, hu4, hd4⟩
  · go_simp
    exact ⟨rfl, HK4.out, .inl ⟨rfl, fun x r hx e => hn4 x [] (listP_expr hx) (HX.out x r hx e).1⟩⟩
  obtain ⟨oa, oc, rfl⟩ := hro.slice
  have HRo : Hid (RowF 4 93 NodeF (Nw w3.heap.size w4.heap.size) (.slice oa xs.length oc) xs w4) := hro
  have HIn : Hid (∀ y ∈ xs, NdIn y) := hin
  have HD4 : Hid (∀ x r, ListP NodeQ x → t.data.toList.drop 0 = listW nodeW x ++ r → xs = x ∧ b2 = 0 + (listW nodeW x).length) := hd4
  have y0 := run_cell (j := 0) HP4.out rfl
  have f0 := run_frozen (j := 0) HP4.out
  have hz : (w4.setCell ⟨w.heap.size, 0, none⟩ (.slice oa xs.length oc)).heap[w.heap.size]? = some (.cells #[.slice oa xs.length oc] 66 (0, 0)) := setCell_self _ HP4.out
  have z0 : (w4.setCell ⟨w.heap.size, 0, none⟩ (.slice oa xs.length oc)).cell? ⟨w.heap.size, 0, none⟩ = some (.slice oa xs.length oc) := run_cell hz rfl
  have hw4 : w3.heap.size ≤ w4.heap.size := hk4.size
  have HR9 : Hid (RowF 4 93 NodeF (Nw w.heap.size (w4.setCell ⟨w.heap.size, 0, none⟩ (.slice oa xs.length oc)).heap.size) (.slice oa xs.length oc) xs (w4.setCell ⟨w.heap.size, 0, none⟩ (.slice oa xs.length oc))) := by
    have h3 := HRo.out.ag stabNode ((Kp.store (F := fun q => q = w.heap.size) (w := w4) (o := 0) (u := .slice oa xs.length oc) rfl).ag (fun q hq e => by have := hq.1; omega))
    exact h3.up (fun q hq => ⟨by have := hq.1; omega, by have h4 := hq.2; simpa [World.setCell] using h4⟩)
  have HA9 : Hid (RdA p s b1 (w4.setCell ⟨w.heap.size, 0, none⟩ (.slice oa xs.length oc))) := (setCell_other _ (by omega)).trans HA4.out
  have HK9 : Hid (Kp (fun q => q = p) w (w4.setCell ⟨w.heap.size, 0, none⟩ (.slice oa xs.length oc))) := ⟨HK4.out.os, HK4.out.tape, HK4.out.output, by have := HK4.out.size; simpa [World.setCell] using this, fun j hj hF => (setCell_other _ (by omega)).trans (HK4.out.block j hj hF)⟩
  have HT9 : Hid (a + listT nodeT xs < b1) := by have := HL2.out; rw [Hid]; omega
  clear hz hro hin hd4 hk4 hl4
  go_wp2
  refine bodyPost_ret (by simp [results, Tryz.results84, go_sem, z0]; try rfl) rfl ?_
  refine ⟨HK9.out, .inr ⟨_, xs, b1, rfl, ⟨_, rfl, HR9.out, HIn.out⟩, HA9.out, HT9.out, hu2, fun x r hx e => ?_⟩⟩
  obtain ⟨g1, g2⟩ := HX.out x r hx e
  exact ⟨(HD4.out x [] (listP_expr hx) g1).1, g2⟩

end Go.Proofs.YtokidlklkgghkaaGreatDoor

namespace Go.Proofs.YtokidlklkgghkaaGreatDoor
open Go.RowKit
set_option linter.unusedVariables false

theorem Tryz.infoExprR : (Tryz.prog.info? 66).map (fun i => (i.zero, i.size, i.bytes)) = some (some (.agg #[.slice none 0 0]), 1, 24) := by kernel_rfl
theorem Tryz.infoSymR : (Tryz.prog.info? 46).map (fun i => (i.zero, i.size, i.bytes)) = some (some (.agg #[.int .i64 0, .string ⟨#[]⟩, .slice none 0 0, .string ⟨#[]⟩]), 4, 64) := by kernel_rfl
theorem Tryz.infoAltR : (Tryz.prog.info? 43).map (fun i => (i.zero, i.size, i.bytes)) = some (some (.agg #[.slice none 0 0]), 1, 24) := by kernel_rfl
theorem Tryz.infoRuleR : (Tryz.prog.info? 40).map (fun i => (i.zero, i.size, i.bytes)) = some (some (.agg #[.string ⟨#[]⟩, .slice none 0 0, .slice none 0 0]), 3, 64) := by kernel_rfl

def RdArs (xs : List (List NodeD)) (v : Value) (w w' : World) : Prop := RowF 1 66 ExprF (Nw w.heap.size w'.heap.size) v xs w' ∧ ∀ x ∈ xs, ∀ y ∈ x, NdIn y

set_option maxHeartbeats 3200000 in
set_option maxRecDepth 100000 in
theorem readArgs_any (p : Nat) (s : ByteArray) (a : Nat) (w : World) (hs : s.size ≤ 1048576) (ha : a ≤ s.size) (h : RdA p s a w) :
    Calls Tryz.prog 83 #[.pointer (some ⟨p, 0, none⟩), .func (.func 84) #[.pointer (some ⟨p, 0, none⟩)] #[]] w fun e w' =>
      RdOut (listW argW) (ListP (fun x => exprB x = true)) (listT (listT nodeT)) RdArs p s a w e w' := by
  obtain ⟨i0, hi, hz0, hz1, hz2⟩ := info_parts Tryz.infoExprR
  have hpw : p < w.heap.size := (Array.getElem?_eq_some_iff.1 h).1
  have bal : Below w.heap.size w (w.alloc (.cells #[] 66)) := (Below.refl _ _).alloc (Nat.le_refl _) _
  have HA1 : Hid (RdA p s a (w.alloc (.cells #[] 66))) := RdA.below h bal
  have HK1 : Hid (Kp (fun q => q = p) w (w.alloc (.cells #[] 66))) := Kp.below bal
  have HO1 : Hid (RowF 1 66 ExprF (Nw w.heap.size (w.alloc (.cells #[] 66)).heap.size) (.slice (some ⟨w.heap.size, 0, none⟩) 0 0) ([] : List (List NodeD)) (w.alloc (.cells #[] 66))) := RowF.madeR (World.ownsRow_made (base := w.heap.size) w #[] 0 (e := 66) (size := 1) (Nat.le_refl _) (by decide) rfl) ⟨Nat.le_refl _, by simp⟩
  clear h bal
  go_enter Tryz.func83, Tryz.ntmps83
  go_wp2_with fail
  generalize w.alloc (.cells #[] 66) = w1 at *
  refine (rdNumber_any p s a w1 hs ha HA1.out).mono ?_
  rintro e w2 ⟨hk2, ⟨rfl, hn2⟩ | ⟨v2, N, a1, rfl, ⟨rfl, hN⟩, hA2, hlt2, hle2, hd2⟩⟩
  · go_simp
    exact ⟨rfl, HK1.out.trans hk2, .inl ⟨rfl, fun ys r hp e => by
      rw [listW, List.append_assoc] at e
      exact hn2 _ _ hp.1 e⟩⟩
  have HA2 : Hid (RdA p s a1 w2) := hA2
  have HK2 : Hid (Kp (fun q => q = p) w w2) := HK1.out.trans hk2
  have HD2 : Hid (∀ x0 r, x0 ≤ 1000000000 → s.data.toList.drop a = varB x0 ++ r → N = x0 ∧ a1 = a + (varB x0).length) := hd2
  have HL2 : Hid (a < a1) := by have h0 : a + 0 < a1 := hlt2; exact h0
  have HO2 : Hid (RowF 1 66 ExprF (Nw w.heap.size w2.heap.size) (.slice (some ⟨w.heap.size, 0, none⟩) 0 0) ([] : List (List NodeD)) w2) := (HO1.out.ag stabExpr (hk2.ag (fun q hq e => by have := hq.1; omega))).up (fun q hq => ⟨hq.1, Nat.lt_of_lt_of_le hq.2 hk2.size⟩)
  clear hA2 hk2 hd2 hlt2
  go_wp2
  go_loopw [5, 9] (fun ov kv wr => ∃ (ts : List (List NodeD)) (b : Nat), kv = .int .i64 (ts.length : Int) ∧ ts.length ≤ N ∧ RowF 1 66 ExprF (Nw w.heap.size wr.heap.size) ov ts wr ∧ RdA p s b wr ∧ Kp (fun q => q = p) w wr ∧ LoopD argW (fun x => exprB x = true) (listT nodeT) s a1 N ts b ∧ ∀ t ∈ ts, ∀ y ∈ t, NdIn y) (fun _ kv _ => N - (intOf kv).toNat)
  case atStart => exact ⟨[], a1, rfl, Nat.zero_le _, HO2.out, HA2.out, HK2.out, LoopD.start hle2, fun t ht => by cases ht⟩
  case round =>
    clear HO2 HA2 HK2
    obtain ⟨ts, b, rfl, hk, ho, hA, hK0, hL, hS⟩ := hrel
    obtain ⟨wk, rfl⟩ : ∃ W, W = wr := ⟨wr, rfl⟩
    obtain ⟨oa, oc, rfl⟩ := ho.slice
    have HO : Hid (RowF 1 66 ExprF (Nw w.heap.size wk.heap.size) (.slice oa ts.length oc) ts wk) := ho
    have HA : Hid (RdA p s b wk) := hA
    have HK : Hid (Kp (fun q => q = p) w wk) := hK0
    have HL : Hid (LoopD argW (fun x => exprB x = true) (listT nodeT) s a1 N ts b) := hL
    have HS : Hid (∀ t ∈ ts, ∀ y ∈ t, NdIn y) := hS
    have hws : w.heap.size ≤ wk.heap.size := hK0.size
    have htl : ts.length ≤ 1048576 := by
      have h1 := hL.low
      have h2 := hL.up
      have h3 : ∀ l : List (List NodeD), l.length ≤ (l.map fun x => (listT nodeT) x + 1).sum := fun l => by
        induction l with
        | nil => simp
        | cons x l ih => simp only [List.length_cons, List.map_cons, List.sum_cons]; omega
      have h4 := h3 ts
      omega
    have hbu : b ≤ s.size := hL.up
    clear ho hA hK0 hL hS
    by_cases hlt : ts.length < N
    · have i4 : (ts.length : Int) < (N : Int) := by omega
      go_wp2_with fail
      refine (rdArg_any p s b wk hs hbu HA.out).mono ?_
      rintro e w5 ⟨hk5, ⟨rfl, hn5⟩ | ⟨v5, t, b5, rfl, ⟨kv, rfl, hkz, ht5⟩, hA5, hlt5, hle5, hd5⟩⟩
      · go_simp
        exact ⟨rfl, HK.out.trans hk5, .inl ⟨rfl, fun ys r hp => HL.out.bad HD2.out hlt hn5 ys r hp⟩⟩
      have HN5 : Hid (LoopD argW (fun x => exprB x = true) (listT nodeT) s a1 N (ts ++ [t]) b5) := HL.out.next hlt hlt5 hle5 hd5
      have HA5 : Hid (RdA p s b5 w5) := hA5
      have HK5 : Hid (Kp (fun q => q = p) w w5) := HK.out.trans hk5
      obtain ⟨cs, hcs, hAdd⟩ := (HO.out.ag stabExpr (hk5.ag (fun q hq e => by have := hq.1; omega))).add stabExpr hws hk5.size
      have HCs : Hid (w5.ownsRow 0 66 1 (.slice oa ts.length oc) ts.length cs) := hcs
      have HAdd : Hid (_) := hAdd
      have hne : ∀ q, (Value.slice oa ts.length oc).ownBlock = some q → w.heap.size ≤ q := fun q hq => (HO.out.lt q hq).1.1
      obtain ⟨ka, kc, rfl⟩ := hkz.slice
      have HE5 : Hid (ExprF (Nw wk.heap.size w5.heap.size) w5 [.slice ka t.length kc] t) := ⟨_, rfl, hkz⟩
      have HS5 : Hid (∀ x ∈ ts ++ [t], ∀ y ∈ x, NdIn y) := fun x hx => by
        rcases List.mem_append.1 hx with hx | hx
        · exact HS.out x hx
        · rw [List.mem_singleton.1 hx]; exact ht5
      have hw5 : w.heap.size ≤ w5.heap.size := HK5.out.size
      clear hA5 hk5 hd5 hlt5 hle5 hcs hAdd hkz ht5
      go_wp2_with (at_builtin; refine wpList_append_own_at _ rfl _ _ 44 rfl 0 66 i0 _ 1 24 Tryz.underlying44 hi hz0 hz1 hz2 rfl (by decide) _ _ _ rfl (World.ownsRow.alloc HCs.out _) ⟨_, 0, none⟩ 1 1 [.slice ka t.length kc] rfl rfl (cellsR _ _ _) (by intro u hu; simp only [List.mem_cons, List.not_mem_nil, or_false] at hu; rcases hu with rfl; rfl) (by unfold maxLen; omega) (by omega) (Nat.zero_le _) ?_)
      intro v6 w6 hown6 hgr6 _ hat6
      obtain ⟨a6, k6, rfl⟩ := shapeR hown6
      have hs6 : w5.heap.size + 1 ≤ w6.heap.size := by have := hgr6.size; simpa using this
      have K6 : Hid (Kp (fun q => q = p) w w6) := ⟨hgr6.os.trans HK5.out.os, hgr6.tape.trans HK5.out.tape, hgr6.output.trans HK5.out.output, by omega, fun j hj hF => (hgr6.block j (by simp; omega) (fun e => by have := hne _ e.symm; omega)).trans ((Below.heap_alloc w5 _ j (by omega)).trans (HK5.out.block j hj hF))⟩
      have A6 : Hid (RdA p s b5 w6) := (hgr6.block p (by simp; omega) (fun e => by have := hne _ e.symm; omega)).trans ((Below.heap_alloc w5 _ p (by omega)).trans HA5.out)
      have O6 : Hid (RowF 1 66 ExprF (Nw w.heap.size w6.heap.size) (.slice a6 (ts.length + 1) k6) (ts ++ [t]) w6) := HAdd.out w5 w6 _ _ _ t rfl (Below.refl _ _) HE5.out hown6 hgr6 (hatR hat6)
      clear hown6 hgr6 hat6
      go_wp2
      go_roundw
      case rel => exact ⟨ts ++ [t], b5, by rw [List.length_append, List.length_singleton]; go_num, by rw [List.length_append, List.length_singleton]; omega, O6.out, A6.out, K6.out, HN5.out, HS5.out⟩
      case measure => simp [intOf]; omega
    · obtain rfl : N = ts.length := by omega
      have i4 : ¬ (ts.length : Int) < (ts.length : Int) := by omega
      go_wp2
      go_ret
      obtain ⟨q1, q2, q3⟩ := HL.out.fin HL2.out HD2.out rfl
      exact ⟨HK.out, .inr ⟨_, ts, b, rfl, ⟨HO.out, HS.out⟩, HA.out, q1, q2, q3⟩⟩

end Go.Proofs.YtokidlklkgghkaaGreatDoor

