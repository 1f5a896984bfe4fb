/- The verifier's drawn grammar and text, out of contracts on ReadSurface and Flatten. -/
/- A drawn grammar, turned in one place: how great it is. -/
/- DrawSameGrammar, out of a contract on l06Any. -/
/- Whether two are the same, as a Bool. No program is named. -/
import Derived.Test.YtipkbkhnaekceaaAyO
import Derived.Test.YtipkbkhnaekceaaFlP
import Derived.Test.YtipkbkhnaekceaaXPure
import Derived.BigQuiet
namespace Go.Proofs.Ytipkbkhnaekceaa
open Go.RowKit
set_option linter.unusedVariables false

/-- The answer's box, stored at the end. -/
theorem box_end {W : World} {v : Value} {n g s1 : Nat} {w w5 : World} {T : TypeId} {P : World → Prop} (u : Value) (hW : Cur W v n g w) (W5 : Went W v n g (w.alloc (.cells #[.slice none 0 0] T)) w5) (hsz : w.heap.size < s1) (H5 : Held (fun k => k < s1) w5 P) :
    w5.cell? ⟨w.heap.size, 0, none⟩ = some (.slice none 0 0) ∧ w5.frozen? ⟨w.heap.size, 0, none⟩ = false ∧ Held (fun k => k < w.heap.size) (w5.setCell ⟨w.heap.size, 0, none⟩ u) P ∧ Went W v n g w (w5.setCell ⟨w.heap.size, 0, none⟩ u) ∧ (w5.setCell ⟨w.heap.size, 0, none⟩ u).cell? ⟨w.heap.size, 0, none⟩ = some u := by
  have hgw := hW.lt
  have X5 : w5.heap[w.heap.size]? = some (.cells #[.slice none 0 0] T (0, 0)) := by
    rw [W5.2.block _ (by simp) (fun e => by have := Option.some.inj e; omega)]
    exact heap_alloc_new _ _
  have h5 : w.heap.size < w5.heap.size := (Array.getElem?_eq_some_iff.1 X5).1
  have hBW : W.heap.size ≤ w.heap.size := hW.1.size
  have s6 : (w5.setCell ⟨w.heap.size, 0, none⟩ u).heap.size = w5.heap.size := by simp [World.setCell]
  refine ⟨run_cell (j := 0) X5 rfl, run_frozen X5, (H5.fr (FrA.set (A := fun k => k < s1) _ hsz)).away (fun k _ hk => Nat.lt_trans hk hsz), ⟨Cur.moved W5.1 (W5.1.1.setCell hBW _) (setCell_other _ (by omega)), ⟨W5.2.os, W5.2.tape, W5.2.output, by rw [s6]; omega, fun k hk hne => ?_⟩⟩, run_cell (j := 0) (setCell_self (j := 0) u X5) rfl⟩
  rw [setCell_other _ (by omega), W5.2.block k (by simp; omega) hne]
  exact ((Below.refl w.heap.size w).alloc (Nat.le_refl _) _).block k hk

end Go.Proofs.Ytipkbkhnaekceaa

namespace Go.Proofs.Ytipkbkhnaekceaa
open Go.RowKit
set_option linter.unusedVariables false

theorem sum_set {α : Type} (f : α → Nat) : ∀ (xs : List α) (i : Nat) (h : i < xs.length) (y : α), ((xs.set i y).map f).sum + f xs[i] = (xs.map f).sum + f y
  | x :: xs, 0, h, y => by simp; omega
  | x :: xs, i + 1, h, y => by
    have := sum_set f xs i (by simpa using h) y
    simp only [List.set_cons_succ, List.map_cons, List.sum_cons, List.getElem_cons_succ]
    omega
theorem rowTot_set {α : Type} (f : α → Nat) (xs : List α) (i : Nat) (h : i < xs.length) (y : α) : rowTot f (xs.set i y) + f xs[i] = rowTot f xs + f y := by
  unfold rowTot
  have := sum_set f xs i h y
  rw [List.length_set]
  omega
theorem rowTot_snoc {α : Type} (f : α → Nat) (xs : List α) (y : α) : rowTot f (xs ++ [y]) = rowTot f xs + 1 + f y := by
  unfold rowTot
  simp
  omega
theorem rowInn_set {α : Type} {P : α → Prop} {xs : List α} (h : RowInn P xs) (i : Nat) {y : α} (hy : P y) : RowInn P (xs.set i y) := ⟨by rw [List.length_set]; exact h.1, fun x hx => by
  rcases List.mem_or_eq_of_mem_set hx with hx | rfl
  · exact h.2 x hx
  · exact hy⟩
theorem rowInn_snoc {α : Type} {P : α → Prop} {xs : List α} (h : RowInn P xs) (hl : xs.length + 1 ≤ maxLen) {y : α} (hy : P y) : RowInn P (xs ++ [y]) := ⟨by rw [List.length_append]; exact hl, fun x hx => by
  rcases List.mem_append.1 hx with hx | hx
  · exact h.2 x hx
  · rw [List.mem_singleton.1 hx]; exact hy⟩
theorem strIn_small {s : ByteArray} (h : s.size ≤ 7) : StrIn s := by unfold StrIn maxLen; omega
theorem varE_in {s : ByteArray} (h : s.size ≤ 7) : ExprIn (varE s) := by
  refine ⟨by unfold maxLen; simp [varE], fun x hx => ?_⟩
  rw [List.mem_singleton.1 hx]
  refine ⟨by unfold i64; simp, by unfold i64; simp, strIn_small h, by unfold maxLen; simp, fun k hk => by cases hk⟩

theorem ay_tot {G G' : List RuleD} (h : AyOut G G') : grammarTot G' ≤ grammarTot G + 64 := by
  have e : ∀ (i : Nat) (hi : i < G.length) (r : RuleD), grammarTot (G.set i r) + ruleTot G[i] = grammarTot G + ruleTot r := fun i hi r => rowTot_set ruleTot G i hi r
  have er : ∀ r : RuleD, ruleTot r = r.name.size + rowTot ByteArray.size r.params + rowTot altTot r.alts := fun _ => rfl
  cases h with
  | same => omega
  | name i hi s hs =>
    have := e i hi { G[i] with name := s }
    have ho := er G[i]
    have hn : ruleTot { G[i] with name := s } = s.size + rowTot ByteArray.size G[i].params + rowTot altTot G[i].alts := rfl
    omega
  | params i hi s hs =>
    have := e i hi { G[i] with params := G[i].params ++ [s] }
    have ho := er G[i]
    have hn : ruleTot { G[i] with params := G[i].params ++ [s] } = G[i].name.size + rowTot ByteArray.size (G[i].params ++ [s]) + rowTot altTot G[i].alts := rfl
    rw [rowTot_snoc] at hn
    omega
  | noAlts i hi =>
    have := e i hi { G[i] with alts := [] }
    have ho := er G[i]
    have hn : ruleTot { G[i] with alts := [] } = G[i].name.size + rowTot ByteArray.size G[i].params + rowTot altTot ([]) := rfl
    have h0 : rowTot altTot ([] : List (List SymD)) = 0 := rfl
    omega
  | kind i j hi hj z hz =>
    have := e i hi { G[i] with alts := G[i].alts.set j (G[i].alts[j] ++ [⟨z, ⟨#[120]⟩, [], em⟩]) }
    have ho := er G[i]
    have hn : ruleTot { G[i] with alts := G[i].alts.set j (G[i].alts[j] ++ [⟨z, ⟨#[120]⟩, [], em⟩]) } = G[i].name.size + rowTot ByteArray.size G[i].params + rowTot altTot (G[i].alts.set j (G[i].alts[j] ++ [⟨z, ⟨#[120]⟩, [], em⟩])) := rfl
    have h1 := rowTot_set altTot G[i].alts j hj (G[i].alts[j] ++ [⟨z, ⟨#[120]⟩, [], em⟩])
    have h2 : altTot (G[i].alts[j] ++ [⟨z, ⟨#[120]⟩, [], em⟩]) = altTot G[i].alts[j] + 1 + symTot ⟨z, ⟨#[120]⟩, [], em⟩ := rowTot_snoc symTot _ _
    have h3 : symTot ⟨z, ⟨#[120]⟩, [], em⟩ = 1 := rfl
    omega
  | cond i j hi hj s hs =>
    have := e i hi { G[i] with alts := G[i].alts.set j (G[i].alts[j] ++ [⟨4, em, [varE s], em⟩]) }
    have ho := er G[i]
    have hn : ruleTot { G[i] with alts := G[i].alts.set j (G[i].alts[j] ++ [⟨4, em, [varE s], em⟩]) } = G[i].name.size + rowTot ByteArray.size G[i].params + rowTot altTot (G[i].alts.set j (G[i].alts[j] ++ [⟨4, em, [varE s], em⟩])) := rfl
    have h1 := rowTot_set altTot G[i].alts j hj (G[i].alts[j] ++ [⟨4, em, [varE s], em⟩])
    have h2 : altTot (G[i].alts[j] ++ [⟨4, em, [varE s], em⟩]) = altTot G[i].alts[j] + 1 + symTot ⟨4, em, [varE s], em⟩ := rowTot_snoc symTot _ _
    have h3 : symTot ⟨4, em, [varE s], em⟩ = 2 + s.size := by
      show 0 + (1 + (exprTot (varE s) + 0)) + 0 = _
      have : exprTot (varE s) = 1 + (s.size + 0 + 0) := rfl
      omega
    omega
  | bind i j hi hj h0 s hs =>
    have := e i hi { G[i] with alts := G[i].alts.set j (G[i].alts[j].set 0 { G[i].alts[j][0] with bind := s }) }
    have ho := er G[i]
    have hn : ruleTot { G[i] with alts := G[i].alts.set j (G[i].alts[j].set 0 { G[i].alts[j][0] with bind := s }) } = G[i].name.size + rowTot ByteArray.size G[i].params + rowTot altTot (G[i].alts.set j (G[i].alts[j].set 0 { G[i].alts[j][0] with bind := s })) := rfl
    have h1 := rowTot_set altTot G[i].alts j hj (G[i].alts[j].set 0 { G[i].alts[j][0] with bind := s })
    have h2 : altTot (G[i].alts[j].set 0 { G[i].alts[j][0] with bind := s }) + symTot G[i].alts[j][0] = altTot G[i].alts[j] + symTot { G[i].alts[j][0] with bind := s } := rowTot_set symTot _ 0 h0 _
    have h3 : ∀ y : SymD, symTot y = y.text.size + rowTot exprTot y.args + y.bind.size := fun _ => rfl
    have h4 := h3 G[i].alts[j][0]
    have h5 : symTot { G[i].alts[j][0] with bind := s } = G[i].alts[j][0].text.size + rowTot exprTot G[i].alts[j][0].args + s.size := rfl
    omega
  | rest =>
    cases G with
    | nil => simp [grammarTot, rowTot]
    | cons x xs => simp [grammarTot, rowTot]; omega
theorem ay_in {G G' : List RuleD} (h : AyOut G G') (hG : GrammarIn G) (ht : grammarTot G ≤ 1048000) : GrammarIn G' := by
  have hr : ∀ i (hi : i < G.length), RuleIn G[i] ∧ ruleTot G[i] ≤ 1048000 := fun i hi => ⟨hG.2 _ (List.getElem_mem hi), Nat.le_trans (rowTot_mem ruleTot (List.getElem_mem hi)) ht⟩
  have er : ∀ r : RuleD, ruleTot r = r.name.size + rowTot ByteArray.size r.params + rowTot altTot r.alts := fun _ => rfl
  cases h with
  | same => exact hG
  | name i hi s hs => exact rowInn_set hG i ⟨strIn_small hs, (hr i hi).1.2⟩
  | params i hi s hs =>
    refine rowInn_set hG i ⟨(hr i hi).1.1, rowInn_snoc (hr i hi).1.2.1 ?_ (strIn_small hs), (hr i hi).1.2.2⟩
    have h1 := (hr i hi).2
    rw [er] at h1
    have h2 := rowTot_len ByteArray.size G[i].params
    unfold maxLen
    omega
  | noAlts i hi => exact rowInn_set hG i ⟨(hr i hi).1.1, (hr i hi).1.2.1, by unfold maxLen; simp, fun x hx => by cases hx⟩
  | kind i j hi hj z hz =>
    have ha := (hr i hi).1.2.2
    refine rowInn_set hG i ⟨(hr i hi).1.1, (hr i hi).1.2.1, rowInn_set ha j (rowInn_snoc (ha.2 _ (List.getElem_mem hj)) ?_ ⟨show i64 (z : Int) by unfold i64; omega, show StrIn ⟨#[120]⟩ from strIn_small (by decide), ⟨by unfold maxLen; simp, fun x hx => by cases hx⟩, show StrIn em from strIn_small (by decide)⟩)⟩
    have h1 := (hr i hi).2
    rw [er] at h1
    have h2 := rowTot_mem altTot (List.getElem_mem hj)
    have h3 : G[i].alts[j].length ≤ altTot G[i].alts[j] := rowTot_len symTot _
    unfold maxLen
    omega
  | cond i j hi hj s hs =>
    have ha := (hr i hi).1.2.2
    refine rowInn_set hG i ⟨(hr i hi).1.1, (hr i hi).1.2.1, rowInn_set ha j (rowInn_snoc (ha.2 _ (List.getElem_mem hj)) ?_ ⟨by unfold i64; simp, show StrIn em from strIn_small (by decide), ⟨by unfold maxLen; simp, fun x hx => by rw [List.mem_singleton.1 hx]; exact varE_in hs⟩, show StrIn em from strIn_small (by decide)⟩)⟩
    have h1 := (hr i hi).2
    rw [er] at h1
    have h2 := rowTot_mem altTot (List.getElem_mem hj)
    have h3 : G[i].alts[j].length ≤ altTot G[i].alts[j] := rowTot_len symTot _
    unfold maxLen
    omega
  | bind i j hi hj h0 s hs =>
    have ha := (hr i hi).1.2.2
    have hs0 := (ha.2 _ (List.getElem_mem hj)).2 _ (List.getElem_mem h0)
    exact rowInn_set hG i ⟨(hr i hi).1.1, (hr i hi).1.2.1, rowInn_set ha j (rowInn_set (ha.2 _ (List.getElem_mem hj)) 0 ⟨hs0.1, hs0.2.1, hs0.2.2.1, strIn_small hs⟩)⟩
  | rest => exact ⟨by rw [List.length_drop]; have := hG.1; omega, fun x hx => hG.2 x (List.mem_of_mem_drop hx)⟩

end Go.Proofs.Ytipkbkhnaekceaa

namespace Go.Proofs.Ytipkbkhnaekceaa
open Go.RowKit
set_option linter.unusedVariables false

theorem copyIn_tot16 {g : List RuleD} (h : grammarTot g ≤ 1048576) : CopyIn g := by
  have h0 : rowTot ruleTot g ≤ 1048576 := h
  refine ⟨Nat.le_trans (rowTot_len _ _) h0, fun r hr => ?_⟩
  have h1 := rowTot_mem ruleTot hr
  have e1 : ruleTot r = r.name.size + rowTot ByteArray.size r.params + rowTot altTot r.alts := rfl
  have p1 := rowTot_len ByteArray.size r.params
  have p2 := rowTot_len altTot r.alts
  refine ⟨by omega, by omega, fun a ha => ?_⟩
  have h2 := rowTot_mem altTot ha
  have e2 : altTot a = rowTot symTot a := rfl
  have p3 := rowTot_len symTot a
  refine ⟨by omega, fun s hs => ?_⟩
  have h3 := rowTot_mem symTot hs
  have e3 : symTot s = s.text.size + rowTot exprTot s.args + s.bind.size := rfl
  have p4 := rowTot_len exprTot s.args
  refine ⟨by omega, fun e he => ?_⟩
  have h4 := rowTot_mem exprTot he
  have e4 : exprTot e = e.length + (e.map fun y => y.name.size + y.kids.length).sum := rfl
  refine ⟨by omega, fun x hx => ?_⟩
  have : x.name.size + x.kids.length ≤ (e.map fun y => y.name.size + y.kids.length).sum := sum_mem (fun y : NodeD => y.name.size + y.kids.length) hx
  omega

def other16 : ByteArray := ⟨#[79, 116, 104, 101, 114]⟩
/-- A copied grammar's first rule, called otherwise. -/
theorem named16 {B X : Nat} {o : Value} {G : List RuleD} {w : World} (hR : RowI 3 40 RuleI B X o G w) (hX : X ≤ w.heap.size) (h0 : 0 < G.length) :
    ∃ go cap, o = .slice (some ⟨go, 0, none⟩) G.length cap ∧ w.cell? ⟨go, 0, none⟩ = some (.string G[0].name) ∧ (∃ cur, w.heap[go]? = some (.cells cur 40 (0, 0))) ∧ B ≤ go ∧ go < w.heap.size ∧
      ∀ (w' : World) (s : ByteArray), w.heap.size ≤ w'.heap.size → (∀ k, k < w.heap.size → k ≠ go → w'.heap[k]? = w.heap[k]?) → w'.heap[go]? = (w.setCell ⟨go, 0, none⟩ (.string s)).heap[go]? → Held (fun k => k < B) w' (fun V => RowC 3 RuleE V (.slice (some ⟨go, 0, none⟩) G.length cap) (G.set 0 { G[0] with name := s })) := by
  obtain ⟨go, cap, lo, hi', vs, rfl, hvl, hvc, hcur, hInI, hBlo, hhiX, hout, hBg, hgl, hturn⟩ := rowI_turn (E' := RuleE) (fun W vs x hx => RuleI.rule hx) hR 0 h0
  obtain ⟨pv, av, B0, B1, Xa, rfl, hpv, hpB, hav⟩ := hInI.here
  refine ⟨go, cap, rfl, by simpa using hvc 0 (by simp), hcur, hBg, hgl, fun w' s hs hk hst => ?_⟩
  refine hturn w' [.string s, pv, av] _ _ ⟨hs, fun k hk' hn => hk k hk' (fun e => hn (.inr (.inl e)))⟩ (fun k hk => hk) (.inr ⟨0, .string s, by omega, rfl, by simpa using hst⟩) (ruleI_name hInI hs (fun k k1 k2 => hk k (by have := hInI.1; omega) (fun e => by omega)) (fun k hk => by omega))

/-- What the draw's second grammar is. -/
inductive SgOut (P : List RuleD → Prop) (G' : List RuleD) : List RuleD → Prop
  | copy : SgOut P G' G'
  | drawn (G2 G2' : List RuleD) (h : P G2) (h' : AyOut G2 G2') : SgOut P G' G2'
  | other (h0 : 0 < G'.length) : SgOut P G' (G'.set 0 { G'[0] with name := other16 })

theorem held_fr16 {A : Nat → Prop} {w w' : World} {Q : World → Prop} (h : Held A w Q) (hs : w.heap.size ≤ w'.heap.size) (hk : ∀ k, k < w.heap.size → ¬ A k → w'.heap[k]? = w.heap[k]?) : Held A w' Q :=
  fun V hV hb => h V (Nat.le_trans hs hV) fun k k1 k2 => (hb k (Nat.lt_of_lt_of_le k1 hs) k2).trans (hk k k1 k2)

theorem sg_end {w W9 : World} {oa ob : Value} {GA GB : List RuleD} (hs : w.heap.size + 2 ≤ W9.heap.size) (hB : Below w.heap.size w W9) (z2 : W9.heap[w.heap.size]? = some (.cells #[.slice none 0 0] 26 (0, 0))) (z3 : W9.heap[w.heap.size + 1]? = some (.cells #[.slice none 0 0] 26 (0, 0)))
    (hA : Held (fun k => k < w.heap.size + 2) W9 (fun V => RowC 3 RuleE V oa GA)) (hBb : Held (fun k => k < w.heap.size + 2) W9 (fun V => RowC 3 RuleE V ob GB)) :
    ((W9.setCell ⟨w.heap.size, 0, none⟩ oa).setCell ⟨w.heap.size + 1, 0, none⟩ ob).drew.cell? ⟨w.heap.size, 0, none⟩ = some oa ∧ ((W9.setCell ⟨w.heap.size, 0, none⟩ oa).setCell ⟨w.heap.size + 1, 0, none⟩ ob).drew.cell? ⟨w.heap.size + 1, 0, none⟩ = some ob ∧
    RowC 3 RuleE ((W9.setCell ⟨w.heap.size, 0, none⟩ oa).setCell ⟨w.heap.size + 1, 0, none⟩ ob).drew oa GA ∧ RowC 3 RuleE ((W9.setCell ⟨w.heap.size, 0, none⟩ oa).setCell ⟨w.heap.size + 1, 0, none⟩ ob).drew ob GB ∧ Below w.heap.size w ((W9.setCell ⟨w.heap.size, 0, none⟩ oa).setCell ⟨w.heap.size + 1, 0, none⟩ ob).drew := by
  have hk : ∀ k, k ≠ w.heap.size → k ≠ w.heap.size + 1 → ((W9.setCell ⟨w.heap.size, 0, none⟩ oa).setCell ⟨w.heap.size + 1, 0, none⟩ ob).drew.heap[k]? = W9.heap[k]? := fun k h1 h2 => (Below.heap_setCell _ ⟨w.heap.size + 1, 0, none⟩ ob k h2).trans (Below.heap_setCell _ ⟨w.heap.size, 0, none⟩ oa k h1)
  have hz : ((W9.setCell ⟨w.heap.size, 0, none⟩ oa).setCell ⟨w.heap.size + 1, 0, none⟩ ob).drew.heap.size = W9.heap.size := by
    show ((W9.setCell ⟨w.heap.size, 0, none⟩ oa).setCell ⟨w.heap.size + 1, 0, none⟩ ob).heap.size = W9.heap.size
    simp
  have c2 : (W9.setCell ⟨w.heap.size, 0, none⟩ oa).heap[w.heap.size]? = some (.cells #[oa] 26 (0, 0)) := by simp [World.setCell, Array.getElem?_modify, z2]
  have c3 : (W9.setCell ⟨w.heap.size, 0, none⟩ oa).heap[w.heap.size + 1]? = some (.cells #[.slice none 0 0] 26 (0, 0)) := (Below.heap_setCell _ ⟨w.heap.size, 0, none⟩ oa _ (by show w.heap.size + 1 ≠ w.heap.size; omega)).trans z3
  have d2 : ((W9.setCell ⟨w.heap.size, 0, none⟩ oa).setCell ⟨w.heap.size + 1, 0, none⟩ ob).heap[w.heap.size]? = some (.cells #[oa] 26 (0, 0)) := (Below.heap_setCell _ ⟨w.heap.size + 1, 0, none⟩ ob _ (by show w.heap.size ≠ w.heap.size + 1; omega)).trans c2
  have d3 : ((W9.setCell ⟨w.heap.size, 0, none⟩ oa).setCell ⟨w.heap.size + 1, 0, none⟩ ob).heap[w.heap.size + 1]? = some (.cells #[ob] 26 (0, 0)) := by
    generalize W9.setCell ⟨w.heap.size, 0, none⟩ oa = w9 at *
    simp [World.setCell, Array.getElem?_modify, c3]
  refine ⟨run_cell (j := 0) d2 rfl, run_cell (j := 0) d3 rfl, hA _ (by rw [hz]; exact Nat.le_refl _) (fun k _ hn => hk k (by omega) (by omega)), hBb _ (by rw [hz]; exact Nat.le_refl _) (fun k _ hn => hk k (by omega) (by omega)), ?_⟩
  exact bel_drewN (((hB.setCell (p := ⟨w.heap.size, 0, none⟩) (Nat.le_refl _) _).setCell (p := ⟨w.heap.size + 1, 0, none⟩) (Nat.le_succ _) _)) 1

set_option maxHeartbeats 6400000 in
set_option maxRecDepth 100000 in
theorem drawSameGrammar_of (P : List RuleD → Prop) (hPt : ∀ G, P G → grammarTot G ≤ 100000) (hA : AnyC P) (W : World) (v : Value) (n : Nat) (w : World) (hn : n ≤ 1000000000000) (hcode : CodeRow W v n) (hb : Below W.heap.size W w) :
    Calls Try.prog 5 #[v] w fun e w' => ∃ (G G' H : List RuleD), P G ∧ AyOut G G' ∧ SgOut P G' H ∧ ∃ (oa ob : Value), e = .returned (.tuple #[.agg #[oa], .agg #[ob]]) ∧ RowC 3 RuleE w' oa G' ∧ RowC 3 RuleE w' ob H ∧ Below w.heap.size w w' := by
  have HC : Hid (CodeRow W v n) := hcode
  have HB : Hid (Below W.heap.size W w) := hb
  have HAn : Hid (AnyC P) := hA
  have HPt : Hid (∀ G, P G → grammarTot G ≤ 100000) := hPt
  have HA : Hid (Below w.heap.size w ((w.alloc (.cells #[.slice none 0 0] 26)).alloc (.cells #[.slice none 0 0] 26))) := ((Below.refl _ _).alloc (Nat.le_refl _) _).alloc (by simp) _
  clear hcode hb hA hPt
  go_enter Try.func5, Try.ntmps5
  go_wp2_with fail
  refine (new_any W v n _ hn HC.out (HB.out.trans (HA.out.mono HB.out.size))).mono ?_
  rintro e w1 ⟨g, rfl, hc1, hb1, hg⟩
  have H1 : Hid (Cur W v n g w1) := hc1
  have Y2 : Hid (w1.heap[w.heap.size]? = some (.cells #[.slice none 0 0] 26 (0, 0))) := by
    rw [Hid, hb1.block _ (by simp; omega), Below.heap_alloc _ _ _ (by simp)]
    exact heap_alloc_new _ _
  have Y3 : Hid (w1.heap[w.heap.size + 1]? = some (.cells #[.slice none 0 0] 26 (0, 0))) := by
    rw [Hid, hb1.block _ (by simp)]
    have := heap_alloc_new (w.alloc (.cells #[.slice none 0 0] 26)) (.cells #[.slice none 0 0] 26)
    rwa [show (w.alloc (.cells #[.slice none 0 0] 26)).heap.size = w.heap.size + 1 by simp] at this
  have hg1 : w.heap.size + 1 < g := by simp at hg; omega
  have hs1 : w.heap.size + 2 ≤ w1.heap.size := by have := hb1.size; simp at this; omega
  have B1 : Hid (Below w.heap.size w w1) := HA.out.trans (hb1.mono (by simp; omega))
  have hgl := hc1.lt
  clear hc1 hb1 hg
  go_wp2_with fail
  refine (below_any W v n g 4 _ hn HC.out H1.out (by omega) (by omega)).mono ?_
  rintro e w2 ⟨x, rfl, ⟨x0, x1⟩, hw2⟩
  have H2 : Hid (Went W v n g w1 w2) := hw2
  clear hw2
  go_wp2_with fail
  refine (HAn.out W v n g _ hn HC.out H2.out.1).mono ?_
  rintro e w3 ⟨G, G', o, hP, hO, rfl, hh, hw3⟩
  obtain ⟨ao, co, rfl⟩ := RowC.slice hh.here
  have HP1 : Hid (P G) := hP
  have HO1 : Hid (AyOut G G') := hO
  have HT : Hid (grammarTot G' ≤ 1048576) := by have h1 := ay_tot hO; have h2 := HPt.out G hP; rw [Hid]; omega
  have H3 : Hid (Went W v n g w1 w3) := went_trans H2.out hw3
  have hs2 := H2.out.2.size
  have hs3 := hw3.2.size
  have HA3 : Hid (Held (fun k => k < w2.heap.size) w3 (fun V => RowC 3 RuleE V (.slice ao G'.length co) G')) := hh
  have bal3 : Below w3.heap.size w3 (w3.alloc (.cells #[.slice ao G'.length co] 26)) := (Below.refl _ _).alloc (Nat.le_refl _) _
  have R3 : Hid (RowC 3 RuleE (w3.alloc (.cells #[.slice ao G'.length co] 26)) (.slice ao G'.length co) G') := RowC.below RuleE_stable hh.here bal3
  have H3' : Hid (Went W v n g w1 (w3.alloc (.cells #[.slice ao G'.length co] 26))) := went_below2 H3.out bal3
  have Z6 : Hid ((w3.alloc (.cells #[.slice ao G'.length co] 26)).heap[w3.heap.size]? = some (.cells #[.slice ao G'.length co] 26 (0, 0))) := heap_alloc_new w3 _
  have z6 : (w3.alloc (.cells #[.slice ao G'.length co] 26)).cell? ⟨w3.heap.size, 0, none⟩ = some (.slice ao G'.length co) := run_cell (j := 0) Z6.out rfl
  have hS3 : (w3.alloc (.cells #[.slice ao G'.length co] 26)).heap.size = w3.heap.size + 1 := by simp
  have HS3 : Hid (_) := hS3
  have HB3 : Hid (Below w3.heap.size w3 (w3.alloc (.cells #[.slice ao G'.length co] 26))) := bal3
  clear hP hO hh hw3 H2 bal3 hS3
  go_wp2_with fail
  generalize w3.alloc (.cells #[.slice ao G'.length co] 26) = W3 at *
  refine (copyG_any _ G' W3 (copyIn_tot16 HT.out) R3.out).mono ?_
  rintro e w4 ⟨o4, X, rfl, hF, hX, hb4⟩
  obtain ⟨bo, cb, rfl⟩ : ∃ bo cb, o4 = .slice bo G'.length cb := by
    have := hF.here
    obtain ⟨a', c', e⟩ := (RowC.imp this.rowC (fun vs x hx => hx.rule) : RowC 3 RuleE w4 o4 G').slice
    exact ⟨a', c', e⟩
  have hs4 := hb4.size
  have HS3' := HS3.out
  have HF0 : Hid (Fresh W3.heap.size w4 (fun V => RowI 3 40 RuleI (W3.heap.size + 3) X (.slice bo G'.length cb) G' V)) := hF
  have bal4 : Below w4.heap.size w4 (w4.alloc (.cells #[.slice bo G'.length cb] 26)) := (Below.refl _ _).alloc (Nat.le_refl _) _
  have RI : Hid (RowI 3 40 RuleI (W3.heap.size + 3) X (.slice bo G'.length cb) G' (w4.alloc (.cells #[.slice bo G'.length cb] 26))) := hF.here.below hX bal4
  have HX : Hid (X ≤ (w4.alloc (.cells #[.slice bo G'.length cb] 26)).heap.size) := Nat.le_trans hX bal4.size
  have H4 : Hid (Went W v n g w1 (w4.alloc (.cells #[.slice bo G'.length cb] 26))) := went_below2 (went_below2 H3'.out hb4) bal4
  have HK4 : Hid (∀ k, k < w3.heap.size → (w4.alloc (.cells #[.slice bo G'.length cb] 26)).heap[k]? = w3.heap[k]?) := fun k hk => by rw [bal4.block k (by omega), hb4.block k (by omega), HB3.out.block k hk]
  have Z6' : Hid ((w4.alloc (.cells #[.slice bo G'.length cb] 26)).heap[w3.heap.size]? = some (.cells #[.slice ao G'.length co] 26 (0, 0))) := by rw [Hid, bal4.block _ (by omega), hb4.block _ (by omega)]; exact Z6.out
  have Z7 : Hid ((w4.alloc (.cells #[.slice bo G'.length cb] 26)).heap[w4.heap.size]? = some (.cells #[.slice bo G'.length cb] 26 (0, 0))) := heap_alloc_new w4 _
  have HF9 : Hid (Held (fun k => k < w.heap.size + 2) (w4.alloc (.cells #[.slice bo G'.length cb] 26)) (fun V => RowC 3 RuleE V (.slice bo G'.length cb) G')) := fun V hV hb => RowC.imp (HF0.out V (Nat.le_trans bal4.size hV) (fun k k1 k2 => (hb k (Nat.lt_of_lt_of_le k2 bal4.size) (by omega)).trans (bal4.block k k2))).rowC (fun vs x hx => hx.rule)
  have HR4 : Hid (RowC 3 RuleE (w4.alloc (.cells #[.slice bo G'.length cb] 26)) (.slice bo G'.length cb) G') := RowC.imp RI.out.rowC (fun vs x hx => hx.rule)
  have Z2 : Hid ((w4.alloc (.cells #[.slice bo G'.length cb] 26)).heap[w.heap.size]? = some (.cells #[.slice none 0 0] 26 (0, 0))) := by
    rw [Hid, H4.out.2.block _ (by omega) (fun e => by have := Option.some.inj e; omega)]; exact Y2.out
  have Z3 : Hid ((w4.alloc (.cells #[.slice bo G'.length cb] 26)).heap[w.heap.size + 1]? = some (.cells #[.slice none 0 0] 26 (0, 0))) := by
    rw [Hid, H4.out.2.block _ (by omega) (fun e => by have := Option.some.inj e; omega)]; exact Y3.out
  have hS4 : (w4.alloc (.cells #[.slice bo G'.length cb] 26)).heap.size = w4.heap.size + 1 := by simp
  have HS4 : Hid (_) := hS4
  have z6' : (w4.alloc (.cells #[.slice bo G'.length cb] 26)).cell? ⟨w3.heap.size, 0, none⟩ = some (.slice ao G'.length co) := run_cell (j := 0) Z6'.out rfl
  have z7 : (w4.alloc (.cells #[.slice bo G'.length cb] 26)).cell? ⟨w4.heap.size, 0, none⟩ = some (.slice bo G'.length cb) := run_cell (j := 0) Z7.out rfl
  clear hF hX hb4 bal4 hS4 R3 H3 H3' HB3 Z6 z6
  have BW4 : Hid (Below w.heap.size w (w4.alloc (.cells #[.slice bo G'.length cb] 26))) := B1.out.trans (went_bel H4.out (by omega) (by omega))
  by_cases hx0 : x = 0
  · subst hx0
    go_wp2_with fail
    generalize w4.alloc (.cells #[.slice bo G'.length cb] 26) = W4 at *
    refine (HAn.out W v n g W4 hn HC.out H4.out.1).mono ?_
    rintro e w5 ⟨G2, G2', o5, hP2, hO2, rfl, hh5, hw5⟩
    obtain ⟨b5, c5, rfl⟩ := RowC.slice hh5.here
    have hS4 := HS4.out
    have hs5 := hw5.2.size
    have k5 : ∀ k, k < W4.heap.size → k ≠ g → w5.heap[k]? = W4.heap[k]? := fun k h1 h2 => hw5.2.block k h1 (fun e => by have := Option.some.inj e; omega)
    have Z75 : Hid (w5.heap[w4.heap.size]? = some (.cells #[.slice bo G'.length cb] 26 (0, 0))) := (k5 _ (by omega) (by omega)).trans Z7.out
    have f7 : w5.frozen? ⟨w4.heap.size, 0, none⟩ = false := run_frozen Z75.out
    have g7 : w5.cell? ⟨w4.heap.size, 0, none⟩ = some (.slice bo G'.length cb) := run_cell (j := 0) Z75.out rfl
    have hz9 : (w5.setCell ⟨w4.heap.size, 0, none⟩ (.slice b5 G2'.length c5)).heap.size = w5.heap.size := by simp
    have k9 : ∀ k, k ≠ w4.heap.size → (w5.setCell ⟨w4.heap.size, 0, none⟩ (.slice b5 G2'.length c5)).heap[k]? = w5.heap[k]? := fun k h => Below.heap_setCell w5 ⟨w4.heap.size, 0, none⟩ _ k h
    have HA9 : Hid (Held (fun k => k < w.heap.size + 2) (w5.setCell ⟨w4.heap.size, 0, none⟩ (.slice b5 G2'.length c5)) (fun V => RowC 3 RuleE V (.slice ao G'.length co) G')) :=
      Held.away (held_fr16 HA3.out (by omega) (fun k k1 k2 => by rw [k9 k (by omega), k5 k (by omega) (by omega), HK4.out k k1])) (fun k _ hk => by omega)
    have HB9 : Hid (Held (fun k => k < w.heap.size + 2) (w5.setCell ⟨w4.heap.size, 0, none⟩ (.slice b5 G2'.length c5)) (fun V => RowC 3 RuleE V (.slice b5 G2'.length c5) G2')) :=
      Held.away (held_fr16 hh5 (by omega) (fun k k1 k2 => k9 k (by omega))) (fun k _ hk => by omega)
    have Y9 : Hid ((w5.setCell ⟨w4.heap.size, 0, none⟩ (.slice b5 G2'.length c5)).heap[w.heap.size]? = some (.cells #[.slice none 0 0] 26 (0, 0))) := by rw [Hid, k9 _ (by omega), k5 _ (by omega) (by omega)]; exact Z2.out
    have Y9' : Hid ((w5.setCell ⟨w4.heap.size, 0, none⟩ (.slice b5 G2'.length c5)).heap[w.heap.size + 1]? = some (.cells #[.slice none 0 0] 26 (0, 0))) := by rw [Hid, k9 _ (by omega), k5 _ (by omega) (by omega)]; exact Z3.out
    have z6 : (w5.setCell ⟨w4.heap.size, 0, none⟩ (.slice b5 G2'.length c5)).cell? ⟨w3.heap.size, 0, none⟩ = some (.slice ao G'.length co) := run_cell (j := 0) ((k9 _ (by omega)).trans ((k5 _ (by omega) (by omega)).trans Z6'.out)) rfl
    have z7' : (w5.setCell ⟨w4.heap.size, 0, none⟩ (.slice b5 G2'.length c5)).cell? ⟨w4.heap.size, 0, none⟩ = some (.slice b5 G2'.length c5) := World.cell?_setCell_same _ _ _ g7
    have BW9 : Hid (Below w.heap.size w (w5.setCell ⟨w4.heap.size, 0, none⟩ (.slice b5 G2'.length c5))) := (BW4.out.trans (went_bel hw5 (by omega) (by omega))).setCell (by show w.heap.size ≤ w4.heap.size; omega) _
    have HP2 : Hid (P G2) := hP2
    have HO2 : Hid (AyOut G2 G2') := hO2
    have hsz9 : w.heap.size + 2 ≤ (w5.setCell ⟨w4.heap.size, 0, none⟩ (.slice b5 G2'.length c5)).heap.size := by omega
    clear hh5 hw5 hP2 hO2 k5 k9 hz9 z7 z6'
    go_wp2_with fail
    generalize w5.setCell ⟨w4.heap.size, 0, none⟩ (.slice b5 G2'.length c5) = W9 at *
    have HE : Hid (_) := sg_end (w := w) hsz9 BW9.out Y9.out Y9'.out HA9.out HB9.out
    have zz2 := HE.out.1
    have zz3 := HE.out.2.1
    have f2 : W9.frozen? ⟨w.heap.size, 0, none⟩ = false := run_frozen Y9.out
    have f3 : W9.frozen? ⟨w.heap.size + 1, 0, none⟩ = false := run_frozen Y9'.out
    have g2 : W9.cell? ⟨w.heap.size, 0, none⟩ = some (.slice none 0 0) := run_cell (j := 0) Y9.out rfl
    have g3 : W9.cell? ⟨w.heap.size + 1, 0, none⟩ = some (.slice none 0 0) := run_cell (j := 0) Y9'.out rfl
    go_region
    generalize ((W9.setCell ⟨w.heap.size, 0, none⟩ (.slice ao G'.length co)).setCell ⟨w.heap.size + 1, 0, none⟩ (.slice b5 G2'.length c5)).drew = W10 at *
    (try go_wp2)
    refine bodyPost_ret (by simp [results, Try.results5, go_sem, zz2, zz3]; try rfl) rfl ?_
    exact ⟨G, G', _, HP1.out, HO1.out, (.drawn G2 G2' HP2.out HO2.out), _, _, rfl, HE.out.2.2.1, HE.out.2.2.2.1, HE.out.2.2.2.2⟩
  have h20 : (x == 0) = false := by simpa using hx0
  have HK9 : Hid (Held (fun k => k < w.heap.size + 2) (w4.alloc (.cells #[.slice bo G'.length cb] 26)) (fun V => RowC 3 RuleE V (.slice ao G'.length co) G')) := Held.away (held_fr16 HA3.out (by have := HS4.out; omega) (fun k k1 k2 => HK4.out k k1)) (fun k _ hk => by omega)
  have HC9 : Hid (Held (fun k => k < w.heap.size + 2) (w4.alloc (.cells #[.slice bo G'.length cb] 26)) (fun V => RowC 3 RuleE V (.slice bo G'.length cb) G')) := HF9.out
  by_cases hx1 : x = 1
  · subst hx1
    by_cases h0 : 0 < G'.length
    · obtain ⟨go, cap', e1, hn0, hcur, hBg, hgl2, hnm⟩ := named16 RI.out HX.out h0
      injection e1 with e1 e2 e3
      subst e1
      subst e3
      have hS4 := HS4.out
      have fg : (w4.alloc (.cells #[.slice (some ⟨go, 0, none⟩) G'.length cb] 26)).frozen? ⟨go, 0, none⟩ = false := by obtain ⟨c, h⟩ := hcur; exact run_frozen h
      have k9 : ∀ k, k ≠ go → ((w4.alloc (.cells #[.slice (some ⟨go, 0, none⟩) G'.length cb] 26)).setCell ⟨go, 0, none⟩ (.string ⟨#[79, 116, 104, 101, 114]⟩)).heap[k]? = (w4.alloc (.cells #[.slice (some ⟨go, 0, none⟩) G'.length cb] 26)).heap[k]? := fun k h => Below.heap_setCell _ ⟨go, 0, none⟩ _ k h
      have hz9 : ((w4.alloc (.cells #[.slice (some ⟨go, 0, none⟩) G'.length cb] 26)).setCell ⟨go, 0, none⟩ (.string ⟨#[79, 116, 104, 101, 114]⟩)).heap.size = (w4.alloc (.cells #[.slice (some ⟨go, 0, none⟩) G'.length cb] 26)).heap.size := by simp
      have hne7 : go ≠ w4.heap.size := fun e => by
        obtain ⟨c, h⟩ := hcur
        have h2 := h.symm.trans ((congrArg (fun k => (w4.alloc (.cells #[.slice (some ⟨go, 0, none⟩) G'.length cb] 26)).heap[k]?) e).trans Z7.out)
        cases h2
      have hgw : w3.heap.size + 4 ≤ go := by omega
      have HB9 : Hid (Held (fun k => k < w.heap.size + 2) ((w4.alloc (.cells #[.slice (some ⟨go, 0, none⟩) G'.length cb] 26)).setCell ⟨go, 0, none⟩ (.string ⟨#[79, 116, 104, 101, 114]⟩)) (fun V => RowC 3 RuleE V (.slice (some ⟨go, 0, none⟩) G'.length cb) (G'.set 0 { G'[0] with name := other16 }))) :=
        Held.away (hnm _ other16 (by rw [hz9]; exact Nat.le_refl _) (fun k _ h => k9 k h) rfl) (fun k _ hk => by omega)
      have HA9 : Hid (Held (fun k => k < w.heap.size + 2) ((w4.alloc (.cells #[.slice (some ⟨go, 0, none⟩) G'.length cb] 26)).setCell ⟨go, 0, none⟩ (.string ⟨#[79, 116, 104, 101, 114]⟩)) (fun V => RowC 3 RuleE V (.slice ao G'.length co) G')) :=
        Held.away (held_fr16 HA3.out (by rw [hz9]; omega) (fun k k1 k2 => by rw [k9 k (by omega), HK4.out k k1])) (fun k _ hk => by omega)
      have Y9 : Hid (((w4.alloc (.cells #[.slice (some ⟨go, 0, none⟩) G'.length cb] 26)).setCell ⟨go, 0, none⟩ (.string ⟨#[79, 116, 104, 101, 114]⟩)).heap[w.heap.size]? = some (.cells #[.slice none 0 0] 26 (0, 0))) := (k9 _ (by omega)).trans Z2.out
      have Y9' : Hid (((w4.alloc (.cells #[.slice (some ⟨go, 0, none⟩) G'.length cb] 26)).setCell ⟨go, 0, none⟩ (.string ⟨#[79, 116, 104, 101, 114]⟩)).heap[w.heap.size + 1]? = some (.cells #[.slice none 0 0] 26 (0, 0))) := (k9 _ (by omega)).trans Z3.out
      have z6 : ((w4.alloc (.cells #[.slice (some ⟨go, 0, none⟩) G'.length cb] 26)).setCell ⟨go, 0, none⟩ (.string ⟨#[79, 116, 104, 101, 114]⟩)).cell? ⟨w3.heap.size, 0, none⟩ = some (.slice ao G'.length co) := run_cell (j := 0) ((k9 _ (by omega)).trans Z6'.out) rfl
      have z7' : ((w4.alloc (.cells #[.slice (some ⟨go, 0, none⟩) G'.length cb] 26)).setCell ⟨go, 0, none⟩ (.string ⟨#[79, 116, 104, 101, 114]⟩)).cell? ⟨w4.heap.size, 0, none⟩ = some (.slice (some ⟨go, 0, none⟩) G'.length cb) := run_cell (j := 0) ((k9 _ (fun e => hne7 e.symm)).trans Z7.out) rfl
      have BW9 : Hid (Below w.heap.size w ((w4.alloc (.cells #[.slice (some ⟨go, 0, none⟩) G'.length cb] 26)).setCell ⟨go, 0, none⟩ (.string ⟨#[79, 116, 104, 101, 114]⟩))) := BW4.out.setCell (by show w.heap.size ≤ go; omega) _
      have hsz9 : w.heap.size + 2 ≤ ((w4.alloc (.cells #[.slice (some ⟨go, 0, none⟩) G'.length cb] 26)).setCell ⟨go, 0, none⟩ (.string ⟨#[79, 116, 104, 101, 114]⟩)).heap.size := by rw [hz9]; omega
      have l0 : (0 : Int) < (G'.length : Int) := by omega
      have l0' : 0 < G'.length := h0
      clear hnm k9 hz9
      go_wp2_with fail
      generalize (w4.alloc (.cells #[.slice (some ⟨go, 0, none⟩) G'.length cb] 26)).setCell ⟨go, 0, none⟩ (.string ⟨#[79, 116, 104, 101, 114]⟩) = W9 at *
      have HE : Hid (_) := sg_end (w := w) hsz9 BW9.out Y9.out Y9'.out HA9.out HB9.out
      have zz2 := HE.out.1
      have zz3 := HE.out.2.1
      have f2 : W9.frozen? ⟨w.heap.size, 0, none⟩ = false := run_frozen Y9.out
      have f3 : W9.frozen? ⟨w.heap.size + 1, 0, none⟩ = false := run_frozen Y9'.out
      have g2 : W9.cell? ⟨w.heap.size, 0, none⟩ = some (.slice none 0 0) := run_cell (j := 0) Y9.out rfl
      have g3 : W9.cell? ⟨w.heap.size + 1, 0, none⟩ = some (.slice none 0 0) := run_cell (j := 0) Y9'.out rfl
      go_region
      generalize ((W9.setCell ⟨w.heap.size, 0, none⟩ (.slice ao G'.length co)).setCell ⟨w.heap.size + 1, 0, none⟩ (.slice (some ⟨go, 0, none⟩) G'.length cb)).drew = W10 at *
      (try go_wp2)
      refine bodyPost_ret (by simp [results, Try.results5, go_sem, zz2, zz3]; try rfl) rfl ?_
      exact ⟨G, G', _, HP1.out, HO1.out, (.other h0), _, _, rfl, HE.out.2.2.1, HE.out.2.2.2.1, HE.out.2.2.2.2⟩
    · have l0 : ¬ (0 : Int) < (G'.length : Int) := by omega
      have l0' : G'.length = 0 := by omega
      have BW9 : Hid (_) := BW4.out
      have Y9 : Hid (_) := Z2.out
      have Y9' : Hid (_) := Z3.out
      have HA9 : Hid (_) := HK9.out
      have HB9 : Hid (_) := HC9.out
      have hsz9 : w.heap.size + 2 ≤ (w4.alloc (.cells #[.slice bo G'.length cb] 26)).heap.size := by have := HS4.out; omega
      have HL0 : Hid (G'.length = 0) := l0'
      clear l0'
      go_wp2_with fail
      generalize w4.alloc (.cells #[.slice bo G'.length cb] 26) = W9 at *
      have HE : Hid (_) := sg_end (w := w) hsz9 BW9.out Y9.out Y9'.out HA9.out HB9.out
      have zz2 := HE.out.1
      have zz3 := HE.out.2.1
      have f2 : W9.frozen? ⟨w.heap.size, 0, none⟩ = false := run_frozen Y9.out
      have f3 : W9.frozen? ⟨w.heap.size + 1, 0, none⟩ = false := run_frozen Y9'.out
      have g2 : W9.cell? ⟨w.heap.size, 0, none⟩ = some (.slice none 0 0) := run_cell (j := 0) Y9.out rfl
      have g3 : W9.cell? ⟨w.heap.size + 1, 0, none⟩ = some (.slice none 0 0) := run_cell (j := 0) Y9'.out rfl
      go_region
      generalize ((W9.setCell ⟨w.heap.size, 0, none⟩ (.slice ao G'.length co)).setCell ⟨w.heap.size + 1, 0, none⟩ (.slice bo G'.length cb)).drew = W10 at *
      (try go_wp2)
      refine bodyPost_ret (by simp [results, Try.results5, go_sem, zz2, zz3]; try rfl) rfl ?_
      exact ⟨G, G', _, HP1.out, HO1.out, .copy, _, _, rfl, HE.out.2.2.1, HE.out.2.2.2.1, HE.out.2.2.2.2⟩
  have h21 : (x == 1) = false := by simpa using hx1
  have BW9 : Hid (_) := BW4.out
  have Y9 : Hid (_) := Z2.out
  have Y9' : Hid (_) := Z3.out
  have HA9 : Hid (_) := HK9.out
  have HB9 : Hid (_) := HC9.out
  have hsz9 : w.heap.size + 2 ≤ (w4.alloc (.cells #[.slice bo G'.length cb] 26)).heap.size := by have := HS4.out; omega
  go_wp2_with fail
  generalize w4.alloc (.cells #[.slice bo G'.length cb] 26) = W9 at *
  have HE : Hid (_) := sg_end (w := w) hsz9 BW9.out Y9.out Y9'.out HA9.out HB9.out
  have zz2 := HE.out.1
  have zz3 := HE.out.2.1
  have f2 : W9.frozen? ⟨w.heap.size, 0, none⟩ = false := run_frozen Y9.out
  have f3 : W9.frozen? ⟨w.heap.size + 1, 0, none⟩ = false := run_frozen Y9'.out
  have g2 : W9.cell? ⟨w.heap.size, 0, none⟩ = some (.slice none 0 0) := run_cell (j := 0) Y9.out rfl
  have g3 : W9.cell? ⟨w.heap.size + 1, 0, none⟩ = some (.slice none 0 0) := run_cell (j := 0) Y9'.out rfl
  go_region
  generalize ((W9.setCell ⟨w.heap.size, 0, none⟩ (.slice ao G'.length co)).setCell ⟨w.heap.size + 1, 0, none⟩ (.slice bo G'.length cb)).drew = W10 at *
  (try go_wp2)
  refine bodyPost_ret (by simp [results, Try.results5, go_sem, zz2, zz3]; try rfl) rfl ?_
  exact ⟨G, G', _, HP1.out, HO1.out, .copy, _, _, rfl, HE.out.2.2.1, HE.out.2.2.2.1, HE.out.2.2.2.2⟩

end Go.Proofs.Ytipkbkhnaekceaa

namespace Go.Proofs.Ytipkbkhnaekceaa
open Go.RowKit

noncomputable def same {α : Type} (a b : α) : Bool := @decide (a = b) (Classical.propDecidable _)
theorem same_yes {α : Type} {a b : α} (h : a = b) : same a b = true := by unfold same; exact @decide_eq_true _ (Classical.propDecidable _) h
theorem same_no {α : Type} {a b : α} (h : ¬ a = b) : same a b = false := by unfold same; exact @decide_eq_false _ (Classical.propDecidable _) h
theorem sm_no {α : Type} {a b : List α} {k : Nat} (h : k < a.length) (h' : k < b.length) (hne : ¬ a[k] = b[k]) : ¬ a = b := fun e => by subst e; exact hne rfl
theorem sm_all {α : Type} {a b : List α} (hl : a.length = b.length) (h : ∀ i (h : i < a.length) (h' : i < b.length), a[i] = b[i]) : a = b := List.ext_getElem hl h

end Go.Proofs.Ytipkbkhnaekceaa
