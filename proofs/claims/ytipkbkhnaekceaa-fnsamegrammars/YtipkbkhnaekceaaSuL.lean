/- Things, rows and alternatives: what they leave of the reader, in pure terms. -/
/- Things, rows and alternatives: what each asks and leaves. -/
/- The specification's reader: row. -/
/- The specification's reader: alts. -/
import Derived.Test.YtipkbkhnaekceaaS11U
import Derived.Test.YtipkbkhnaekceaaS11Y
namespace Go.Proofs.Ytipkbkhnaekceaa
open Go.RowKit

def rankS : Ms → Nat
  | .thing => 1 | .row => 2 | .altsL => 3 | .alts => 4
def nodesS : Ms → Nat
  | .thing => 0 | .row => 1 | .altsL => 1 | .alts => 2
def baseS (m : Ms) (r : RdD) : RdD := match m with | .altsL => upR r | _ => r
structure SuI (tk : List TokD) (m : Ms) (r : RdD) (q : RdD × Option Int) : Prop where
  go : GoI tk (baseS m r) q.1 (nodesS m)
  le : q.1.at_ ≤ tk.length
  took : m = .thing → q.2.isSome = true → r.at_ < q.1.at_
  some_ : m ≠ .thing → q.2.isSome = true
theorem GoI.on {tk : List TokD} {r r' : RdD} {n : Nat} (h : r.at_ < tk.length) (g : GoI tk (onR r) r' n) : GoI tk r r' (n - 2) := by
  obtain ⟨a, b, c, d, e, f⟩ := g
  have e1 : (onR r).at_ = r.at_ + 1 := rfl
  have e2 : (onR r).deep = r.deep := rfl
  have e3 : (onR r).out = r.out := rfl
  rw [e1] at b c f
  rw [e3] at e f
  exact ⟨a.trans e2, by omega, by omega, fun x => d x, e, by omega⟩
theorem GoI.le {tk : List TokD} {r r' : RdD} {n : Nat} (g : GoI tk r r' n) (h : r.at_ ≤ tk.length) : r'.at_ ≤ tk.length := by have := g.at2; omega
theorem goI_down {tk : List TokD} {r r1 r2 : RdD} {m n : Nat} (g : GoI tk (downR r) r1 m) (k : GoI tk (upR r1) r2 n) : GoI tk r r2 (m + n) := by
  obtain ⟨a, b, c, d, e, f⟩ := g
  obtain ⟨a', b', c', d', e', f'⟩ := k
  have e1 : (downR r).at_ = r.at_ := rfl
  have e2 : (downR r).deep = r.deep + 1 := rfl
  have e3 : (downR r).out = r.out := rfl
  have e4 : (upR r1).at_ = r1.at_ := rfl
  have e5 : (upR r1).deep = r1.deep - 1 := rfl
  have e6 : (upR r1).out = r1.out := rfl
  rw [e1] at b c f
  rw [e3] at e f
  rw [e4] at b' c' f'
  rw [e6] at e' f'
  exact ⟨by omega, by omega, by omega, fun x => d' (d (by show (r.bad || _) = true; rw [x]; rfl)), by omega, by omega⟩
theorem goI_bar {tk : List TokD} {r r1 r2 : RdD} {m n : Nat} (h : r.at_ < tk.length) (g : GoI tk (onR r) r1 m) (k : GoI tk (upR r1) r2 n) : GoI tk (upR r) r2 (m + n - 2) := by
  obtain ⟨a, b, c, d, e, f⟩ := g
  obtain ⟨a', b', c', d', e', f'⟩ := k
  have e1 : (onR r).at_ = r.at_ + 1 := rfl
  have e2 : (onR r).deep = r.deep := rfl
  have e3 : (onR r).out = r.out := rfl
  have e4 : (upR r1).at_ = r1.at_ := rfl
  have e5 : (upR r1).deep = r1.deep - 1 := rfl
  have e6 : (upR r1).out = r1.out := rfl
  have e7 : (upR r).at_ = r.at_ := rfl
  have e8 : (upR r).deep = r.deep - 1 := rfl
  have e9 : (upR r).out = r.out := rfl
  rw [e1] at b c f
  rw [e3] at e f
  rw [e4] at b' c' f'
  rw [e6] at e' f'
  exact ⟨by rw [e8]; omega, by rw [e7]; omega, by rw [e7]; omega, fun x => d' (d x), by rw [e9]; omega, by rw [e7, e9]; omega⟩

set_option maxHeartbeats 1600000 in
theorem suF_I (tk : List TokD) : ∀ (f : Nat) (m : Ms) (r : RdD) (kids : List Int), r.at_ ≤ tk.length → rankS m + 8 * (tk.length - r.at_) ≤ f → SuI tk m r (suF tk f m r kids)
  | 0, m, r, kids, _, hn => by cases m <;> simp only [rankS] at hn <;> omega
  | f + 1, .thing, r, kids, ha, hn => by
    simp only [rankS] at hn
    rw [suF]
    have put1 : ∀ {k : Int} {t : ByteArray} (x : SNodeD), kindR tk r k = some t → SuI tk .thing r (putR (onR r) x, some (r.out.length : Int)) := fun x hk => by
      have hlt := kindR_lt hk
      have g := (goI_put tk (onR r) x).on hlt
      exact ⟨g, g.le ha, fun _ _ => by show r.at_ < r.at_ + 1; omega, fun h => absurd rfl h⟩
    have call1 : ∀ {k : Int} {t : ByteArray} (b : Bool) (o : Option Int), kindR tk r k = some t → SuI tk .thing r (callR tk (onR r) t b, o) := fun {k t} b o hk => by
      have hlt := kindR_lt hk
      have g0 := goI_call tk (onR r) t b
      have g := g0.on hlt
      exact ⟨g, g.le ha, fun _ _ => Nat.lt_of_lt_of_le (Nat.lt_succ_self _) g0.at1, fun h => absurd rfl h⟩
    cases h3 : kindR tk r 3 with
    | some t => exact put1 _ h3
    | none =>
      simp only
      cases h4 : kindR tk r 4 with
      | some t => exact put1 _ h4
      | none =>
        simp only
        cases h5 : kindR tk r 1 with
        | some t => exact call1 _ _ h5
        | none =>
          simp only
          cases h6 : kindR tk r 6 with
          | some t => exact call1 _ _ h6
          | none =>
            simp only
            split
            · rename_i hs
              have hlt := isT_lt hs
              have g0 := ((goI_whole tk (onR r)).trans (goI_want tk (wholeR tk (onR r)).1 (s1 125))).trans (goI_put tk _ ⟨4, em, [(wholeR tk (onR r)).2], em, []⟩)
              have g := g0.on hlt
              exact ⟨g, g.le ha, fun _ _ => Nat.lt_of_lt_of_le (Nat.lt_succ_self _) g0.at1, fun h => absurd rfl h⟩
            · split
              · rename_i hs
                have hlt := isT_lt hs
                have ih := suF_I tk f .alts (onR r) [] (by show r.at_ + 1 ≤ _; omega) (by show 4 + 8 * (tk.length - (r.at_ + 1)) ≤ f; omega)
                generalize suF tk f .alts (onR r) [] = q at ih ⊢
                obtain ⟨r1, k⟩ := q
                have g0 : GoI tk (onR r) (wantR tk r1 (s1 41)) 2 := (ih.go : GoI tk (onR r) r1 2).trans (goI_want tk r1 (s1 41))
                have g : GoI tk r (wantR tk r1 (s1 41)) 0 := g0.on hlt
                have hat : r.at_ < (wantR tk r1 (s1 41)).at_ := Nat.lt_of_lt_of_le (Nat.lt_succ_self _) g0.at1
                show SuI tk .thing r (if isT tk (wantR tk r1 (s1 41)) (s1 42) = true then (putR (onR (wantR tk r1 (s1 41))) ⟨7, em, [], em, [k.getD 0]⟩, some ((wantR tk r1 (s1 41)).out.length : Int))
                  else if isT tk (wantR tk r1 (s1 41)) (s1 43) = true then (putR (onR (wantR tk r1 (s1 41))) ⟨8, em, [], em, [k.getD 0]⟩, some ((wantR tk r1 (s1 41)).out.length : Int))
                  else if isT tk (wantR tk r1 (s1 41)) (s1 63) = true then (putR (onR (wantR tk r1 (s1 41))) ⟨9, em, [], em, [k.getD 0]⟩, some ((wantR tk r1 (s1 41)).out.length : Int))
                  else (wantR tk r1 (s1 41), k))
                generalize wantR tk r1 (s1 41) = r2 at g hat ⊢
                have star : ∀ {s : ByteArray} (x : SNodeD) (o : Option Int), isT tk r2 s = true → SuI tk .thing r (putR (onR r2) x, o) := fun x o h2 => by
                  have g2 := (goI_put tk (onR r2) x).on (isT_lt h2)
                  have g3 := g.trans g2
                  exact ⟨g3, g3.le ha, fun _ _ => Nat.lt_of_lt_of_le hat g2.at1, fun h => absurd rfl h⟩
                split
                · rename_i h2; exact star _ _ h2
                · split
                  · rename_i h2; exact star _ _ h2
                  · split
                    · rename_i h2; exact star _ _ h2
                    · exact ⟨g, g.le ha, fun _ _ => hat, fun h => absurd rfl h⟩
              · exact ⟨GoI.refl tk r, ha, (fun _ h => (by cases h)), fun h => absurd rfl h⟩
  | f + 1, .row, r, kids, ha, hn => by
    simp only [rankS] at hn
    rw [suF]
    split
    · have g := goI_put tk r ⟨5, em, [], em, kids⟩
      exact ⟨g, g.le ha, (fun h => (by cases h)), fun _ => rfl⟩
    · have ih := suF_I tk f .thing r [] ha (by show 1 + _ ≤ f; omega)
      generalize suF tk f .thing r [] = q at ih ⊢
      obtain ⟨r1, k⟩ := q
      cases k with
      | none =>
        have g := (ih.go : GoI tk r r1 0).trans (goI_put tk r1 ⟨5, em, [], em, kids⟩)
        exact ⟨g, g.le ha, (fun h => (by cases h)), fun _ => rfl⟩
      | some k =>
        have ht := ih.took rfl rfl
        have hl := ih.le
        simp only at ht hl
        have ih2 := suF_I tk f .row r1 (kids ++ [k]) hl (by show 2 + 8 * (tk.length - r1.at_) ≤ f; omega)
        have g := (ih.go : GoI tk r r1 0).trans (ih2.go : GoI tk r1 _ 1)
        exact ⟨g, ih2.le, (fun h => (by cases h)), fun _ => ih2.some_ (fun h => by cases h)⟩
  | f + 1, .alts, r, kids, ha, hn => by
    simp only [rankS] at hn
    rw [suF]
    have ih := suF_I tk f .row (downR r) [] ha (by show 2 + 8 * (tk.length - r.at_) ≤ f; omega)
    generalize suF tk f .row (downR r) [] = q at ih ⊢
    obtain ⟨r1, k⟩ := q
    have h1 : r.at_ ≤ r1.at_ := (ih.go : GoI tk (downR r) r1 1).at1
    have hl : r1.at_ ≤ tk.length := ih.le
    have ih2 := suF_I tk f .altsL r1 [k.getD 0] hl (by show 3 + 8 * (tk.length - r1.at_) ≤ f; omega)
    exact ⟨goI_down (ih.go : GoI tk (downR r) r1 1) (ih2.go : GoI tk (upR r1) _ 1), ih2.le, (fun h => (by cases h)), fun _ => ih2.some_ (fun h => by cases h)⟩
  | f + 1, .altsL, r, kids, ha, hn => by
    simp only [rankS] at hn
    rw [suF]
    split
    · rename_i hs
      have hlt := isT_lt hs
      have ih := suF_I tk f .row (onR r) [] (by show r.at_ + 1 ≤ _; omega) (by show 2 + 8 * (tk.length - (r.at_ + 1)) ≤ f; omega)
      generalize suF tk f .row (onR r) [] = q at ih ⊢
      obtain ⟨r1, k⟩ := q
      have h1 : r.at_ + 1 ≤ r1.at_ := (ih.go : GoI tk (onR r) r1 1).at1
      have hl : r1.at_ ≤ tk.length := ih.le
      have ih2 := suF_I tk f .altsL r1 (kids ++ [k.getD 0]) hl (by show 3 + 8 * (tk.length - r1.at_) ≤ f; omega)
      exact ⟨(goI_bar hlt (ih.go : GoI tk (onR r) r1 1) (ih2.go : GoI tk (upR r1) _ 1)).mono (by decide), ih2.le, (fun h => (by cases h)), fun _ => ih2.some_ (fun h => by cases h)⟩
    · have g := goI_put tk (upR r) ⟨6, em, [], em, kids⟩
      exact ⟨g, g.le ha, (fun h => (by cases h)), fun _ => rfl⟩

end Go.Proofs.Ytipkbkhnaekceaa

namespace Go.Proofs.Ytipkbkhnaekceaa
open Go.RowKit
set_option linter.unusedVariables false

theorem one_int11 (z : Int) : ∀ u ∈ [Value.int .i64 z], u.oneCell' = true := by
  intro u hu
  obtain rfl : u = .int .i64 z := by simpa using hu
  rfl
/-- What is asked of the reader at a fuel. -/
structure AskS (tk : List TokD) (g : Nat) (m : Ms) (r : RdD) : Prop where
  tko : Tk200 tk
  at0 : r.at_ ≤ tk.length
  need : rankS m + 8 * (tk.length - r.at_) ≤ g
  lo : -800000 ≤ r.deep - g
  hi : r.deep + g ≤ 800000
  room : r.out.length + 2 * (tk.length - r.at_) + g ≤ 60000
theorem AskS.I {tk : List TokD} {g : Nat} {m : Ms} {r : RdD} (h : AskS tk g m r) (kids : List Int) : SuI tk m r (suF tk g m r kids) := suF_I tk g m r kids h.at0 h.need
theorem AskS.rk {tk : List TokD} {g : Nat} {m : Ms} {r : RdD} (h : AskS tk g m r) : RkO tk r := ⟨h.at0, by have := h.lo; omega, by have := h.hi; omega⟩
/-- On to where a reader went: the fuel one less. -/
theorem AskS.go {tk : List TokD} {g n : Nat} {m m' : Ms} {r r' : RdD} (h : AskS tk (g + 1) m r) (k : GoI tk r r' n) (hn : n ≤ 1) (hr : rankS m' + 8 * (tk.length - r'.at_) ≤ g) : AskS tk g m' r' := by
  obtain ⟨a, b, c, d, e, f⟩ := h
  have h1 := k.at1
  have h2 := k.at2
  have h3 := k.deep
  have h4 := k.siz
  exact ⟨a, by omega, hr, by omega, by omega, by omega⟩
/-- The reader and its nodes, whatever row those lie in. -/
def SuS (A : Nat → Prop) (B p : Nat) (lv : Value) (tk : List TokD) (r : RdD) (w : World) : Prop := ∃ ov, RdS B p lv ov tk r w ∧ SNodesO A B ov r.out w
def ThK (g : Nat) : Prop :=
  ∀ (A : Nat → Prop) (B p : Nat) (lv : Value) (tk : List TokD) (r : RdD) (w : World), AskS tk g .thing r → (∀ b, A b → b < w.heap.size) → SuS A B p lv tk r w →
    Calls Try.prog 83 #[.pointer (some ⟨p, 0, none⟩)] w fun e w' => e = .returned (.tuple #[.int .i64 ((suF tk g .thing r []).2.getD 0), .bool (suF tk g .thing r []).2.isSome]) ∧ SuS A B p lv tk (suF tk g .thing r []).1 w' ∧ FrS B w w'
def RowK (g : Nat) : Prop :=
  ∀ (A : Nat → Prop) (B p : Nat) (lv : Value) (tk : List TokD) (r : RdD) (w : World), AskS tk g .row r → (∀ b, A b → b < w.heap.size) → SuS A B p lv tk r w →
    Calls Try.prog 67 #[.pointer (some ⟨p, 0, none⟩)] w fun e w' => e = .returned (.int .i64 ((suF tk g .row r []).2.getD 0)) ∧ SuS A B p lv tk (suF tk g .row r []).1 w' ∧ FrS B w w'
def AltK (g : Nat) : Prop :=
  ∀ (A : Nat → Prop) (B p : Nat) (lv : Value) (tk : List TokD) (r : RdD) (w : World), AskS tk g .alts r → (∀ b, A b → b < w.heap.size) → SuS A B p lv tk r w →
    Calls Try.prog 52 #[.pointer (some ⟨p, 0, none⟩)] w fun e w' => e = .returned (.int .i64 ((suF tk g .alts r []).2.getD 0)) ∧ SuS A B p lv tk (suF tk g .alts r []).1 w' ∧ FrS B w w'
/-- Blocks to keep away from: those of before, and the one of a list of one's own. -/
def AwayK (A : Nat → Prop) (kv : Value) : Nat → Prop := fun b => A b ∨ kv.ownBlock = some b
theorem awayK_lt {A : Nat → Prop} {B n H : Nat} {kv : Value} {ks : List Int} {w W : World} (hA : ∀ b, A b → b < H) (hk : OwnZ B kv ks W) (hH : H ≤ W.heap.size) : ∀ b, AwayK A kv b → b < W.heap.size := by
  intro b hb
  rcases hb with hb | hb
  · exact Nat.lt_of_lt_of_le (hA b hb) hH
  · exact (World.ownsRow.lt hk b hb).2
/-- A list of one's own has one more: everything else is as it was. -/
theorem kids_more {A : Nat → Prop} {B X p : Nat} {lv ov : Value} {tk : List TokD} {r : RdD} {kv : Value} {ks : List Int} {k : Int} {w W w3 : World} {gg cap : Nat} (hX : X = w.heap.size) (hF : FrS B w W) (hBX : B ≤ X) (hk : OwnZ X kv ks W) (hR : RdS B p lv ov tk r W) (hN : SNodesO (AwayK A kv) B ov r.out W) (hA : ∀ b, A b → b < X)
    (hown : w3.ownsRow X 3 1 (.slice (some ⟨gg, 0, none⟩) (ks.length + 1) cap) (ks.length + 1) (zv ks ++ [.int .i64 k])) (hg : (W.alloc (.cells #[.int .i64 k] 3)).grownBy w3 kv.ownBlock) (hat : kv.ownBlock = some gg ∨ gg = W.heap.size + 1) :
    OwnZ X (.slice (some ⟨gg, 0, none⟩) (ks.length + 1) cap) (ks ++ [k]) w3 ∧ RdS B p lv ov tk r w3 ∧ SNodesO (AwayK A (.slice (some ⟨gg, 0, none⟩) (ks.length + 1) cap)) B ov r.out w3 ∧ FrS B w w3 := by
  have bal : Below W.heap.size W (W.alloc (.cells #[.int .i64 k] 3)) := (Below.refl _ _).alloc (Nat.le_refl _) _
  have hk1 : OwnZ X kv ks (W.alloc (.cells #[.int .i64 k] 3)) := hk.below bal
  have hWX : X ≤ W.heap.size := by rw [hX]; exact hF.bel.size
  have F3 : FrT [3] X W w3 := (FrT.below bal hWX).trans (fr_grown hk1 hg (by simp) (by simp; omega))
  have hN1 : SNodesO (AwayK A kv) B ov r.out (W.alloc (.cells #[.int .i64 k] 3)) := sNodes_below hN bal
  have hN3 : SNodesO (AwayK A kv) B ov r.out w3 := sNodes_grown hN1 hg (fun b hb => .inr hb) (fun b hb => by
    rcases hk1.2 with ⟨e, _⟩ | ⟨g, cap, cur, e, _, hc, _⟩
    · rw [e] at hb; cases hb
    · rw [e] at hb; cases hb; exact ⟨_, _, hc⟩)
  refine ⟨by
    have e : zv (ks ++ [k]) = zv ks ++ [.int .i64 k] := by simp [zv]
    rw [OwnZ, List.length_append, e]; exact hown, hR.next (F3.typ _ _ _ _ hR.rd (by decide)) (F3.base hBX), ?_, hF.new (by rw [← hX]; exact F3.bel) (by rw [← hX]; exact hBX)⟩
  rcases hat with hat | hat
  · refine sNodes_away hN3 (fun b _ hb => ?_)
    rcases hb with hb | hb
    · exact .inl hb
    · have hb' : gg = b := Option.some.inj hb
      exact .inr (by rw [← hb']; exact hat)
  · have hN4 : SNodesO (AwayK A (.slice (some ⟨gg, 0, none⟩) (ks.length + 1) cap)) B ov r.out (W.alloc (.cells #[.int .i64 k] 3)) := by
      refine sNodes_away hN1 (fun b hb1 hb => ?_)
      rcases hb with hb | hb
      · exact .inl hb
      · have hb' : gg = b := Option.some.inj hb
        have : (W.alloc (.cells #[.int .i64 k] 3)).heap.size = W.heap.size + 1 := World.size_alloc ..
        omega
    have key : ∀ b, kv.ownBlock = some b → AwayK (fun b => AwayK A (.slice (some ⟨gg, 0, none⟩) (ks.length + 1) cap) b ∨ AwayK A kv b) kv b := fun b hb => .inr hb
    have hN5 : SNodesO (fun b => AwayK A (.slice (some ⟨gg, 0, none⟩) (ks.length + 1) cap) b ∨ AwayK A kv b) B ov r.out (W.alloc (.cells #[.int .i64 k] 3)) := by
      refine sNodes_away hN1 (fun b hb1 hb => ?_)
      rcases hb with (hb | hb) | hb
      · exact .inl hb
      · have hb' : gg = b := Option.some.inj hb
        have : (W.alloc (.cells #[.int .i64 k] 3)).heap.size = W.heap.size + 1 := World.size_alloc ..
        omega
      · exact hb
    have hN6 := sNodes_grown hN5 hg (fun b hb => .inr (.inr hb)) (fun b hb => by
      rcases hk1.2 with ⟨e, _⟩ | ⟨g, cap, cur, e, _, hc, _⟩
      · rw [e] at hb; cases hb
      · rw [e] at hb; cases hb; exact ⟨_, _, hc⟩)
    exact sNodes_away hN6 (fun b _ hb => .inl hb)

end Go.Proofs.Ytipkbkhnaekceaa

namespace Go.Proofs.Ytipkbkhnaekceaa
open Go.RowKit
set_option linter.unusedVariables false

theorem ownZ_made (w : World) : OwnZ w.heap.size (.slice (some ⟨w.heap.size, 0, none⟩) 0 0) [] (w.alloc (.cells #[] 3)) := World.ownsRow_made w #[] 0 (Nat.le_refl _) (Nat.zero_le _) (by simp)

set_option maxHeartbeats 6400000 in
set_option maxRecDepth 100000 in
theorem row_K (g : Nat) (ih : ∀ f, f < g → ThK f) : RowK g := by
  intro A B p lv tk r w ha hA hS
  obtain ⟨ov, hR, hN⟩ := hS
  obtain ⟨i0, hi, hz0, hz1, hz2⟩ := info_parts Try.infoInt5
  have HA : Hid (AskS tk g .row r) := ha
  have hg60 : g ≤ 60000 := by have := ha.room; omega
  have hBw := hR.lt
  have bal : Hid (Below w.heap.size w (w.alloc (.cells #[] 3))) := (Below.refl _ _).alloc (Nat.le_refl _) _
  have HK0 : Hid (OwnZ w.heap.size (.slice (some ⟨w.heap.size, 0, none⟩) 0 0) [] (w.alloc (.cells #[] 3))) := ownZ_made w
  have HR0 : Hid (RdS B p lv ov tk r (w.alloc (.cells #[] 3))) := hR.below bal.out
  have HN0 : Hid (SNodesO (AwayK A (.slice (some ⟨w.heap.size, 0, none⟩) 0 0)) B ov r.out (w.alloc (.cells #[] 3))) := by
    refine sNodes_below (sNodes_away hN (fun b hb1 hb => ?_)) bal.out
    rcases hb with hb | hb
    · exact hb
    · have : w.heap.size = b := Option.some.inj hb
      omega
  have HF0 : Hid (FrS B w (w.alloc (.cells #[] 3))) := FrT.below bal.out hBw
  have HAw : Hid (∀ b, A b → b < w.heap.size) := hA
  have HQ : Hid (∃ qq, suF tk g .row r [] = qq) := ⟨_, rfl⟩
  obtain ⟨qq, hqq⟩ := HQ.out
  have HQ0 : Hid (suF tk g .row r [] = qq) := hqq
  have HIh : Hid (∀ f, f < g → ThK f) := ih
  rw [hqq]
  clear hqq HQ hR hN ha hA bal ih
  go_enter Try.func67, Try.ntmps67
  go_wp2
  go_loopg [3] g (fun gg kv wr => ∃ (r1 : RdD) (ks : List Int) (ov1 : Value), suF tk gg .row r1 ks = qq ∧ AskS tk gg .row r1 ∧ gg ≤ g ∧ ks.length + gg ≤ g ∧ OwnZ w.heap.size kv ks wr ∧ RdS B p lv ov1 tk r1 wr ∧ SNodesO (AwayK A kv) B ov1 r1.out wr ∧ FrS B w wr)
  case atStart => exact ⟨r, [], ov, HQ0.out, HA.out, Nat.le_refl _, by simp, HK0.out, HR0.out, HN0.out, HF0.out⟩
  case round =>
    obtain ⟨r1, ks, ov1, hq, hA1, hgg, hkl, hK, hR, hN, hF⟩ := hrel
    have hne := hA1.need
    have hrm := hA1.room
    obtain ⟨f, rfl⟩ : ∃ f, gk = f + 1 := ⟨gk - 1, by simp only [rankS] at hne; omega⟩
    have HQ1 : Hid (suF tk (f + 1) .row r1 ks = qq) := hq
    have HA1 : Hid (AskS tk (f + 1) .row r1) := hA1
    have HR : Hid (RdS B p lv ov1 tk r1 wr) := hR
    have HN : Hid (SNodesO (AwayK A u3) B ov1 r1.out wr) := hN
    have HK : Hid (OwnZ w.heap.size u3 ks wr) := hK
    have HF : Hid (FrS B w wr) := hF
    have hsz : w.heap.size ≤ wr.heap.size := hF.bel.size
    have e3 : wr.cell? ⟨p, 3, none⟩ = some (.bool r1.bad) := run_cell hR.rd rfl
    have HE : Hid (∀ _ : Unit, suF tk (f + 1) .row r1 ks = if r1.bad = true then (putR r1 ⟨5, em, [], em, ks⟩, some (r1.out.length : Int)) else match suF tk f .thing r1 [] with
      | (r, some k) => suF tk f .row r (ks ++ [k])
      | (r, none) => (putR r ⟨5, em, [], em, ks⟩, some (r.out.length : Int))) := fun _ => by rw [suF]; rfl
    have HPut : Hid (∀ (r2 : RdD) (ov2 : Value) (W : World), r2.out.length ≤ 100000 → OwnZ w.heap.size u3 ks W → RdS B p lv ov2 tk r2 W → SNodesO (AwayK A u3) B ov2 r2.out W → Calls Try.prog 69 #[.pointer (some ⟨p, 0, none⟩), .agg #[.int .i64 5, .string em, .slice none 0 0, .string em, u3]] W fun e w' => e = .returned (.int .i64 r2.out.length) ∧ (∃ ov', RdS B p lv ov' tk (putR r2 ⟨5, em, [], em, ks⟩) w' ∧ SNodesO A B ov' (putR r2 ⟨5, em, [], em, ks⟩).out w') ∧ FrS B W w') := fun r2 ov2 W hl hK hR hN =>
      putS_any (A := A) ⟨5, em, [], em, ks⟩ (.slice none 0 0) u3 W hl hR (sNodes_away hN (fun b _ hb => .inl hb)) (argsA_nil A B W) (OwnZ.base hK hBw) (fun b hb hAb => by
        have h1 := (World.ownsRow.lt hK b hb).1
        have h2 := HAw.out b hAb
        omega)
    clear hq hA1 hR hN hK hF hne HQ0
    obtain ⟨ak, ck, rfl⟩ := HK.out.row.slice
    cases hb : r1.bad with
    | true =>
      have HV : Hid (qq = (putR r1 ⟨5, em, [], em, ks⟩, some (r1.out.length : Int))) := by rw [Hid, ← HQ1.out, HE.out (), if_pos hb]
      rw [hb] at e3
      clear hb HE HQ1
      go_wp2_with fail
      refine (HPut.out r1 ov1 _ (by omega) HK.out HR.out HN.out).mono ?_
      rintro e w4 ⟨rfl, h1, h2⟩
      have S4 : Hid _ := h1
      have F4 : Hid (FrS B w w4) := HF.out.trans h2
      clear h1 h2
      go_wp2
      go_ret
      rw [HV.out]
      exact ⟨rfl, S4.out, F4.out⟩
    | false =>
      rw [hb] at e3
      have HE1 : Hid (∀ _ : Unit, _ = _) := fun _ => (HE.out ()).trans (if_neg (by rw [hb]; decide))
      have HAt : Hid (AskS tk f .thing r1) := HA1.out.go (GoI.refl tk r1) (by omega) (by have := HA1.out.need; simp only [rankS] at this ⊢; omega)
      have HI : Hid (SuI tk .thing r1 (suF tk f .thing r1 [])) := HAt.out.I []
      have HTh : Hid (∀ _ : Unit, _) := fun _ => HIh.out f (by omega) (AwayK A (.slice ak ks.length ck)) B p lv tk r1 wr HAt.out (awayK_lt (w := w) (n := 0) HAw.out HK.out hsz) ⟨ov1, HR.out, HN.out⟩
      clear hb HE
      cases hq : (suF tk f .thing r1 []).2 with
      | none =>
        rw [hq] at HTh
        have HV : Hid (qq = (putR (suF tk f .thing r1 []).1 ⟨5, em, [], em, ks⟩, some ((suF tk f .thing r1 []).1.out.length : Int))) := by
          rw [Hid, ← HQ1.out, HE1.out ()]
          generalize suF tk f .thing r1 [] = q at hq ⊢
          obtain ⟨a, b⟩ := q
          simp only at hq
          subst hq
          rfl
        have hol : (suF tk f .thing r1 []).1.out.length ≤ 100000 := by
          have h1 := HI.out.go.siz
          have h2 := HI.out.le
          simp only [baseS, nodesS] at h1
          omega
        clear hq HE1 HQ1 HI
        generalize (suF tk f .thing r1 []).1 = r2 at *
        go_wp2_with fail
        refine (HTh.out ()).mono ?_
        rintro e w3 ⟨rfl, ⟨ov3, h1, h2⟩, h3⟩
        have R3 : Hid (RdS B p lv ov3 tk r2 w3) := h1
        have N3 : Hid (SNodesO (AwayK A (.slice ak ks.length ck)) B ov3 r2.out w3) := h2
        have K3 : Hid (OwnZ w.heap.size (.slice ak ks.length ck) ks w3) := ownZ_fr HK.out h3 (by decide)
        have F3 : Hid (FrS B w w3) := HF.out.trans h3
        clear h1 h2 h3 HTh e3
        go_wp2_with fail
        refine (HPut.out r2 ov3 _ hol K3.out R3.out N3.out).mono ?_
        rintro e w4 ⟨rfl, h1, h2⟩
        have S4 : Hid _ := h1
        have F4 : Hid (FrS B w w4) := F3.out.trans h2
        clear h1 h2
        go_wp2
        go_ret
        rw [HV.out]
        exact ⟨rfl, S4.out, F4.out⟩
      | some k =>
        rw [hq] at HTh
        have HNx : Hid (suF tk f .row (suF tk f .thing r1 []).1 (ks ++ [k]) = qq) := by
          rw [Hid, ← HQ1.out, HE1.out ()]
          generalize suF tk f .thing r1 [] = q at hq ⊢
          obtain ⟨a, b⟩ := q
          simp only at hq
          subst hq
          rfl
        have HA2 : Hid (AskS tk f .row (suF tk f .thing r1 []).1) := HA1.out.go (n := 0) HI.out.go (by omega) (by
          have h1 := HI.out.took rfl (by rw [hq]; rfl)
          have h2 := HI.out.le
          have h3 := HA1.out.need
          simp only [rankS] at h3 ⊢
          omega)
        clear hq HE1 HQ1 HI
        generalize (suF tk f .thing r1 []).1 = r2 at *
        go_wp2_with fail
        refine (HTh.out ()).mono ?_
        rintro e w3 ⟨rfl, ⟨ov3, h1, h2⟩, h3⟩
        have R3 : Hid (RdS B p lv ov3 tk r2 w3) := h1
        have N3 : Hid (SNodesO (AwayK A (.slice ak ks.length ck)) B ov3 r2.out w3) := h2
        have K3 : Hid (OwnZ w.heap.size (.slice ak ks.length ck) ks w3) := ownZ_fr HK.out h3 (by decide)
        have F3 : Hid (FrS B w w3) := HF.out.trans h3
        have hsz3 : w.heap.size ≤ w3.heap.size := F3.out.bel.size
        have hks : ks.length ≤ 60000 := by omega
        clear h1 h2 h3 HTh e3
        go_wp2_with (at_builtin; refine wpList_append_lies _ rfl _ _ 70 rfl w.heap.size 3 i0 _ 1 8 Try.underlying70 hi hz0 hz1 hz2 rfl (by decide) _ _ _ rfl (World.ownsRow.alloc K3.out _) ⟨w3.heap.size, 0, none⟩ 1 1 [.int .i64 k] rfl rfl (cell_one_new _ _ _) (one_int11 _) (by omega) (by unfold maxLen; omega) (by omega) (by simp; omega) (w3.heap.size + 1) (by simp) ?_)
        intro gg cap w4 hown hgrow hat hlt
        have R := kids_more (A := A) (X := w.heap.size) (p := p) (lv := lv) (tk := tk) (ks := ks) (k := k) rfl F3.out hBw K3.out R3.out N3.out HAw.out hown hgrow hat
        have K4 : Hid _ := R.1
        have R4 : Hid _ := R.2.1
        have N4 : Hid _ := R.2.2.1
        have F4 : Hid _ := R.2.2.2
        clear R hown hgrow hat hlt
        go_wp2
        go_roundg f
        case measure => omega
        case rel => exact ⟨r2, ks ++ [k], ov3, HNx.out, HA2.out, by omega, by rw [List.length_append, List.length_singleton]; omega, K4.out, R4.out, N4.out, F4.out⟩

end Go.Proofs.Ytipkbkhnaekceaa

namespace Go.Proofs.Ytipkbkhnaekceaa
open Go.RowKit
set_option linter.unusedVariables false

theorem AskS.down {tk : List TokD} {g : Nat} {r : RdD} (h : AskS tk (g + 1) .alts r) : AskS tk g .row (downR r) := by
  obtain ⟨a, b, c, d, e, f⟩ := h
  simp only [rankS] at c
  exact ⟨a, b, by show 2 + 8 * (tk.length - r.at_) ≤ g; omega, by show _ ≤ r.deep + 1 - _; omega, by show r.deep + 1 + _ ≤ _; omega, by show r.out.length + 2 * (tk.length - r.at_) + g ≤ _; omega⟩
theorem AskS.bars {tk : List TokD} {g : Nat} {r r1 : RdD} (h : AskS tk (g + 1) .alts r) (k : GoI tk (downR r) r1 1) : AskS tk g .altsL r1 := by
  obtain ⟨a, b, c, d, e, f⟩ := h
  obtain ⟨a', b', c', d', e', f'⟩ := k
  simp only [rankS] at c
  have e1 : (downR r).at_ = r.at_ := rfl
  have e2 : (downR r).deep = r.deep + 1 := rfl
  have e3 : (downR r).out = r.out := rfl
  rw [e1] at b' c' f'
  rw [e2] at a'
  rw [e3] at f'
  exact ⟨a, by omega, by simp only [rankS]; omega, by omega, by omega, by omega⟩
theorem AskS.bar {tk : List TokD} {f : Nat} {s : ByteArray} {r : RdD} (h : AskS tk (f + 1) .altsL r) (hs : isT tk r s = true) : AskS tk f .row (onR r) := by
  obtain ⟨a, b, c, d, e, g⟩ := h
  have h1 := isT_lt hs
  simp only [rankS] at c
  exact ⟨a, by show r.at_ + 1 ≤ _; omega, by show 2 + 8 * (tk.length - (r.at_ + 1)) ≤ f; omega, by show _ ≤ r.deep - _; omega, by show r.deep + _ ≤ _; omega, by show r.out.length + 2 * (tk.length - (r.at_ + 1)) + f ≤ _; omega⟩
theorem AskS.barNext {tk : List TokD} {f : Nat} {s : ByteArray} {r r1 : RdD} (h : AskS tk (f + 1) .altsL r) (hs : isT tk r s = true) (k : GoI tk (onR r) r1 1) : AskS tk f .altsL r1 := by
  obtain ⟨a, b, c, d, e, g⟩ := h
  obtain ⟨a', b', c', d', e', f'⟩ := k
  have h1 := isT_lt hs
  simp only [rankS] at c
  have e1 : (onR r).at_ = r.at_ + 1 := rfl
  have e2 : (onR r).deep = r.deep := rfl
  have e3 : (onR r).out = r.out := rfl
  rw [e1] at b' c' f'
  rw [e2] at a'
  rw [e3] at f'
  exact ⟨a, by omega, by simp only [rankS]; omega, by omega, by omega, by omega⟩
theorem ownZ_lit1 (w : World) (k : Int) : OwnZ w.heap.size (.slice (some ⟨w.heap.size, 0, none⟩) 1 1) [k] (w.alloc (.cells #[.int .i64 k] 3)) := World.ownsRow_lit (base := w.heap.size) (e := 3) (size := 1) w #[.int .i64 k] 1 (Nat.le_refl _) (by decide) rfl

set_option maxHeartbeats 6400000 in
set_option maxRecDepth 100000 in
theorem alts_K (g : Nat) (ih : ∀ f, f ≤ g → RowK f) : AltK (g + 1) := by
  intro A B p lv tk r w ha hA hS
  obtain ⟨ov, hR, hN⟩ := hS
  obtain ⟨i0, hi, hz0, hz1, hz2⟩ := info_parts Try.infoInt5
  have hBw := hR.lt
  have hl0 := ha.lo
  have hg60 : g ≤ 60000 := by have := ha.room; omega
  have hh0 := ha.hi
  have HD : Hid (∀ _ : Unit, _) := fun _ => down_any (B := B) p lv ov r w hR.pB (by omega) (by omega) hR.rd
  have HA1 : Hid (AskS tk g .row (downR r)) := ha.down
  have HI1 : Hid (SuI tk .row (downR r) (suF tk g .row (downR r) [])) := ha.down.I []
  have HA2 : Hid (AskS tk g .altsL (suF tk g .row (downR r) []).1) := ha.bars HI1.out.go
  have HAw : Hid (∀ b, A b → b < w.heap.size) := hA
  have HR : Hid (RdS B p lv ov tk r w) := hR
  have HN : Hid (SNodesO A B ov r.out w) := hN
  have HQ0 : Hid (suF tk g .altsL (suF tk g .row (downR r) []).1 [(suF tk g .row (downR r) []).2.getD 0] = suF tk (g + 1) .alts r []) := by rw [Hid, suF]
  have HIh : Hid (∀ f, f ≤ g → RowK f) := ih
  clear hR hN ha hA ih
  generalize suF tk (g + 1) .alts r [] = qq at *
  have HRow : Hid (∀ W, (∀ b, A b → b < W.heap.size) → SuS A B p lv tk (downR r) W → _) := fun W h1 h2 => HIh.out g (Nat.le_refl _) A B p lv tk (downR r) W HA1.out h1 h2
  generalize suF tk g .row (downR r) [] = q at *
  go_enter Try.func52, Try.ntmps52
  go_wp2_with fail
  refine (HD.out ()).mono ?_
  rintro e w1 ⟨rfl, h1, h2⟩
  have R1 : Hid (RdS B p lv ov tk (downR r) w1) := HR.out.next h1 h2
  have N1 : Hid (SNodesO A B ov (downR r).out w1) := sNodes_fr HN.out h2 (by decide) (by decide) (by decide) (by decide)
  have F1 : Hid (FrS B w w1) := FrT.wide h2 (by simp)
  have A1 : Hid (∀ b, A b → b < w1.heap.size) := fun b hb => Nat.lt_of_lt_of_le (HAw.out b hb) h2.bel.size
  clear h1 h2 HD
  go_wp2_with fail
  refine (HRow.out w1 A1.out ⟨ov, R1.out, N1.out⟩).mono ?_
  rintro e w2 ⟨rfl, ⟨ov2, h1, h2⟩, h3⟩
  have hsz2 : w1.heap.size ≤ w2.heap.size := h3.bel.size
  have F2 : Hid (FrS B w w2) := F1.out.trans h3
  have hsw2 : w.heap.size ≤ w2.heap.size := F2.out.bel.size
  have bal : Below w2.heap.size w2 (w2.alloc (.cells #[.int .i64 (q.2.getD 0)] 3)) := (Below.refl _ _).alloc (Nat.le_refl _) _
  have K3 : Hid (OwnZ w2.heap.size (.slice (some ⟨w2.heap.size, 0, none⟩) 1 1) [q.2.getD 0] (w2.alloc (.cells #[.int .i64 (q.2.getD 0)] 3))) := ownZ_lit1 w2 _
  have R3 : Hid (RdS B p lv ov2 tk q.1 (w2.alloc (.cells #[.int .i64 (q.2.getD 0)] 3))) := h1.below bal
  have N3 : Hid (SNodesO (AwayK A (.slice (some ⟨w2.heap.size, 0, none⟩) 1 1)) B ov2 q.1.out (w2.alloc (.cells #[.int .i64 (q.2.getD 0)] 3))) := by
    refine sNodes_below (sNodes_away h2 (fun b hb1 hb => ?_)) bal
    rcases hb with hb | hb
    · exact hb
    · have : w2.heap.size = b := Option.some.inj hb
      omega
  have F3 : Hid (FrS B w2 (w2.alloc (.cells #[.int .i64 (q.2.getD 0)] 3))) := FrT.below bal (by omega)
  have A2 : Hid (∀ b, A b → b < w2.heap.size) := fun b hb => Nat.lt_of_lt_of_le (HAw.out b hb) hsw2
  have hBw2 : B ≤ w2.heap.size := by omega
  clear h1 h2 h3 bal
  go_wp2
  go_loopg [3] g (fun gg kv wr => ∃ (r1 : RdD) (ks : List Int) (ov1 : Value), suF tk gg .altsL r1 ks = qq ∧ AskS tk gg .altsL r1 ∧ gg ≤ g ∧ ks.length + gg ≤ g + 1 ∧ OwnZ w2.heap.size kv ks wr ∧ RdS B p lv ov1 tk r1 wr ∧ SNodesO (AwayK A kv) B ov1 r1.out wr ∧ FrS B w2 wr)
  case atStart => exact ⟨q.1, _, ov2, HQ0.out, HA2.out, Nat.le_refl _, by simp; omega, K3.out, R3.out, N3.out, F3.out⟩
  case round =>
    obtain ⟨r1, ks, ov1, hq, hA1, hgg, hkl, hK, hR, hN, hF⟩ := hrel
    have hne := hA1.need
    have hrm := hA1.room
    have hl1 := hA1.lo
    have hh1 := hA1.hi
    have htl := hA1.tko.len
    obtain ⟨f, rfl⟩ : ∃ f, gk = f + 1 := ⟨gk - 1, by simp only [rankS] at hne; omega⟩
    have HQ1 : Hid (suF tk (f + 1) .altsL r1 ks = qq) := hq
    have HA1 : Hid (AskS tk (f + 1) .altsL r1) := hA1
    have HR1 : Hid (RdS B p lv ov1 tk r1 wr) := hR
    have HN1 : Hid (SNodesO (AwayK A u3) B ov1 r1.out wr) := hN
    have HK : Hid (OwnZ w2.heap.size u3 ks wr) := hK
    have HF : Hid (FrS B w2 wr) := hF
    have hsz : w2.heap.size ≤ wr.heap.size := hF.bel.size
    have HE : Hid (∀ _ : Unit, suF tk (f + 1) .altsL r1 ks = if isT tk r1 (s1 124) = true then suF tk f .altsL (suF tk f .row (onR r1) []).1 (ks ++ [(suF tk f .row (onR r1) []).2.getD 0]) else (putR (upR r1) ⟨6, em, [], em, ks⟩, some (r1.out.length : Int))) := fun _ => by rw [suF]
    clear hq hA1 hR hN hK hF hne HQ0
    obtain ⟨ak, ck, rfl⟩ := HK.out.row.slice
    go_wp2_with fail
    refine (sign_any (B := B) p lv ov1 tk r1 (s1 124) wr HR1.out.pB (by omega) HR1.out.rd HR1.out.tok).mono ?_
    rintro e w4 ⟨rfl, h1, h2⟩
    cases hs : isT tk r1 (s1 124) with
    | true =>
      rw [signR, if_pos hs] at h1
      have R4 : Hid (RdS B p lv ov1 tk (onR r1) w4) := HR1.out.next h1 h2
      have N4 : Hid (SNodesO (AwayK A (.slice ak ks.length ck)) B ov1 (onR r1).out w4) := sNodes_fr HN1.out h2 (by decide) (by decide) (by decide) (by decide)
      have K4 : Hid (OwnZ w2.heap.size (.slice ak ks.length ck) ks w4) := ownZ_fr HK.out h2 (by decide)
      have F4 : Hid (FrS B w2 w4) := HF.out.trans (FrT.wide h2 (by simp))
      have hsz4 : w2.heap.size ≤ w4.heap.size := F4.out.bel.size
      have HAr : Hid (AskS tk f .row (onR r1)) := HA1.out.bar hs
      have HIr : Hid (SuI tk .row (onR r1) (suF tk f .row (onR r1) [])) := HAr.out.I []
      have HAn : Hid (AskS tk f .altsL (suF tk f .row (onR r1) []).1) := HA1.out.barNext hs HIr.out.go
      have HRw : Hid (∀ _ : Unit, _) := fun _ => HIh.out f (by omega) (AwayK A (.slice ak ks.length ck)) B p lv tk (onR r1) w4 HAr.out (awayK_lt (w := w) (n := 0) A2.out K4.out hsz4) ⟨ov1, R4.out, N4.out⟩
      have HNx : Hid (_ = qq) := (((HE.out ()).trans (if_pos hs)).symm.trans HQ1.out)
      clear h1 h2 hs HE HQ1 HIr
      generalize suF tk f .row (onR r1) [] = q2 at *
      go_wp2_with fail
      refine (HRw.out ()).mono ?_
      rintro e w5 ⟨rfl, ⟨ov5, h1, h2⟩, h3⟩
      have R5 : Hid (RdS B p lv ov5 tk q2.1 w5) := h1
      have N5 : Hid (SNodesO (AwayK A (.slice ak ks.length ck)) B ov5 q2.1.out w5) := h2
      have K5 : Hid (OwnZ w2.heap.size (.slice ak ks.length ck) ks w5) := ownZ_fr K4.out h3 (by decide)
      have F5 : Hid (FrS B w2 w5) := F4.out.trans h3
      have hsz5 : w2.heap.size ≤ w5.heap.size := F5.out.bel.size
      have hks : ks.length ≤ 60001 := by omega
      clear h1 h2 h3 HRw
      go_wp2_with (at_builtin; refine wpList_append_lies _ rfl _ _ 70 rfl w2.heap.size 3 i0 _ 1 8 Try.underlying70 hi hz0 hz1 hz2 rfl (by decide) _ _ _ rfl (World.ownsRow.alloc K5.out _) ⟨w5.heap.size, 0, none⟩ 1 1 [.int .i64 (q2.2.getD 0)] rfl rfl (cell_one_new _ _ _) (one_int11 _) (by omega) (by unfold maxLen; omega) (by omega) (by simp; omega) (w5.heap.size + 1) (by simp) ?_)
      intro gg cap w6 hown hgrow hat hlt
      have R := kids_more (A := A) (X := w2.heap.size) (p := p) (lv := lv) (tk := tk) (ks := ks) (k := q2.2.getD 0) rfl F5.out hBw2 K5.out R5.out N5.out A2.out hown hgrow hat
      have K6 : Hid _ := R.1
      have R6 : Hid _ := R.2.1
      have N6 : Hid _ := R.2.2.1
      have F6 : Hid _ := R.2.2.2
      clear R hown hgrow hat hlt
      go_wp2
      go_roundg f
      case measure => omega
      case rel => exact ⟨q2.1, ks ++ [q2.2.getD 0], ov5, HNx.out, HAn.out, by omega, by rw [List.length_append, List.length_singleton]; omega, K6.out, R6.out, N6.out, F6.out⟩
    | false =>
      rw [signR, if_neg (by rw [hs]; decide)] at h1
      have R4 : Hid (RdS B p lv ov1 tk r1 w4) := HR1.out.next h1 h2
      have N4 : Hid (SNodesO (AwayK A (.slice ak ks.length ck)) B ov1 r1.out w4) := sNodes_fr HN1.out h2 (by decide) (by decide) (by decide) (by decide)
      have K4 : Hid (OwnZ w2.heap.size (.slice ak ks.length ck) ks w4) := ownZ_fr HK.out h2 (by decide)
      have F4 : Hid (FrS B w2 w4) := HF.out.trans (FrT.wide h2 (by simp))
      have HV : Hid (qq = (putR (upR r1) ⟨6, em, [], em, ks⟩, some (r1.out.length : Int))) := by rw [Hid, ← HQ1.out, HE.out (), if_neg (by rw [hs]; decide)]
      clear h1 h2 hs HE HQ1
      go_wp2_with fail
      refine (up_any (B := B) p lv ov1 r1 w4 R4.out.pB (by omega) (by omega) R4.out.rd).mono ?_
      rintro e w5 ⟨rfl, h1, h2⟩
      have R5 : Hid (RdS B p lv ov1 tk (upR r1) w5) := R4.out.next h1 h2
      have N5 : Hid (SNodesO (AwayK A (.slice ak ks.length ck)) B ov1 (upR r1).out w5) := sNodes_fr N4.out h2 (by decide) (by decide) (by decide) (by decide)
      have K5 : Hid (OwnZ w2.heap.size (.slice ak ks.length ck) ks w5) := ownZ_fr K4.out h2 (by decide)
      have F5 : Hid (FrS B w w5) := F2.out.trans (F4.out.trans (FrT.wide h2 (by simp)))
      clear h1 h2
      have hol : (upR r1).out.length ≤ 100000 := by show r1.out.length ≤ _; omega
      have HPu : Hid (∀ _ : Unit, _) := fun _ => putS_any (A := A) ⟨6, em, [], em, ks⟩ (.slice none 0 0) (.slice ak ks.length ck) w5 hol R5.out (sNodes_away N5.out (fun b _ hb => .inl hb)) (argsA_nil A B w5) (OwnZ.base K5.out hBw2) (fun b hb hAb => by
        have h1 := (World.ownsRow.lt K5.out b hb).1
        have h2 := A2.out b hAb
        omega)
      go_wp2_with fail
      refine (HPu.out ()).mono ?_
      rintro e w6 ⟨rfl, h1, h2⟩
      have S6 : Hid _ := h1
      have F6 : Hid (FrS B w w6) := F5.out.trans h2
      clear h1 h2
      go_wp2
      go_ret
      rw [HV.out]
      exact ⟨rfl, S6.out, F6.out⟩

end Go.Proofs.Ytipkbkhnaekceaa
