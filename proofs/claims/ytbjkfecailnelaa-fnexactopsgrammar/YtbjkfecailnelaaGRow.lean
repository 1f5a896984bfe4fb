/- Lists of structs as they lie in memory, whatever their elements are: read, kept, opened as arguments, and built cell by cell. No program is named. -/
import Derived.Test.YtbjkfecailnelaaXRow
import Derived.Laws.OwnMore
import Derived.OwnWalk
import Derived.Handy
namespace Go.Proofs.Ytbjkfecailnelaa
open Go.RowKit
variable {α : Type}

/-- A list: each element lies in sz cells, as E tells of them. -/
def RowC (sz : Nat) (E : World → List Value → α → Prop) (w : World) (v : Value) (xs : List α) : Prop :=
  ∃ a cap, v = .slice a xs.length cap ∧ (a = none → cap = 0) ∧ (0 < xs.length → ∃ b off, a = some ⟨b, off, none⟩ ∧ b < w.heap.size ∧
    ∀ i (h : i < xs.length), ∃ vs : List Value, vs.length = sz ∧ (∀ j (hj : j < vs.length), w.cell? ⟨b, off + i * sz + j, none⟩ = some vs[j]) ∧ E w vs xs[i])
theorem RowC.slice {sz : Nat} {E : World → List Value → α → Prop} {w : World} {v : Value} {xs : List α} (h : RowC sz E w v xs) : ∃ a cap, v = .slice a xs.length cap := by
  obtain ⟨a, cap, rfl, _⟩ := h
  exact ⟨a, cap, rfl⟩
theorem RowC.at {sz : Nat} {E : World → List Value → α → Prop} {w : World} {a : Option Addr} {n cap k : Nat} {xs : List α} (h : RowC sz E w (.slice a n cap) xs) (hk : k < xs.length) :
    ∃ b off vs, a = some ⟨b, off, none⟩ ∧ vs.length = sz ∧ (∀ j (hj : j < vs.length), w.cell? ⟨b, off + k * sz + j, none⟩ = some vs[j]) ∧ E w vs xs[k] := by
  obtain ⟨a', cap', e, _, hh⟩ := h
  cases e
  obtain ⟨b, off, rfl, _, hc⟩ := hh (by omega)
  obtain ⟨vs, h1, h2, h3⟩ := hc k hk
  exact ⟨b, off, vs, rfl, h1, h2, h3⟩

/-- What is told of a world stays told behind what makes new memory alone. -/
def StableE (E : World → List Value → α → Prop) : Prop := ∀ (w w' : World) (vs : List Value) (x : α), E w vs x → Below w.heap.size w w' → E w' vs x
theorem RowC.below {sz : Nat} {E : World → List Value → α → Prop} (hE : StableE E) {w w' : World} {v : Value} {xs : List α} (h : RowC sz E w v xs) (hb : Below w.heap.size w w') : RowC sz E w' v xs := by
  obtain ⟨a, cap, rfl, hcap, hh⟩ := h
  refine ⟨a, cap, rfl, hcap, fun h0 => ?_⟩
  obtain ⟨b, off, rfl, hlt, hc⟩ := hh h0
  refine ⟨b, off, rfl, Nat.lt_of_lt_of_le hlt hb.size, fun i hi => ?_⟩
  obtain ⟨vs, h1, h2, h3⟩ := hc i hi
  exact ⟨vs, h1, fun j hj => (World.cell?_of_block (hb.block b hlt)).trans (h2 j hj), hE _ _ _ _ h3 hb⟩

/-- An argument's list, opened: each element by its own opener. -/
theorem rowC_of_trod {H : Type} {enc : TypeId × Value → H} {P : Program} {w : World} {base : Nat} {held : Bool} {t e : TypeId} {sz fuel : Nat} {v : Value} {x : DataW H × List MemPlace} {E : World → List Value → α → Prop} {In : α → Prop} [Inhabited α]
    (ht : P.underlying t = some (.slice e)) (ce : P.cellsOf e = sz) (hsz : 0 < sz) (hel : ∀ (n : Nat) (cs : List Value) (y : DataW H × List MemPlace), cs.length = sz → DataW.trod enc P w base (fun _ => true) held n e cs = some y → ∃ x, E w cs x ∧ In x)
    (h : DataW.trod enc P w base (fun _ => true) held fuel t [v] = some x) : ∃ xs : List α, RowC sz E w v xs ∧ xs.length ≤ maxLen ∧ ∀ x ∈ xs, In x := by
  rcases Go.Deep.open_slice ht h with ⟨h0, _⟩ | ⟨a, len, cap, m, n, D, Pl, hv, hb, hl, hm, hmm, _, hc⟩
  · obtain rfl : v = .slice none 0 0 := by simpa using h0
    exact ⟨[], ⟨none, 0, rfl, fun _ => rfl, fun h => absurd h (by simp)⟩, by simp, by simp⟩
  · obtain rfl : v = .slice (some a) len cap := by simpa using hv
    have hml : len ≤ m := by rw [hmm, if_pos rfl]; exact hl
    have each : ∀ i, i < len → ∃ q : α × List Value, q.2.length = sz ∧ (∀ j (hj : j < q.2.length), w.cell? (a.add (i * sz + j)) = some q.2[j]) ∧ E w q.2 q.1 ∧ In q.1 := by
      intro i hi
      obtain ⟨cs', h1, h2⟩ := hc i (by omega)
      rw [ce] at h1
      obtain ⟨_, hlen, hcell⟩ := World.cells?_some h1
      obtain ⟨x, hx, hi⟩ := hel n cs' _ hlen h2
      refine ⟨(x, cs'), hlen, fun j hj => ?_, hx, hi⟩
      have := hcell j (by rw [← hlen]; exact hj)
      rw [Go.Deep.add_add] at this
      rw [this, List.getElem?_eq_getElem hj]
    have : Inhabited (α × List Value) := ⟨(default, [])⟩
    obtain ⟨q, hq⟩ := Go.Deep.choose_lt each
    have hxl : ((List.range len).map fun i => (q i).1).length = len := by simp
    refine ⟨(List.range len).map fun i => (q i).1, ⟨some a, cap, by rw [hxl], fun h => (by cases h), fun h0 => ?_⟩, by rw [hxl]; omega, fun x hx => ?_⟩
    · obtain ⟨b, off, spot⟩ := a
      rw [hxl] at h0
      have h1 := (hq 0 h0).2.1 0 (by rw [(hq 0 h0).1]; exact hsz)
      have hspot : spot = none := by simpa [Addr.add] using World.cell?_spot h1
      subst hspot
      refine ⟨b, off, rfl, ?_, fun i hi => ?_⟩
      · have := World.block_lt_of_cell? w _ h1
        simpa [Addr.add] using this
      · rw [hxl] at hi
        obtain ⟨h1, h2, h3, _⟩ := hq i hi
        refine ⟨(q i).2, h1, fun j hj => ?_, by simpa using h3⟩
        have := h2 j hj
        rw [Addr.add_lit] at this
        rw [Nat.add_assoc]
        exact this
    · obtain ⟨i, hi, rfl⟩ := List.mem_map.1 hx
      exact (hq i (List.mem_range.1 hi)).2.2.2

/-- What is told of a world is told of every world that has its blocks from B on. -/
def Fresh (B : Nat) (w : World) (P : World → Prop) : Prop := ∀ W : World, w.heap.size ≤ W.heap.size → (∀ k, B ≤ k → k < w.heap.size → W.heap[k]? = w.heap[k]?) → P W
theorem Fresh.here {B : Nat} {w : World} {P : World → Prop} (h : Fresh B w P) : P w := h w (Nat.le_refl _) (fun _ _ _ => rfl)
theorem Fresh.base {B B' : Nat} {w : World} {P : World → Prop} (h : Fresh B w P) (hB : B' ≤ B) : Fresh B' w P := fun W h1 h2 => h W h1 (fun k hk => h2 k (Nat.le_trans hB hk))
theorem Fresh.step {B : Nat} {w w' : World} {P : World → Prop} (h : Fresh B w P) (h1 : w.heap.size ≤ w'.heap.size) (h2 : ∀ k, B ≤ k → k < w.heap.size → w'.heap[k]? = w.heap[k]?) : Fresh B w' P :=
  fun W h3 h4 => h W (Nat.le_trans h1 h3) (fun k hk hlt => (h4 k hk (Nat.lt_of_lt_of_le hlt h1)).trans (h2 k hk hlt))
theorem Fresh.below {B : Nat} {w w' : World} {P : World → Prop} (h : Fresh B w P) (hb : Below w.heap.size w w') : Fresh B w' P := h.step hb.size (fun k _ hlt => hb.block k hlt)
theorem Fresh.setLow {B : Nat} {w : World} {P : World → Prop} (h : Fresh B w P) {b : Nat} (hb : b < B) (j : Nat) (u : Value) : Fresh B (w.setCell ⟨b, j, none⟩ u) P :=
  h.step (by simp) (fun k hk _ => by
    simp only [World.setCell]
    rw [Array.getElem?_modify, if_neg (by omega)])
theorem Fresh.imp {B : Nat} {w : World} {P Q : World → Prop} (h : Fresh B w P) (hi : ∀ W, P W → Q W) : Fresh B w Q := fun W h1 h2 => hi W (h W h1 h2)
theorem Fresh.and {B : Nat} {w : World} {P Q : World → Prop} (h : Fresh B w P) (k : Fresh B w Q) : Fresh B w fun W => P W ∧ Q W := fun W h1 h2 => ⟨h W h1 h2, k W h1 h2⟩
theorem Fresh.pure {B : Nat} {w : World} {P : Prop} (h : P) : Fresh B w fun _ => P := fun _ _ _ => h

/-- Cells written one behind the other: into a list, and into a block. -/
def setsL (cs : List Value) (j : Nat) : List Value → List Value
  | [] => cs
  | v :: vs => setsL (cs.set j v) (j + 1) vs
def setsW (w : World) (g j : Nat) : List Value → World
  | [] => w
  | v :: vs => setsW (w.setCell ⟨g, j, none⟩ v) g (j + 1) vs
theorem setsL_len (cs : List Value) (j : Nat) (vs : List Value) : (setsL cs j vs).length = cs.length := by
  induction vs generalizing cs j with
  | nil => rfl
  | cons v vs ih => rw [setsL, ih, List.length_set]
theorem setsL_take (cs : List Value) (j : Nat) (vs : List Value) (h : j + vs.length ≤ cs.length) : (setsL cs j vs).take (j + vs.length) = cs.take j ++ vs := by
  induction vs generalizing cs j with
  | nil => simp [setsL]
  | cons v vs ih =>
    have h1 : j + 1 + vs.length ≤ (cs.set j v).length := by simp only [List.length_set, List.length_cons] at *; omega
    have h2 := ih (cs.set j v) (j + 1) h1
    have hj : j < cs.length := by simp only [List.length_cons] at h; omega
    rw [setsL, List.length_cons, show j + (vs.length + 1) = j + 1 + vs.length by omega, h2, List.take_succ_eq_append_getElem (by rw [List.length_set]; exact hj), List.take_set_of_le (Nat.le_refl _)]
    simp
theorem setsW_own {B : Nat} {e : TypeId} {sz g n cap : Nat} {cs : List Value} {w : World} (h : w.ownsRow B e sz (.slice (some ⟨g, 0, none⟩) n cap) n cs) (j : Nat) (vs : List Value) : (setsW w g j vs).ownsRow B e sz (.slice (some ⟨g, 0, none⟩) n cap) n (setsL cs j vs) := by
  induction vs generalizing w cs j with
  | nil => exact h
  | cons v vs ih => exact ih (World.ownsRow.stored h j v).1 (j + 1)
theorem setsW_fresh {B g : Nat} {w : World} {P : World → Prop} (h : Fresh B w P) (hg : g < B) (j : Nat) (vs : List Value) : Fresh B (setsW w g j vs) P := by
  induction vs generalizing w j with
  | nil => exact h
  | cons v vs ih => exact ih (h.setLow hg j v) (j + 1)
theorem setsW_below {B g : Nat} {w0 w : World} (h : Below B w0 w) (hg : B ≤ g) (j : Nat) (vs : List Value) : Below B w0 (setsW w g j vs) := by
  induction vs generalizing w j with
  | nil => exact h
  | cons v vs ih => exact ih (h.setCell hg v) (j + 1)

/-- A list that is being built in the block g: its first elements are laid, what they reach lies behind g. -/
def RowTo (sz : Nat) (E : World → List Value → α → Prop) (e : TypeId) (B g : Nat) (xs : List α) (k : Nat) (w : World) : Prop :=
  ∃ (cs : List Value) (vss : List (List Value)), w.ownsRow B e sz (.slice (some ⟨g, 0, none⟩) xs.length xs.length) xs.length cs ∧ k ≤ xs.length ∧ vss.length = k ∧ (∀ vs ∈ vss, vs.length = sz) ∧ cs.take (k * sz) = vss.flatten ∧
    ∀ i (h : i < vss.length) (h' : i < xs.length), Fresh (g + 1) w fun W => E W vss[i] xs[i]
theorem rowTo_start {sz : Nat} {E : World → List Value → α → Prop} {e : TypeId} {B g : Nat} {xs : List α} {w : World} {cs : List Value} (h : w.ownsRow B e sz (.slice (some ⟨g, 0, none⟩) xs.length xs.length) xs.length cs) : RowTo sz E e B g xs 0 w :=
  ⟨cs, [], h, Nat.zero_le _, rfl, (fun _ h => by cases h), by simp, (fun i h => by cases h)⟩
theorem RowTo.below {sz : Nat} {E : World → List Value → α → Prop} {e : TypeId} {B g : Nat} {xs : List α} {k : Nat} {w w' : World} (h : RowTo sz E e B g xs k w) (hb : Below w.heap.size w w') : RowTo sz E e B g xs k w' := by
  obtain ⟨cs, vss, h1, h2, h3, h4, h5, h6⟩ := h
  refine ⟨cs, vss, ?_, h2, h3, h4, h5, fun i hi hi' => (h6 i hi hi').below hb⟩
  exact World.ownsRow.kept h1 (row := none) ⟨hb.os, hb.tape, hb.output, hb.size, fun k hk _ => hb.block k hk⟩ (.inr (fun e => by cases e))
theorem RowTo.own {sz : Nat} {E : World → List Value → α → Prop} {e : TypeId} {B g : Nat} {xs : List α} {k : Nat} {w : World} (h : RowTo sz E e B g xs k w) : ∃ cs, w.ownsRow B e sz (.slice (some ⟨g, 0, none⟩) xs.length xs.length) xs.length cs := by
  obtain ⟨cs, _, h1, _⟩ := h
  exact ⟨cs, h1⟩
theorem RowTo.next {sz : Nat} {E : World → List Value → α → Prop} {e : TypeId} {B g : Nat} {xs : List α} {k : Nat} {w : World} (h : RowTo sz E e B g xs k w) (hk : k < xs.length) {vs : List Value} (hl : vs.length = sz) (hE : Fresh (g + 1) w fun W => E W vs xs[k]) :
    RowTo sz E e B g xs (k + 1) (setsW w g (k * sz) vs) := by
  obtain ⟨cs, vss, h1, h2, h3, h4, h5, h6⟩ := h
  have hcs : cs.length = xs.length * sz := h1.1
  have hle : k * sz + vs.length ≤ cs.length := by
    rw [hcs, hl, ← Nat.succ_mul]
    exact Nat.mul_le_mul_right sz hk
  refine ⟨setsL cs (k * sz) vs, vss ++ [vs], setsW_own h1 _ _, hk, by simp [h3], fun v hv => ?_, ?_, fun i hi hi' => ?_⟩
  · rcases List.mem_append.1 hv with hv | hv
    · exact h4 v hv
    · rw [List.mem_singleton.1 hv]; exact hl
  · have := setsL_take cs (k * sz) vs hle
    rw [show (k + 1) * sz = k * sz + vs.length by rw [hl, Nat.succ_mul], this, h5]
    simp
  · by_cases hlt : i < vss.length
    · rw [List.getElem_append_left hlt]
      exact setsW_fresh (h6 i hlt hi') (Nat.lt_succ_self g) _ _
    · obtain rfl : i = k := by simp at hi; omega
      have e : (vss ++ [vs])[i] = vs := by
        rw [List.getElem_append_right (by omega)]
        simp
      rw [e]
      exact setsW_fresh hE (Nat.lt_succ_self g) _ _
theorem flat_at (sz : Nat) : ∀ (vss : List (List Value)), (∀ vs ∈ vss, vs.length = sz) → ∀ (i j : Nat) (h : i < vss.length) (hj : j < vss[i].length), vss.flatten[i * sz + j]? = some vss[i][j]
  | v :: vss, hl, 0, j, h, hj => by
    have hj' : j < v.length := hj
    rw [List.flatten_cons, Nat.zero_mul, Nat.zero_add, List.getElem?_append_left hj', List.getElem?_eq_getElem hj']
    rfl
  | v :: vss, hl, i + 1, j, h, hj => by
    have hv := hl v (List.mem_cons_self ..)
    rw [List.flatten_cons, List.getElem?_append_right (by rw [hv, Nat.succ_mul]; omega), hv, show (i + 1) * sz + j - sz = i * sz + j by rw [Nat.succ_mul]; omega]
    exact flat_at sz vss (fun x hx => hl x (List.mem_cons_of_mem _ hx)) i j (by simpa using h) hj
/-- The list, when all are laid. -/
theorem RowTo.done {sz : Nat} {E : World → List Value → α → Prop} {e : TypeId} {B g : Nat} {xs : List α} {w : World} (h : RowTo sz E e B g xs xs.length w) : Fresh g w fun W => RowC sz E W (.slice (some ⟨g, 0, none⟩) xs.length xs.length) xs := by
  obtain ⟨cs, vss, h1, h2, h3, h4, h5, h6⟩ := h
  intro W hW hbl
  refine ⟨some ⟨g, 0, none⟩, xs.length, rfl, fun h => (by cases h), fun h0 => ?_⟩
  have hg := World.ownsRow.lt h1 g rfl
  refine ⟨g, 0, rfl, Nat.lt_of_lt_of_le hg.2 hW, fun i hi => ⟨vss[i]'(by omega), h4 _ (List.getElem_mem _), fun j hj => ?_, h6 i (by omega) hi W hW (fun k hk => hbl k (by omega))⟩⟩
  rw [World.cell?_of_block (hbl g (Nat.le_refl _) hg.2)]
  have hf := flat_at sz vss h4 i j (by omega) hj
  rw [← h5, List.getElem?_take] at hf
  split at hf
  · have := World.ownsRow.cells h1 (g := g) rfl (i * sz + j) _ hf
    rwa [Addr.add_lit, ← Nat.add_assoc] at this
  · cases hf

end Go.Proofs.Ytbjkfecailnelaa
