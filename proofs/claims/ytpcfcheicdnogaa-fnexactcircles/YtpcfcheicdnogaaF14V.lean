/- A row of rows of numbers that a call owns, each in a block of its own. -/
import Derived.Test.YtpcfcheicdnogaaF14H
import Derived.Test.YtpcfcheicdnogaaF14C
namespace Go.Proofs.Ytpcfcheicdnogaa
open Go.RowKit
set_option linter.unusedVariables false

theorem Try.infoZ14 : (Try.prog.info? 36).map (fun i => (i.zero, i.size, i.bytes)) = some (some (.slice none 0 0), 1, 24) := by kernel_rfl
def AbV (B : Nat) (v : Value) (n : Nat) (vs : List Value) (rss : List (List Int)) (w : World) : Prop :=
  vs.length = n ∧ rss.length = n ∧ w.ownsRow B 36 1 v n vs ∧ (∀ k (h : k < vs.length) (h' : k < rss.length), OwnZ B vs[k] rss[k] w) ∧ ∀ k k' (h : k < vs.length) (h' : k' < vs.length), k ≠ k' → vs[k].ownBlock = none ∨ vs[k].ownBlock ≠ vs[k'].ownBlock
theorem own_shape14 {w : World} {B s n : Nat} {e : TypeId} {v : Value} {cs : List Value} (h : w.ownsRow B e s v n cs) : ∃ a c, v = .slice a n c := by
  rcases h.2 with ⟨rfl, h0⟩ | ⟨g, cap, cur, rfl, _⟩
  · exact ⟨none, 0, by rw [h0]⟩
  · exact ⟨_, _, rfl⟩
theorem AbV.made {B g n : Nat} {w : World} (h : w.ownsRow B 36 1 (.slice (some ⟨g, 0, none⟩) n n) n (madeCells (Value.slice none 0 0).cells (n * 1)).toList) : AbV B (.slice (some ⟨g, 0, none⟩) n n) n (List.replicate n (.slice none 0 0)) (List.replicate n []) w := by
  rw [Nat.mul_one, show (Value.slice none 0 0).cells = #[.slice none 0 0] from rfl, toList_madeCells_one] at h
  refine ⟨by simp, by simp, h, fun k hk hk' => ?_, fun k k' hk hk' _ => ?_⟩
  · rw [List.getElem_replicate, List.getElem_replicate]
    exact World.ownsRow_nil _ _ _ _
  · rw [List.getElem_replicate]
    exact .inl rfl
theorem AbV.below {B n : Nat} {v : Value} {vs : List Value} {rss : List (List Int)} {w w' : World} (h : AbV B v n vs rss w) (hb : Below w.heap.size w w') : AbV B v n vs rss w' :=
  ⟨h.1, h.2.1, own_below h.2.2.1 hb, fun k hk hk' => (h.2.2.2.1 k hk hk').below hb, h.2.2.2.2⟩
theorem AbV.setOld {B n : Nat} {v : Value} {vs : List Value} {rss : List (List Int)} {w : World} (h : AbV B v n vs rss w) {a : Addr} (ha : a.block < B) (u : Value) : AbV B v n vs rss (w.setCell a u) :=
  ⟨h.1, h.2.1, ownsRow_setCell_below h.2.2.1 ha u, fun k hk hk' => ownsRow_setCell_below (h.2.2.2.1 k hk hk') ha u, h.2.2.2.2⟩
theorem AbV.cell {B g n cap : Nat} {vs : List Value} {rss : List (List Int)} {w : World} (h : AbV B (.slice (some ⟨g, 0, none⟩) n cap) n vs rss w) {k : Nat} (hk : k < vs.length) : w.cell? ⟨g, k, none⟩ = some vs[k] ∧ w.frozen? ⟨g, k, none⟩ = false := by
  have h1 := World.ownsRow.cells h.2.2.1 (g := g) rfl k vs[k] (List.getElem?_eq_getElem hk)
  rw [Addr.add_lit, Nat.zero_add] at h1
  exact ⟨h1, World.ownsRow.frozenAt h.2.2.1 k⟩
theorem AbV.mid {B g n cap : Nat} {vs : List Value} {rss : List (List Int)} {W w2 : World} {ob : Obj} {k : Nat} (h : AbV B (.slice (some ⟨g, 0, none⟩) n cap) n vs rss W) (hk : k < vs.length) (hk' : k < rss.length) (hg : (W.alloc ob).grownBy w2 vs[k].ownBlock) : w2.ownsRow B 36 1 (.slice (some ⟨g, 0, none⟩) n cap) n vs :=
  World.ownsRow.kept (World.ownsRow.alloc h.2.2.1 ob) hg (own14_ne h.2.2.1 (h.2.2.2.1 k hk hk') (by decide))
theorem AbV.midCell {B g n cap : Nat} {vs : List Value} {rss : List (List Int)} {W w2 : World} {ob : Obj} {k : Nat} (h : AbV B (.slice (some ⟨g, 0, none⟩) n cap) n vs rss W) (hk : k < vs.length) (hk' : k < rss.length) (hg : (W.alloc ob).grownBy w2 vs[k].ownBlock) : w2.cell? ⟨g, k, none⟩ = some vs[k] ∧ w2.frozen? ⟨g, k, none⟩ = false := by
  have h0 := h.mid hk hk' hg
  have h1 := World.ownsRow.cells h0 (g := g) rfl k vs[k] (List.getElem?_eq_getElem hk)
  rw [Addr.add_lit, Nat.zero_add] at h1
  exact ⟨h1, World.ownsRow.frozenAt h0 k⟩
theorem block_apart14 {B k m : Nat} {v : Value} {ks : List Int} {W : World} (hk : OwnZ B v ks W) (hm : W.heap.size ≤ m) {pv v' : Value} (hne : v.ownBlock = none ∨ v.ownBlock ≠ pv.ownBlock) (hat : v'.ownBlock = pv.ownBlock ∨ v'.ownBlock = some m) : v.ownBlock = none ∨ v.ownBlock ≠ v'.ownBlock := by
  rcases hne with hne | hne
  · exact .inl hne
  · rcases hat with hat | hat
    · rw [hat]; exact .inr hne
    · cases hv : v.ownBlock with
      | none => exact .inl rfl
      | some b =>
        have h1 := (World.ownsRow.lt hk b hv).2
        rw [hat]
        refine .inr (fun e => ?_)
        have e2 : b = m := Option.some.inj e
        omega
theorem ne_comm14 {a b : Option Nat} (h : a = none ∨ a ≠ b) : b = none ∨ b ≠ a := by
  rcases h with h | h
  · cases b with
    | none => exact .inl rfl
    | some x => exact .inr (by rw [h]; simp)
  · exact .inr (fun e => h e.symm)
theorem AbV.put {B g n cap k m : Nat} {x : Int} {v' : Value} {vs : List Value} {rss : List (List Int)} {W w2 : World} {ob : Obj} (h : AbV B (.slice (some ⟨g, 0, none⟩) n cap) n vs rss W) (hk : k < vs.length) (hk' : k < rss.length) (hown2 : w2.ownsRow B 3 1 v' (rss[k].length + 1) (zv rss[k] ++ [.int .i64 x])) (hg : (W.alloc ob).grownBy w2 vs[k].ownBlock) (hat : v'.ownBlock = vs[k].ownBlock ∨ v'.ownBlock = some m) (hm : W.heap.size ≤ m) :
    AbV B (.slice (some ⟨g, 0, none⟩) n cap) n (vs.set k v') (rss.set k (rss[k] ++ [x])) (w2.setCell ⟨g, k, none⟩ v') := by
  have hm0 := h.mid hk hk' hg
  have hz : OwnZ B v' (rss[k] ++ [x]) w2 := snocZ14 hown2
  refine ⟨by rw [List.length_set]; exact h.1, by rw [List.length_set]; exact h.2.1, ?_, fun j hj hj' => ?_, fun j j' hj hj' hne => ?_⟩
  · exact (World.ownsRow.stored hm0 k v').1
  · rw [List.length_set] at hj hj'
    by_cases e : k = j
    · subst e
      rw [List.getElem_set_self, List.getElem_set_self]
      exact World.ownsRow.kept hz (grow_set w2 g k v') (own14_ne hz hm0 (by decide))
    · rw [List.getElem_set_ne e, List.getElem_set_ne e]
      have h1 : OwnZ B vs[j] rss[j] w2 := World.ownsRow.kept (World.ownsRow.alloc (h.2.2.2.1 j hj hj') ob) hg (h.2.2.2.2 j k hj hk (fun e' => e e'.symm))
      exact World.ownsRow.kept h1 (grow_set w2 g k v') (own14_ne h1 hm0 (by decide))
  · rw [List.length_set] at hj hj'
    by_cases e : k = j
    · subst e
      rw [List.getElem_set_self, List.getElem_set_ne hne]
      have hj2 : j' < rss.length := by rw [h.2.1, ← h.1]; exact hj'
      exact ne_comm14 (block_apart14 (k := 0) (h.2.2.2.1 j' hj' hj2) hm (h.2.2.2.2 j' k hj' hk (fun e => hne e.symm)) hat)
    · rw [List.getElem_set_ne e]
      have hj2 : j < rss.length := by rw [h.2.1, ← h.1]; exact hj
      by_cases e2 : k = j'
      · subst e2
        rw [List.getElem_set_self]
        exact block_apart14 (k := 0) (h.2.2.2.1 j hj hj2) hm (h.2.2.2.2 j k hj hk (fun e' => e e'.symm)) hat
      · rw [List.getElem_set_ne e2]
        exact h.2.2.2.2 j j' hj hj' hne
theorem AbV.grow {B Bd n : Nat} {v dv : Value} {vs : List Value} {rss : List (List Int)} {done : List Int} {W w2 : World} {ob : Obj} (h : AbV B v n vs rss W) (hlt : ∀ k (hk : k < vs.length) b, vs[k].ownBlock = some b → b < Bd) (hd : OwnZ Bd dv done W) (hg : (W.alloc ob).grownBy w2 dv.ownBlock) : AbV B v n vs rss w2 :=
  ⟨h.1, h.2.1, World.ownsRow.kept (World.ownsRow.alloc h.2.2.1 ob) hg (own14_ne h.2.2.1 hd (by decide)), fun k hk hk' => World.ownsRow.kept (World.ownsRow.alloc (h.2.2.2.1 k hk hk') ob) hg (by
    cases hv : vs[k].ownBlock with
    | none => exact .inl rfl
    | some b =>
      refine .inr (fun e => ?_)
      have h1 := hlt k hk b hv
      have h2 := (World.ownsRow.lt hd b e.symm).1
      omega), h.2.2.2.2⟩
theorem AbV.lt {B n : Nat} {v : Value} {vs : List Value} {rss : List (List Int)} {w : World} (h : AbV B v n vs rss w) : ∀ k (hk : k < vs.length) b, vs[k].ownBlock = some b → b < w.heap.size := fun k hk b hb =>
  (World.ownsRow.lt (h.2.2.2.1 k hk (by rw [h.2.1, ← h.1]; exact hk)) b hb).2
theorem keepZ14_grow {B B' g n cap : Nat} {ws : List Int} {pv : Value} {ks : List Int} {W w2 : World} {ob : Obj} (h : OwnZ B (.slice (some ⟨g, 0, none⟩) n cap) ws W) (hz : OwnZ B' pv ks W) (hlt : g < B') (hg : (W.alloc ob).grownBy w2 pv.ownBlock) : OwnZ B (.slice (some ⟨g, 0, none⟩) n cap) ws w2 :=
  World.ownsRow.kept (World.ownsRow.alloc h ob) hg (.inr (fun e => by have := (World.ownsRow.lt hz g e.symm).1; omega))
theorem keepZ14_at {B : Nat} {v : Value} {ks : List Int} {W : World} (h : OwnZ B v ks W) {g : Nat} (k : Nat) (u : Value) (hne : v.ownBlock = none ∨ v.ownBlock ≠ some g) : OwnZ B v ks (W.setCell ⟨g, k, none⟩ u) := World.ownsRow.kept h (grow_set W g k u) hne

end Go.Proofs.Ytpcfcheicdnogaa
