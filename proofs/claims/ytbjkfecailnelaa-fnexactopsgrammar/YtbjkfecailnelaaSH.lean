/- Shapes: rows in memory whose cells are of the kinds that a table gives their type, whatever they hold; a number or a text written into a cell of its kind keeps every shape. No program is named. -/
import Derived.Test.YtbjkfecailnelaaRO
import Derived.Test.YtbjkfecailnelaaXMark
namespace Go.Proofs.Ytbjkfecailnelaa
open Go.RowKit
set_option linter.unusedVariables false

inductive FK where
  | int : FK
  | str : FK
  | row : TypeId → FK
/-- v is of a kind, in w, and reaches c numbers and texts; its rows lie from B on below H. -/
def Shp (τ : TypeId → List FK) (B H : Nat) : Nat → FK → World → Value → Nat → Prop
  | _, .int, _, v, c => (∃ z, v = .int .i64 z) ∧ c = 1
  | _, .str, _, v, c => (∃ s, v = .string s) ∧ c = 1
  | 0, .row _, _, _, _ => False
  | n + 1, .row t, w, v, c => (∀ k, v.ownBlock = some k → k < H) ∧ ∃ (len : Nat) (cs : List Value) (ns : List Nat), w.ownsRow B t (τ t).length v len cs ∧ ns.length = cs.length ∧ c = ns.sum ∧
      ∀ i (h : i < cs.length) (h' : i < ns.length), ∃ k, (τ t)[i % (τ t).length]? = some k ∧ Shp τ B H n k w cs[i] ns[i]
def Keeps (τ : TypeId → List FK) (B H : Nat) (w w' : World) : Prop := ∀ n k v c, Shp τ B H n k w v c → Shp τ B H n k w' v c
section
variable {τ : TypeId → List FK} {B H : Nat} {w w' w1 w2 : World}
theorem Keeps.refl (w : World) : Keeps τ B H w w := fun _ _ _ _ h => h
theorem Keeps.trans (h : Keeps τ B H w w1) (k : Keeps τ B H w1 w2) : Keeps τ B H w w2 := fun _ _ _ _ hs => k _ _ _ _ (h _ _ _ _ hs)
theorem shp_rows (hr : ∀ t s v n cs, w.ownsRow B t s v n cs → w'.ownsRow B t s v n cs) : Keeps τ B H w w' := by
  intro n
  induction n with
  | zero => intro k v c h; cases k <;> exact h
  | succ n ih =>
    intro k v c h
    cases k with
    | int => exact h
    | str => exact h
    | row t =>
      obtain ⟨h0, len, cs, ns, h1, h2, h3, h4⟩ := h
      refine ⟨h0, len, cs, ns, hr _ _ _ _ _ h1, h2, h3, fun i hi hi' => ?_⟩
      obtain ⟨k, hk, hs⟩ := h4 i hi hi'
      exact ⟨k, hk, ih k _ _ hs⟩
theorem Keeps.below (hb : Below w.heap.size w w') : Keeps τ B H w w' := shp_rows fun t s v n cs h => own_below h hb
/-- A scalar of a kind. -/
def Sca : FK → Value → Prop
  | .int, v => ∃ z, v = .int .i64 z
  | .str, v => ∃ s, v = .string s
  | .row _, _ => False
theorem Keeps.store {g o : Nat} {cur : Array Value} {t : TypeId} {u : Value} {k0 : FK} (hg : w.heap[g]? = some (.cells cur t (0, 0))) (hk : (τ t)[o % (τ t).length]? = some k0) (hu : Sca k0 u) : Keeps τ B H w (w.setCell ⟨g, o, none⟩ u) := by
  intro n
  induction n with
  | zero => intro k v c h; cases k <;> exact h
  | succ n ih =>
    intro k v c h
    cases k with
    | int => exact h
    | str => exact h
    | row t' =>
      obtain ⟨h0, len, cs, ns, h1, h2, h3, h4⟩ := h
      by_cases hv : v.ownBlock = some g
      · rcases h1.2 with ⟨rfl, _⟩ | ⟨g', cap', cur', rfl, hB, hc, r⟩
        · cases hv
        · obtain rfl : g' = g := Option.some.inj hv
          rw [hg] at hc
          obtain ⟨rfl, rfl, _⟩ : cur = cur' ∧ t = t' ∧ True := by cases hc; exact ⟨rfl, rfl, trivial⟩
          refine ⟨h0, len, cs.set o u, ns, (World.ownsRow.stored h1 o u).1, by rw [List.length_set]; exact h2, h3, fun i hi hi' => ?_⟩
          rw [List.length_set] at hi
          obtain ⟨k, hki, hs⟩ := h4 i hi hi'
          refine ⟨k, hki, ?_⟩
          rw [List.getElem_set]
          split
          · rename_i e
            subst e
            rw [hk] at hki
            obtain rfl := Option.some.inj hki
            cases k0 with
            | int =>
              have e2 : ns[o] = 1 := by cases n <;> exact hs.2
              rw [e2]
              cases n <;> exact ⟨hu, rfl⟩
            | str =>
              have e2 : ns[o] = 1 := by cases n <;> exact hs.2
              rw [e2]
              cases n <;> exact ⟨hu, rfl⟩
            | row _ => exact absurd hu id
          · exact ih k _ _ hs
      · refine ⟨h0, len, cs, ns, ?_, h2, h3, fun i hi hi' => ?_⟩
        · refine World.ownsRow.kept h1 (row := some g) ⟨rfl, rfl, rfl, by simp [World.setCell], fun k _ hk => ?_⟩ (.inr hv)
          simp only [World.setCell]
          rw [Array.getElem?_modify, if_neg (fun e => hk (by rw [e]))]
        · obtain ⟨k, hki, hs⟩ := h4 i hi hi'
          exact ⟨k, hki, ih k _ _ hs⟩
theorem mid_store {g o : Nat} {u : Value} (hB : B ≤ g) (hH : g < H) : Mid B H w (w.setCell ⟨g, o, none⟩ u) :=
  ⟨rfl, rfl, rfl, by simp [World.setCell], fun j _ hr => by
    simp only [World.setCell]
    rw [Array.getElem?_modify, if_neg (by omega)]⟩
/-- A row opened: its elements, one by one. -/
theorem Shp.open {n c : Nat} {t : TypeId} {v : Value} (h : Shp τ B H (n + 1) (.row t) w v c) (hz : 0 < (τ t).length) : ∃ a len cap, v = .slice a len cap ∧ (0 < len → ∃ g cur, a = some ⟨g, 0, none⟩ ∧ B ≤ g ∧ g < H ∧ w.heap[g]? = some (.cells cur t (0, 0))) := by
  obtain ⟨h0, len, cs, ns, h1, h2, h3, h4⟩ := h
  rcases h1.2 with ⟨rfl, hl⟩ | ⟨g, cap, cur, rfl, hB, hc, r⟩
  · exact ⟨none, 0, 0, rfl, fun h => absurd h (by omega)⟩
  · exact ⟨_, _, _, rfl, fun _ => ⟨g, cur, rfl, hB, h0 g rfl, hc⟩⟩
theorem sum_block (ns : List Nat) (m sz : Nat) : (ns.take ((m + 1) * sz)).sum = (ns.take (m * sz)).sum + ((ns.drop (m * sz)).take sz).sum := by
  rw [Nat.succ_mul, List.take_add, List.sum_append]
/-- How many are reached by the first m elements. -/
def cnt (ns : List Nat) (sz m : Nat) : Nat := (ns.take (m * sz)).sum
theorem cnt_all (ns : List Nat) (sz len : Nat) (h : ns.length = len * sz) : cnt ns sz len = ns.sum := by
  rw [cnt, List.take_of_length_le (by omega)]
theorem cnt_le (ns : List Nat) (sz m : Nat) : cnt ns sz m ≤ ns.sum := by
  unfold cnt
  have := List.sum_append (l₁ := ns.take (m * sz)) (l₂ := ns.drop (m * sz))
  rw [List.take_append_drop] at this
  omega
end

end Go.Proofs.Ytbjkfecailnelaa
