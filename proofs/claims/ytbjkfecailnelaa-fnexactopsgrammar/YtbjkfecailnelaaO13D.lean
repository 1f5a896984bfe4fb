/- Operators' grammar: the three rules; the program's OpsGrammar. -/
import Derived.Test.YtbjkfecailnelaaO13C
namespace Go.Proofs.Ytbjkfecailnelaa
open Go.RowKit
set_option linter.unusedVariables false

def sD : ByteArray := ⟨#[83]⟩
def eD : ByteArray := ⟨#[69]⟩
def aD : ByteArray := ⟨#[65]⟩
def pD : ByteArray := ⟨#[112]⟩
def altsE (xs : List OpD) : List (List SymD) := xs.map opAltD ++ [[⟨3, aD, [], ⟨#[]⟩⟩]]
def altsA : List (List SymD) := [[⟨2, ⟨#[48, 45, 57]⟩, [], ⟨#[]⟩⟩], [⟨1, ⟨#[40]⟩, [], ⟨#[]⟩⟩, callD 0, ⟨1, ⟨#[41]⟩, [], ⟨#[]⟩⟩]]
def opsG (xs : List OpD) : List RuleD := [⟨sD, [], [[callD 0]]⟩, ⟨eD, [pD], altsE xs⟩, ⟨aD, [], altsA⟩]
def opsR (xs : List OpD) : List RuleD := if opsB xs = true then opsG xs else []
theorem sign13_size {s : ByteArray} (h : sign13 s = true) : s.size ≤ 1048576 := by
  obtain ⟨b, _, hb⟩ := List.any_eq_true.1 h
  rw [decide_eq_true_eq] at hb
  rw [hb]
  show (1 : Nat) ≤ 1048576
  decide
theorem opsB_in {xs : List OpD} (h : opsB xs = true) : (1 ≤ xs.length ∧ xs.length ≤ 6) ∧ ∀ i (hi : i < xs.length), (1 ≤ xs[i].level ∧ xs[i].level ≤ 9) ∧ xs[i].sign.size ≤ 1048576 := by
  unfold opsB at h
  rw [Bool.and_eq_true, decide_eq_true_eq] at h
  refine ⟨h.2, fun i hi => ?_⟩
  have h1 := List.all_eq_true.1 h.1 i (List.mem_range.2 hi)
  rw [List.getD_eq_getElem?_getD, List.getElem?_eq_getElem hi] at h1
  have h2 : op13 xs i xs[i] = true := h1
  unfold op13 at h2
  rw [Bool.and_eq_true, Bool.and_eq_true, decide_eq_true_eq] at h2
  exact ⟨h2.1.2, sign13_size h2.1.1⟩
/-- Three elements, each with blocks of its own. -/
theorem RowF.three {α : Type} {sz : Nat} {T : TypeId} {E : (Nat → Prop) → World → List Value → α → Prop} {w : World} {F F0 F1 F2 : Nat → Prop} {x0 x1 x2 : α} (v0 v1 v2 : List Value) (cs : Array Value) (hs : v0.length = sz ∧ v1.length = sz ∧ v2.length = sz) (hcs : cs.toList = v0 ++ v1 ++ v2) (hE : StabF E) (hg : F w.heap.size)
    (h0 : ∀ k, F0 k → F k ∧ k < w.heap.size) (h1 : ∀ k, F1 k → F k ∧ k < w.heap.size) (h2 : ∀ k, F2 k → F k ∧ k < w.heap.size) (d01 : ∀ k, F0 k → ¬ F1 k) (d02 : ∀ k, F0 k → ¬ F2 k) (d12 : ∀ k, F1 k → ¬ F2 k) (e0 : E F0 w v0 x0) (e1 : E F1 w v1 x1) (e2 : E F2 w v2 x2) :
    RowF sz T E F (.slice (some ⟨w.heap.size, 0, none⟩) 3 3) [x0, x1, x2] (w.alloc (.cells cs T)) := by
  have bal := (Below.refl w.heap.size w).alloc (Nat.le_refl _) (.cells cs T)
  have hcz : cs.size = 3 * sz := by rw [← Array.length_toList, hcs, List.length_append, List.length_append, hs.1, hs.2.1, hs.2.2]; omega
  have hin : ∀ i k, (if i = 0 then F0 else if i = 1 then F1 else if i = 2 then F2 else fun _ => False) k → F k ∧ k < w.heap.size := fun i k hk => by
    split at hk
    · exact h0 k hk
    · split at hk
      · exact h1 k hk
      · split at hk
        · exact h2 k hk
        · exact hk.elim
  refine ⟨[v0, v1, v2], fun i => if i = 0 then F0 else if i = 1 then F1 else if i = 2 then F2 else fun _ => False, rfl, ?_, ?_, ⟨fun k hk => ?_, fun k hk i hi => ?_, fun i k hk => (hin i k hk).1, fun i j k hne hi hj => ?_⟩, fun i h1' h2' => ?_⟩
  · intro vs hvs
    simp only [List.mem_cons, List.not_mem_nil, or_false] at hvs
    rcases hvs with rfl | rfl | rfl
    · exact hs.1
    · exact hs.2.1
    · exact hs.2.2
  · have h := World.ownsRow_lit (base := 0) (e := T) (size := sz) w cs 3 (Nat.zero_le _) (by decide) hcz
    rw [hcs] at h
    simpa using h
  · cases hk
    exact hg
  · cases hk
    have h3 : w.heap.size < w.heap.size := (hin i _ hi).2
    omega
  · split at hi
    · split at hj
      · omega
      · split at hj
        · exact d01 k hi hj
        · split at hj
          · exact d02 k hi hj
          · exact hj
    · split at hi
      · split at hj
        · exact d01 k hj hi
        · split at hj
          · omega
          · split at hj
            · exact d12 k hi hj
            · exact hj
      · split at hi
        · split at hj
          · exact d02 k hj hi
          · split at hj
            · exact d12 k hj hi
            · split at hj
              · omega
              · exact hj
        · exact hi
  · match i, h1' with
    | 0, _ => exact hE.ag _ _ _ _ _ e0 (Ag.below bal)
    | 1, _ => exact hE.ag _ _ _ _ _ e1 (Ag.below bal)
    | 2, _ => exact hE.ag _ _ _ _ _ e2 (Ag.below bal)
theorem RuleF.bare {F : Nat → Prop} {w : World} {nm : ByteArray} {u : Value} {ys : List (List SymD)} (h : RowF 1 58 AltF F u ys w) : RuleF F w [.string nm, .slice none 0 0, u] ⟨nm, [], ys⟩ :=
  ⟨_, _, fun _ => False, F, rfl, ⟨rfl, .inl ⟨rfl, rfl⟩⟩, fun k hk => (by cases hk), h, fun k hk => hk.elim, fun k hk => hk, fun k hk => hk.elim⟩
/-- The three rules, written out. -/
theorem rules_three {a s0 s1 s2 s3 g : Nat} {V : World} {xs : List OpD} {us ue ua : Value} (ha : a ≤ s0) (h01 : s0 ≤ s1) (h12 : s1 ≤ g) (hg2 : g < s2) (h23 : s2 ≤ s3) (h3 : s3 ≤ V.heap.size)
    (oe : RowF 1 58 AltF (Nw a s0) ue (altsE xs) V) (os : RowF 1 58 AltF (Nw s0 s1) us [[callD 0]] V) (op : OwnB 0 (.slice (some ⟨g, 0, none⟩) 1 1) [pD] V) (oa : RowF 1 58 AltF (Nw s2 s3) ua altsA V) (cs : Array Value)
    (hcs : cs.toList = [.string sD, .slice none 0 0, us, .string eD, .slice (some ⟨g, 0, none⟩) 1 1, ue, .string aD, .slice none 0 0, ua]) :
    RowF 3 43 RuleF (Nw a (V.heap.size + 1)) (.slice (some ⟨V.heap.size, 0, none⟩) 3 3) (opsG xs) (V.alloc (.cells cs 43)) :=
  RowF.three (F0 := Nw s0 s1) (F1 := fun k => k = g ∨ Nw a s0 k) (F2 := Nw s2 s3) [.string sD, .slice none 0 0, us] [.string eD, .slice (some ⟨g, 0, none⟩) 1 1, ue] [.string aD, .slice none 0 0, ua] cs ⟨rfl, rfl, rfl⟩ hcs stabRule ⟨by omega, by omega⟩
    (fun k hk => by have := hk.1; have := hk.2; exact ⟨⟨by omega, by omega⟩, by omega⟩) (fun k hk => by rcases hk with rfl | hk; exact ⟨⟨by omega, by omega⟩, by omega⟩; have := hk.1; have := hk.2; exact ⟨⟨by omega, by omega⟩, by omega⟩) (fun k hk => by have := hk.1; have := hk.2; exact ⟨⟨by omega, by omega⟩, by omega⟩)
    (fun k hk h => by have := hk.1; have := hk.2; rcases h with rfl | h; omega; have := h.1; have := h.2; omega) (fun k hk h => by have := hk.1; have := hk.2; have := h.1; have := h.2; omega) (fun k hk h => by have := h.1; have := h.2; rcases hk with rfl | hk; omega; have := hk.1; have := hk.2; omega)
    (RuleF.bare os) ⟨_, _, fun k => k = g, Nw a s0, rfl, op, fun k hk => by cases hk; rfl, oe, fun k hk => .inl hk, fun k hk => .inr hk, fun k hk h => by have := h.1; have := h.2; omega⟩ (RuleF.bare oa)
/-- What is answered. -/
def GoO (xs : List OpD) (w : World) (e : Ending) (w' : World) : Prop := Below w.heap.size w w' ∧ ∃ v, e = .returned (.tuple #[.agg #[v], .bool (opsB xs)]) ∧ RowF 3 43 RuleF (Nw w.heap.size w'.heap.size) v (opsR xs) w'
end Go.Proofs.Ytbjkfecailnelaa
