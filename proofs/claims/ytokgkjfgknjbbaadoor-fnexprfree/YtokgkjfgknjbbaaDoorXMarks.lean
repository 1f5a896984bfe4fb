/- The specification's l04Flag, l04Two, l04Marks: the nodes below the whole. -/
import Derived.Test.YtokgkjfgknjbbaaDoorXOk
import Derived.Laws.OwnMore
namespace Go.Proofs.YtokgkjfgknjbbaaDoor
open Go.RowKit


/-- A number, and whether it is one. -/
def optV : Option Int → Value
  | some z => .tuple #[.int .i64 z, .bool true]
  | none => .tuple #[.int .i64 0, .bool false]
def small (a : Int) : Prop := -9999 ≤ a ∧ a ≤ 9999
theorem mul_small {a b : Int} (ha : small a) (hb : small b) : -99980001 ≤ a * b ∧ a * b ≤ 99980001 := by
  have h1 : (9999 - a) * (9999 - b) ≥ 0 := Int.mul_nonneg (by have := ha.2; omega) (by have := hb.2; omega)
  have h2 : (9999 + a) * (9999 + b) ≥ 0 := Int.mul_nonneg (by have := ha.1; omega) (by have := hb.1; omega)
  have h3 : (9999 - a) * (9999 + b) ≥ 0 := Int.mul_nonneg (by have := ha.2; omega) (by have := hb.1; omega)
  have h4 : (9999 + a) * (9999 - b) ≥ 0 := Int.mul_nonneg (by have := ha.1; omega) (by have := hb.2; omega)
  simp only [Int.sub_mul, Int.add_mul, Int.mul_sub, Int.mul_add] at h1 h2 h3 h4
  omega
theorem tdiv_small {a b : Int} (ha : small a) : -9999 ≤ a.tdiv b ∧ a.tdiv b ≤ 9999 := by
  have h := Int.natAbs_tdiv_le_natAbs a b
  have h1 := ha.1
  have h2 := ha.2
  omega


/-- Flags as they lie in memory. -/
def fv (m : List Bool) : List Value := m.map .bool
theorem fv_len (m : List Bool) : (fv m).length = m.length := by simp [fv]
def OwnF (B : Nat) (v : Value) (m : List Bool) (w : World) : Prop := w.ownsRow B 4 1 v m.length (fv m)
theorem OwnF.below {B : Nat} {v : Value} {m : List Bool} {w w' : World} (h : OwnF B v m w) (hb : Below w.heap.size w w') : OwnF B v m w' := own_below h hb
theorem OwnF.at {B g n cap : Nat} {m : List Bool} {w : World} (h : OwnF B (.slice (some ⟨g, 0, none⟩) n cap) m w) {k : Nat} (hk : k < m.length) : w.cell? ⟨g, k, none⟩ = some (.bool m[k]) ∧ w.frozen? ⟨g, k, none⟩ = false := by
  have e : n = m.length := by
    rcases h.2 with ⟨h', _⟩ | ⟨g', cap', cur, h', _⟩ <;> cases h'
    rfl
  subst e
  have h1 := World.ownsRow.cells h (g := g) rfl k (.bool m[k]) (by simp [fv, hk])
  obtain ⟨c, _, hf⟩ := own_cell h k (by omega)
  rw [Addr.add_lit, Nat.zero_add] at h1
  exact ⟨h1, hf⟩
theorem OwnF.set {B g n cap : Nat} {m : List Bool} {w : World} (h : OwnF B (.slice (some ⟨g, 0, none⟩) n cap) m w) (k : Nat) (b : Bool) : OwnF B (.slice (some ⟨g, 0, none⟩) n cap) (m.set k b) (w.setCell ⟨g, k, none⟩ (.bool b)) := by
  have e : n = m.length := by
    rcases h.2 with ⟨h', _⟩ | ⟨g', cap', cur, h', _⟩ <;> cases h'
    rfl
  subst e
  have s1 := (World.ownsRow.stored h k (.bool b)).1
  have e2 : fv (m.set k b) = (fv m).set k (.bool b) := by simp [fv]
  unfold OwnF
  rw [List.length_set, e2]
  exact s1

/-- What holds when the nodes behind a place have been gone through. -/
def MarkTo (ns : List NodeD) (i : Int) (m : List Bool) : Prop :=
  m.length = ns.length ∧ m[ns.length - 1]? = some true ∧
    (∀ p (hp : p < ns.length), i < (p : Int) → m[p]? = some true → ∀ k ∈ ns[p].kids, m[k.toNat]? = some true) ∧
    (∀ j, j < ns.length - 1 → m[j]? = some true → ∃ p, ∃ hp : p < ns.length, j < p ∧ m[p]? = some true ∧ (j : Int) ∈ ns[p].kids)
theorem markTo_start (ns : List NodeD) (h : 0 < ns.length) : MarkTo ns ((ns.length : Int) - 1) ((List.replicate ns.length false).set (ns.length - 1) true) := by
  refine ⟨by simp, by rw [List.getElem?_set_self (by simp; omega)], fun p hp hi => by omega, fun j hj hm => ?_⟩
  rw [List.getElem?_set_ne (by omega), List.getElem?_replicate, if_pos (by omega)] at hm
  cases hm
theorem markTo_end {ns : List NodeD} {i : Int} {m : List Bool} (h : MarkTo ns i m) (hi : i < 0) : Marks ns m :=
  ⟨h.1, h.2.1, fun p hp hm => h.2.2.1 p hp (by omega) hm, h.2.2.2⟩
/-- A node that is not below the whole is passed by. -/
theorem markTo_skip {ns : List NodeD} {i : Nat} {m : List Bool} (h : MarkTo ns i m) (hm : m[i]? = some false) : MarkTo ns ((i : Int) - 1) m := by
  refine ⟨h.1, h.2.1, fun p hp hi hpm => ?_, h.2.2.2⟩
  by_cases e : p = i
  · subst e; rw [hm] at hpm; cases hpm
  · exact h.2.2.1 p hp (by omega) hpm
/-- The first kids of a node that is below the whole are. -/
def MarkIn (ns : List NodeD) (i : Nat) (ks : List Int) (j : Nat) (m : List Bool) : Prop :=
  MarkTo ns i m ∧ m[i]? = some true ∧ ∀ k ∈ ks.take j, m[k.toNat]? = some true
theorem set_keeps {m : List Bool} {a k : Nat} (h : m[a]? = some true) : (m.set k true)[a]? = some true := by
  by_cases e : k = a
  · subst e
    have hl := (List.getElem?_eq_some_iff.1 h).1
    rw [List.getElem?_set_self hl]
  · rw [List.getElem?_set_ne e]; exact h
theorem markIn_next {ns : List NodeD} {i j : Nat} {m : List Bool} (hi : i < ns.length) (hn : ∀ k ∈ ns[i].kids, 0 ≤ k ∧ k < i) (hj : j < ns[i].kids.length) (h : MarkIn ns i ns[i].kids j m) : MarkIn ns i ns[i].kids (j + 1) (m.set ns[i].kids[j].toNat true) := by
  have hk := hn _ (List.getElem_mem hj)
  have hlt : ns[i].kids[j].toNat < m.length := by rw [h.1.1]; omega
  refine ⟨⟨by rw [List.length_set]; exact h.1.1, set_keeps h.1.2.1, fun p hp hip hpm k hkk => ?_, fun a ha ham => ?_⟩, set_keeps h.2.1, fun k hkk => ?_⟩
  · rw [List.getElem?_set_ne (by omega)] at hpm
    exact set_keeps (h.1.2.2.1 p hp hip hpm k hkk)
  · by_cases e : ns[i].kids[j].toNat = a
    · exact ⟨i, hi, by omega, set_keeps h.2.1, by rw [show (a : Int) = ns[i].kids[j] by omega]; exact List.getElem_mem hj⟩
    · rw [List.getElem?_set_ne e] at ham
      obtain ⟨p, hp, h1, h2, h3⟩ := h.1.2.2.2 a ha ham
      exact ⟨p, hp, h1, set_keeps h2, h3⟩
  · rw [List.take_succ_eq_append_getElem hj] at hkk
    rcases List.mem_append.1 hkk with hkk | hkk
    · exact set_keeps (h.2.2 k hkk)
    · obtain rfl : k = ns[i].kids[j] := by simpa using hkk
      rw [List.getElem?_set_self hlt]
theorem markIn_end {ns : List NodeD} {i : Nat} {m : List Bool} (hi : i < ns.length) (h : MarkIn ns i ns[i].kids ns[i].kids.length m) : MarkTo ns ((i : Int) - 1) m := by
  refine ⟨h.1.1, h.1.2.1, fun p hp hip hpm k hk => ?_, h.1.2.2.2⟩
  by_cases e : p = i
  · subst e
    have := h.2.2
    rw [List.take_of_length_le (Nat.le_refl _)] at this
    exact this k hk
  · exact h.1.2.2.1 p hp (by omega) hpm k hk

end Go.Proofs.YtokgkjfgknjbbaaDoor
