/- A row of flags that a call owns; a call's rule is one of the grammar's. -/
/- Lists of structs that a call owns, whose elements reach other rows: built by append, read, and written cell by cell. No program is named. -/
import Derived.Test.YtofpoiccghpliaaGreatDoorE18S
import Derived.Test.YtofpoiccghpliaaGreatDoorGRow
import Derived.Test.YtofpoiccghpliaaGreatDoorDecPure
namespace Go.Proofs.YtofpoiccghpliaaGreatDoor
open Go.RowKit
set_option linter.unusedVariables false

theorem Tryz.infoB18 : (Tryz.prog.info? 4).map (fun i => (i.zero, i.size, i.bytes)) = some (some (.bool false), 1, 1) := by kernel_rfl
def flV18 (m : List Bool) : List Value := m.map .bool
def OwnB18 (B : Nat) (v : Value) (m : List Bool) (w : World) : Prop := w.ownsRow B 4 1 v m.length (flV18 m)
theorem OwnB18.below {B : Nat} {v : Value} {m : List Bool} {w w' : World} (h : OwnB18 B v m w) (hb : Below w.heap.size w w') : OwnB18 B v m w' := own_below h hb
theorem OwnB18.at {B g n cap : Nat} {m : List Bool} {w : World} (h : OwnB18 B (.slice (some ⟨g, 0, none⟩) n cap) m w) {k : Nat} (hk : k < m.length) : w.cell? ⟨g, k, none⟩ = some (.bool (m.getD k false)) ∧ w.frozen? ⟨g, k, none⟩ = false := by
  have e : n = m.length := by
    rcases h.2 with ⟨h', _⟩ | ⟨g', cap', cur, h', _⟩ <;> cases h'
    rfl
  subst e
  have h1 := World.ownsRow.cells h (g := g) rfl k (.bool (m.getD k false)) (by simp [flV18, hk])
  rw [Addr.add_lit, Nat.zero_add] at h1
  exact ⟨h1, World.ownsRow.frozenAt h k⟩
theorem OwnB18.set {B g n cap : Nat} {m : List Bool} {w : World} (h : OwnB18 B (.slice (some ⟨g, 0, none⟩) n cap) m w) (k : Nat) (b : Bool) : OwnB18 B (.slice (some ⟨g, 0, none⟩) n cap) (m.set k b) (w.setCell ⟨g, k, none⟩ (.bool b)) := by
  have e : n = m.length := by
    rcases h.2 with ⟨h', _⟩ | ⟨g', cap', cur, h', _⟩ <;> cases h'
    rfl
  subst e
  have s1 := (World.ownsRow.stored h k (.bool b)).1
  have e2 : flV18 (m.set k b) = (flV18 m).set k (.bool b) := by simp [flV18]
  unfold OwnB18
  rw [List.length_set, e2]
  exact s1
theorem made_flags18 {B g n : Nat} {w : World} (h : w.ownsRow B 4 1 (.slice (some ⟨g, 0, none⟩) n n) n (madeCells (Value.bool false).cells (n * 1)).toList) : OwnB18 B (.slice (some ⟨g, 0, none⟩) n n) (List.replicate n false) w := by
  rw [Nat.mul_one, show (Value.bool false).cells = #[.bool false] from rfl, toList_madeCells_one] at h
  unfold OwnB18
  rw [flV18, List.map_replicate, List.length_replicate]
  exact h
theorem keep4_18 {W W' : World} {a b c d : Addr} {x y z u : Value} (h : W.cell? a = some x ∧ W.cell? b = some y ∧ W.cell? c = some z ∧ W.cell? d = some u) (hb : Below W.heap.size W W') : W'.cell? a = some x ∧ W'.cell? b = some y ∧ W'.cell? c = some z ∧ W'.cell? d = some u := ⟨cell_keep h.1 hb, cell_keep h.2.1 hb, cell_keep h.2.2.1 hb, cell_keep h.2.2.2 hb⟩
theorem symB_call18 {x : SymD} {kn : List ByteArray} {p : Int} (h : (symB x kn p).2 = true) (hk : x.kind = 3) : (x.args.length : Int) = p := by
  unfold symB at h
  rw [if_neg (by omega), if_neg (by omega), if_neg (by omega), if_pos hk] at h
  split at h
  · rename_i h5
    simp only [Bool.and_eq_true, decide_eq_true_eq] at h5
    exact h5.1
  · cases h
theorem symsF_call18 (g : List RuleD) : ∀ (xs : List SymD) (kn : List ByteArray), symsF g kn xs = true → ∀ s ∈ xs, s.kind = 3 → 0 ≤ ruleAtI g s.text
  | [], _, _, s, hs, _ => by cases hs
  | x :: xs, kn, h, s, hs, hk => by
    rw [symsF, Bool.and_eq_true] at h
    rcases List.mem_cons.1 hs with rfl | hs
    · have h1 := symB_call18 h.1 hk
      unfold paramsOf at h1
      split at h1
      · assumption
      · omega
    · exact symsF_call18 g xs _ h.2 s hs hk
theorem call_place18 {g : List RuleD} (h : gramB g = true) {i : Nat} (hi : i < g.length) {a : List SymD} (ha : a ∈ (g.getD i default).alts) {s : SymD} (hs : s ∈ a) (hk : s.kind = 3) : 0 ≤ ruleAtI g s.text ∧ ruleAtI g s.text < (g.length : Int) := by
  have hlt : ruleAtI g s.text < (g.length : Int) := by have := (atF_lt s.text 0 g).1; simpa [ruleAtI] using this
  refine ⟨?_, hlt⟩
  rw [gramB, Bool.and_eq_true] at h
  have h1 := List.all_eq_true.1 h.2 i (List.mem_range.2 hi)
  rw [gramAt, Bool.and_eq_true] at h1
  have h2 := h1.2
  rw [ruleB, Bool.and_eq_true] at h2
  have h4 := List.all_eq_true.1 h2.2 a ha
  rw [altB, Bool.and_eq_true] at h4
  exact symsF_call18 g a _ h4.2 s hs hk
theorem all_next18 {g : List RuleD} {m : List Bool} {a : List SymD} {j : Nat} (hj : j < a.length) : (a.take (j + 1)).all (symN g m) = ((a.take j).all (symN g m) && symN g m a[j]) := by
  rw [List.take_succ_eq_append_getElem hj, List.all_append]
  simp only [List.all_cons, List.all_nil, Bool.and_true]
end Go.Proofs.YtofpoiccghpliaaGreatDoor

namespace Go.Proofs.YtofpoiccghpliaaGreatDoor
open Go.RowKit
set_option linter.unusedVariables false
variable {α : Type}

def RowO (sz : Nat) (T : TypeId) (E : World → List Value → α → Prop) (B : Nat) (v : Value) (xs : List α) (w : World) : Prop :=
  ∃ vss : List (List Value), vss.length = xs.length ∧ (∀ vs ∈ vss, vs.length = sz) ∧ w.ownsRow B T sz v xs.length vss.flatten ∧ ∀ i (h : i < vss.length) (h' : i < xs.length), E w vss[i] xs[i]
section
variable {sz : Nat} {T : TypeId} {E : World → List Value → α → Prop} {B : Nat} {v : Value} {xs : List α} {w w' : World}
theorem RowO.nil : RowO sz T E B (.slice none 0 0) [] w := ⟨[], rfl, fun _ h => (by cases h), ⟨by simp, .inl ⟨rfl, rfl⟩⟩, fun i h => by cases h⟩
theorem RowO.made (hB : B ≤ w.heap.size) : RowO sz T E B (.slice (some ⟨w.heap.size, 0, none⟩) 0 0) ([] : List α) (w.alloc (.cells #[] T)) :=
  ⟨[], rfl, fun _ h => (by cases h), World.ownsRow_made w #[] 0 hB (Nat.zero_le _) (by simp), fun i h => by cases h⟩
theorem RowO.slice (h : RowO sz T E B v xs w) : ∃ a cap, v = .slice a xs.length cap := by
  obtain ⟨vss, h1, h2, h3, h4⟩ := h
  rcases h3.2 with ⟨rfl, h0⟩ | ⟨g, cap, cur, rfl, _⟩
  · exact ⟨none, 0, by rw [h0]⟩
  · exact ⟨_, cap, rfl⟩
theorem RowO.at (h : RowO sz T E B v xs w) {k : Nat} (hk : k < xs.length) : ∃ g cap vs, v = .slice (some ⟨g, 0, none⟩) xs.length cap ∧ B ≤ g ∧ vs.length = sz ∧ (∀ j (hj : j < vs.length), w.cell? ⟨g, k * sz + j, none⟩ = some vs[j]) ∧ E w vs xs[k] := by
  obtain ⟨vss, h1, h2, h3, h4⟩ := h
  rcases h3.2 with ⟨rfl, h0⟩ | ⟨g, cap, cur, rfl, hB, _⟩
  · omega
  · refine ⟨g, cap, vss[k]'(by omega), rfl, hB, h2 _ (List.getElem_mem _), fun j hj => ?_, h4 k (by omega) hk⟩
    have hf := flat_at sz vss h2 k j (by omega) hj
    have := World.ownsRow.cells h3 (g := g) rfl _ _ hf
    rw [Addr.add_lit, Nat.zero_add] at this
    exact this
theorem RowO.row (h : RowO sz T E B v xs w) : RowC sz E w v xs := by
  obtain ⟨vss, h1, h2, h3, h4⟩ := h
  rcases h3.2 with ⟨rfl, h0⟩ | ⟨g, cap, cur, rfl, hB, hc, _⟩
  · exact ⟨none, 0, by rw [h0], fun _ => rfl, fun hh => by omega⟩
  · refine ⟨some ⟨g, 0, none⟩, cap, rfl, fun hh => (by cases hh), fun _ => ⟨g, 0, rfl, (Array.getElem?_eq_some_iff.1 hc).1, fun i hi => ⟨vss[i]'(by omega), h2 _ (List.getElem_mem _), fun j hj => ?_, h4 i (by omega) hi⟩⟩⟩
    have hf := flat_at sz vss h2 i j (by omega) hj
    have := World.ownsRow.cells h3 (g := g) rfl _ _ hf
    rw [Addr.add_lit, Nat.zero_add] at this
    rw [Nat.zero_add]
    exact this
theorem RowO.lt (h : RowO sz T E B v xs w) : ∀ k, v.ownBlock = some k → B ≤ k ∧ k < w.heap.size := by
  obtain ⟨vss, h1, h2, h3, h4⟩ := h
  exact World.ownsRow.lt h3
theorem RowO.base {B' : Nat} (h : RowO sz T E B v xs w) (hB : B' ≤ B) : RowO sz T E B' v xs w := by
  obtain ⟨vss, h1, h2, h3, h4⟩ := h
  refine ⟨vss, h1, h2, ⟨h3.1, ?_⟩, h4⟩
  rcases h3.2 with hn | ⟨g, cap, cur, e, hg, r⟩
  · exact .inl hn
  · exact .inr ⟨g, cap, cur, e, Nat.le_trans hB hg, r⟩
/-- In another world: where the row and what it reaches are there. -/
theorem RowO.world (h : RowO sz T E B v xs w) (hr : ∀ n cs, w.ownsRow B T sz v n cs → w'.ownsRow B T sz v n cs) (hE : ∀ vs x, E w vs x → E w' vs x) : RowO sz T E B v xs w' := by
  obtain ⟨vss, h1, h2, h3, h4⟩ := h
  exact ⟨vss, h1, h2, hr _ _ h3, fun i hi hi' => hE _ _ (h4 i hi hi')⟩
theorem RowO.below (hE : ∀ w w' vs x, E w vs x → Below w.heap.size w w' → E w' vs x) (h : RowO sz T E B v xs w) (hb : Below w.heap.size w w') : RowO sz T E B v xs w' :=
  h.world (fun _ _ h3 => own_below h3 hb) (fun _ _ hx => hE _ _ _ _ hx hb)
/-- Opened for an append: the cells, and the longer list behind it. -/
theorem RowO.snoc (h : RowO sz T E B v xs w) : ∃ cs, w.ownsRow B T sz v xs.length cs ∧ ∀ (v' : Value) (w2 : World) (vs : List Value) (x : α), vs.length = sz → w2.ownsRow B T sz v' (xs.length + 1) (cs ++ vs) → (∀ vs y, E w vs y → E w2 vs y) → E w2 vs x → RowO sz T E B v' (xs ++ [x]) w2 := by
  obtain ⟨vss, h1, h2, h3, h4⟩ := h
  refine ⟨vss.flatten, h3, fun v' w2 vs x hv ho hE hx => ⟨vss ++ [vs], by simp [h1], fun u hu => ?_, by simpa using ho, fun i hi hi' => ?_⟩⟩
  · rcases List.mem_append.1 hu with hu | hu
    · exact h2 u hu
    · rw [List.mem_singleton.1 hu]; exact hv
  · by_cases hlt : i < vss.length
    · rw [List.getElem_append_left hlt, List.getElem_append_left (by omega)]
      exact hE _ _ (h4 i hlt (by omega))
    · have e : i = vss.length := by simp at hi; omega
      subst e
      rw [List.getElem_append_right (Nat.le_refl _), List.getElem_append_right (by omega)]
      simp only [Nat.sub_self, h1]
      exact hx
theorem flat_set (sz : Nat) : ∀ (vss : List (List Value)), (∀ vs ∈ vss, vs.length = sz) → ∀ (i j : Nat) (u : Value) (h : i < vss.length), j < sz → vss.flatten.set (i * sz + j) u = (vss.set i (vss[i].set j u)).flatten
  | x :: vss, hl, 0, j, u, _, hj => by
    have hx := hl x (List.mem_cons_self ..)
    simp only [List.flatten_cons, Nat.zero_mul, Nat.zero_add, List.set_cons_zero, List.getElem_cons_zero]
    rw [List.set_append_left _ _ (by omega)]
  | x :: vss, hl, i + 1, j, u, h, hj => by
    have hx := hl x (List.mem_cons_self ..)
    have ih := flat_set sz vss (fun y hy => hl y (List.mem_cons_of_mem _ hy)) i j u (by simpa using h) hj
    simp only [List.flatten_cons, List.set_cons_succ, List.getElem_cons_succ]
    rw [List.set_append_right _ _ (by rw [hx, Nat.succ_mul]; omega), hx, show (i + 1) * sz + j - sz = i * sz + j by rw [Nat.succ_mul]; omega, ih]
/-- One cell of one element written. -/
theorem RowO.set {g cap : Nat} (h : RowO sz T E B (.slice (some ⟨g, 0, none⟩) xs.length cap) xs w) {i j : Nat} (hi : i < xs.length) (hj : j < sz) (u : Value) (x' : α) (hE : ∀ vs y, E w vs y → E (w.setCell ⟨g, i * sz + j, none⟩ u) vs y) (hx : ∀ vs, vs.length = sz → E w vs xs[i] → E (w.setCell ⟨g, i * sz + j, none⟩ u) (vs.set j u) x') :
    RowO sz T E B (.slice (some ⟨g, 0, none⟩) xs.length cap) (xs.set i x') (w.setCell ⟨g, i * sz + j, none⟩ u) := by
  obtain ⟨vss, h1, h2, h3, h4⟩ := h
  have hv : i < vss.length := by omega
  refine ⟨vss.set i (vss[i].set j u), by simp [h1], fun vs hvs => ?_, ?_, fun k hk hk' => ?_⟩
  · obtain ⟨m, hm, rfl⟩ := List.getElem_of_mem hvs
    rw [List.getElem_set]
    split
    · rw [List.length_set]; exact h2 _ (List.getElem_mem _)
    · exact h2 _ (List.getElem_mem _)
  · rw [List.length_set, ← flat_set sz vss h2 i j u hv hj]
    exact (World.ownsRow.stored h3 (i * sz + j) u).1
  · rw [List.getElem_set, List.getElem_set]
    split
    · rename_i e
      subst e
      exact hx _ (h2 _ (List.getElem_mem _)) (h4 i hv hi)
    · rw [List.length_set] at hk hk'
      exact hE _ _ (h4 k hk hk')
theorem RowO.type (h : RowO sz T E B v xs w) {g : Nat} (hg : v.ownBlock = some g) : ∃ cur, w.heap[g]? = some (.cells cur T (0, 0)) := by
  obtain ⟨vss, h1, h2, h3, h4⟩ := h
  rcases h3.2 with ⟨rfl, h0⟩ | ⟨g', cap, cur, rfl, hB, hc, _⟩
  · cases hg
  · cases hg
    exact ⟨cur, hc⟩
end

end Go.Proofs.YtofpoiccghpliaaGreatDoor
