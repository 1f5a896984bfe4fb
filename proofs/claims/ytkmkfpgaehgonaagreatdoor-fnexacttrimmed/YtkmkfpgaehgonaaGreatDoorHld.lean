/- Which rules a grammar's first one comes to (pure): flags set in rounds, and a list that grows while it is gone through, tell the same. -/
/- Lists of structs that a call owns, whose elements reach other rows: built by append, read, and written cell by cell. No program is named. -/
/- The laws' own helpers on expressions: how great they are, copied. -/
/- What is kept by the types of rows: what lies below B, and every row whose type is none of some. -/
/- What hangs on none of some blocks; rows whose elements do. No program is named. -/
import Derived.Test.YtkmkfpgaehgonaaGreatDoorF15P
import Derived.Test.YtkmkfpgaehgonaaGreatDoorGGram
import Derived.Test.YtkmkfpgaehgonaaGreatDoorMark
import Derived.Test.YtkmkfpgaehgonaaGreatDoorXOk
import Derived.Test.YtkmkfpgaehgonaaGreatDoorXPure
import Derived.Handy
import Derived.OwnWalk
import Derived.Laws.OwnMore
namespace Go.Proofs.YtkmkfpgaehgonaaGreatDoor
open Go.RowKit
set_option linter.unusedVariables false

inductive Rch (js : Nat → List Nat) : Nat → Prop
  | base : Rch js 0
  | step {i j : Nat} : Rch js i → j ∈ js i → Rch js j
noncomputable def rchB (js : Nat → List Nat) (i : Nat) : Bool := @decide (Rch js i) (Classical.propDecidable _)
theorem rchB_iff (js : Nat → List Nat) (i : Nat) : rchB js i = true ↔ Rch js i := by unfold rchB; exact @decide_eq_true_iff _ (Classical.propDecidable _)

/-! ### flags, set in rounds -/
/-- Flags that tell only what is come to, the first one set. -/
structure Snd (js : Nat → List Nat) (n : Nat) (m : List Bool) : Prop where
  len : m.length = n
  only : ∀ j, m.getD j false = true → Rch js j
  first : m.getD 0 false = true
def Cl (js : Nat → List Nat) (m : List Bool) : Prop := ∀ i, m.getD i false = true → ∀ j ∈ js i, m.getD j false = true
/-- What was set stays set. -/
def Sub (m m' : List Bool) : Prop := ∀ j, m.getD j false = true → m'.getD j false = true
theorem Sub.refl (m : List Bool) : Sub m m := fun _ h => h
theorem Sub.trans {a b c : List Bool} (h : Sub a b) (k : Sub b c) : Sub a c := fun j hj => k j (h j hj)
theorem getD_set (m : List Bool) (j i : Nat) (b : Bool) (hj : j < m.length) : (m.set j b).getD i false = if i = j then b else m.getD i false := by
  rw [List.getD_eq_getElem?_getD, List.getD_eq_getElem?_getD, List.getElem?_set]
  by_cases h : j = i
  · subst h; simp [hj]
  · rw [if_neg h, if_neg (fun e => h e.symm)]
theorem Snd.set {js : Nat → List Nat} {n : Nat} {m : List Bool} (h : Snd js n m) {i j : Nat} (hi : m.getD i false = true) (hj : j ∈ js i) (hn : j < n) : Snd js n (m.set j true) ∧ Sub m (m.set j true) ∧ (m.set j true).getD j false = true := by
  have hl : j < m.length := by rw [h.len]; exact hn
  refine ⟨⟨by rw [List.length_set]; exact h.len, fun q hq => ?_, ?_⟩, fun q hq => ?_, ?_⟩
  · rw [getD_set m j q true hl] at hq
    split at hq
    · rename_i e; subst e; exact Rch.step (h.only i hi) hj
    · exact h.only q hq
  · rw [getD_set m j 0 true hl]
    split
    · rfl
    · exact h.first
  · rw [getD_set m j q true hl]
    split
    · rfl
    · exact hq
  · rw [getD_set m j j true hl, if_pos rfl]
theorem count_sub : ∀ (m m' : List Bool), m.length = m'.length → Sub m m' → m.count true ≤ m'.count true ∧ (m.count true = m'.count true → m = m')
  | [], [], _, _ => ⟨Nat.le_refl _, fun _ => rfl⟩
  | [], _ :: _, h, _ => by simp at h
  | _ :: _, [], h, _ => by simp at h
  | a :: m, b :: m', h, hs => by
    obtain ⟨h1, h2⟩ := count_sub m m' (by simpa using h) (fun j hj => by have := hs (j + 1); simpa using this (by simpa using hj))
    have h0 := hs 0
    cases a <;> cases b <;> simp at h0 ⊢
    · exact ⟨h1, fun e => h2 e⟩
    · exact ⟨by omega, fun e => by omega⟩
    · exact ⟨h1, fun e => h2 e⟩
theorem count_le (m : List Bool) : m.count true ≤ m.length := List.count_le_length
/-- Behind a round: closed, or more. -/
theorem round_more {js : Nat → List Nat} {n t : Nat} {m m' : List Bool} (h : Snd js n m) (h' : Snd js n m') (hs : Sub m m') (hr : ∀ i, m.getD i false = true → ∀ j ∈ js i, m'.getD j false = true) (hc : t + 1 ≤ m.count true ∨ Cl js m) :
    (t + 1) + 1 ≤ m'.count true ∨ Cl js m' := by
  obtain ⟨h1, h2⟩ := count_sub m m' (by rw [h.len, h'.len]) hs
  by_cases e : m.count true = m'.count true
  · have := h2 e
    subst this
    exact .inr hr
  · rcases hc with hc | hc
    · exact .inl (by omega)
    · refine .inr fun i hi j hj => ?_
      have key : ∀ q, Rch js q → m.getD q false = true := fun q hq => by
        induction hq with
        | base => exact h.first
        | step _ hj ih => exact hc _ ih _ hj
      exact hs j (hc i (key i (h'.only i hi)) j hj)
theorem round_end {js : Nat → List Nat} {n : Nat} {m : List Bool} (h : Snd js n m) (hc : n + 1 ≤ m.count true ∨ Cl js m) : ∀ q, m.getD q false = rchB js q := fun q => by
  have hcl : Cl js m := by
    rcases hc with hc | hc
    · have := count_le m
      have := h.len
      omega
    · exact hc
  have key : ∀ q, Rch js q → m.getD q false = true := fun q hq => by
    induction hq with
    | base => exact h.first
    | step _ hj ih => exact hcl _ ih _ hj
  by_cases hr : Rch js q
  · rw [key q hr, (rchB_iff js q).2 hr]
  · have h1 : m.getD q false = false := by
      cases hm : m.getD q false with
      | false => rfl
      | true => exact absurd (h.only q hm) hr
    have h2 : rchB js q = false := by
      cases hb : rchB js q with
      | false => rfl
      | true => exact absurd ((rchB_iff js q).1 hb) hr
    rw [h1, h2]
theorem snd_first {js : Nat → List Nat} {n : Nat} (h0 : 0 < n) : Snd js n ((List.replicate n false).set 0 true) ∧ 0 + 1 ≤ ((List.replicate n false).set 0 true).count true := by
  match n, h0 with
  | n + 1, _ =>
    refine ⟨⟨by simp, fun j hj => ?_, by simp [List.replicate_succ]⟩, by simp [List.replicate_succ]⟩
    rw [getD_set _ _ _ _ (by simp)] at hj
    split at hj
    · rename_i e; subst e; exact Rch.base
    · rw [List.getD_eq_getElem?_getD, List.getElem?_replicate] at hj
      split at hj <;> cases hj

/-! ### a list that grows -/
structure MetI (js : Nat → List Nat) (n : Nat) (L : List Nat) (i : Nat) : Prop where
  nd : L.Nodup
  lt : ∀ j ∈ L, j < n
  only : ∀ j ∈ L, Rch js j
  zero : 0 ∈ L
  done : ∀ q (h : q < L.length), q < i → ∀ j ∈ js L[q], j ∈ L
theorem nodup_len : ∀ (n : Nat) (L : List Nat), L.Nodup → (∀ j ∈ L, j < n) → L.length ≤ n
  | 0, [], _, _ => Nat.le_refl _
  | 0, x :: L, _, h => by have := h x (List.mem_cons_self ..); omega
  | n + 1, L, hn, h => by
    have h1 : (L.erase n).Nodup := hn.erase n
    have h2 := nodup_len n (L.erase n) h1 (fun j hj => by
      have h3 := h j (List.mem_of_mem_erase hj)
      have h4 : j ≠ n := fun e => by subst e; exact (List.Nodup.not_mem_erase hn) hj
      omega)
    by_cases hm : n ∈ L
    · rw [List.length_erase_of_mem hm] at h2; omega
    · rw [List.erase_of_not_mem hm] at h2; omega
theorem MetI.len {js : Nat → List Nat} {n : Nat} {L : List Nat} {i : Nat} (h : MetI js n L i) : L.length ≤ n := nodup_len n L h.nd h.lt
theorem MetI.end {js : Nat → List Nat} {n : Nat} {L : List Nat} (h : MetI js n L L.length) (q : Nat) : L.contains q = rchB js q := by
  have key : ∀ q, Rch js q → q ∈ L := fun q hq => by
    induction hq with
    | base => exact h.zero
    | step _ hj ih =>
      obtain ⟨k, hk, e⟩ := List.getElem_of_mem ih
      exact h.done k hk hk _ (by rw [e]; exact hj)
  by_cases hr : Rch js q
  · rw [(rchB_iff js q).2 hr, List.contains_iff_mem.2 (key q hr)]
  · have h2 : rchB js q = false := by
      cases hb : rchB js q with
      | false => rfl
      | true => exact absurd ((rchB_iff js q).1 hb) hr
    rw [h2]
    cases hc : L.contains q with
    | false => rfl
    | true => exact absurd (h.only q (List.contains_iff_mem.1 hc)) hr
/-- One more, where it is not there yet. -/
def addL (L : List Nat) (j : Nat) : List Nat := if L.contains j = true then L else L ++ [j]
theorem addL_mem (L : List Nat) (j q : Nat) : q ∈ addL L j ↔ q ∈ L ∨ q = j := by
  unfold addL
  split
  · rename_i h
    have := List.contains_iff_mem.1 h
    exact ⟨.inl, fun h => h.elim id (fun e => by rw [e]; exact this)⟩
  · simp
theorem addL_get (L : List Nat) (j q : Nat) (h : q < L.length) : ∃ h' : q < (addL L j).length, (addL L j)[q] = L[q] := by
  unfold addL
  split
  · exact ⟨h, rfl⟩
  · exact ⟨by simp; omega, List.getElem_append_left h⟩
theorem addL_nodup {L : List Nat} {j : Nat} (h : L.Nodup) : (addL L j).Nodup := by
  unfold addL
  split
  · exact h
  · rename_i hc
    rw [List.nodup_append]
    refine ⟨h, by simp, fun a ha b hb => ?_⟩
    rw [List.mem_singleton] at hb
    subst hb
    intro e
    subst e
    exact hc (List.contains_iff_mem.2 ha)
/-- Within a round: the first names' places are there. -/
structure MetJ (js : Nat → List Nat) (n : Nat) (L : List Nat) (i k c : Nat) : Prop where
  base : MetI js n L i
  lt : i < L.length
  cur : L[i]? = some c
  got : ∀ j ∈ (js c).take k, j ∈ L
theorem MetJ.add {js : Nat → List Nat} {n : Nat} {L : List Nat} {i k c j : Nat} (h : MetJ js n L i k c) (hk : k < (js c).length) (hj : (js c)[k] = j) (hn : j < n) : MetJ js n (addL L j) i (k + 1) c := by
  have hc : L[i]'h.lt = c := by have := h.cur; rw [List.getElem?_eq_getElem h.lt] at this; exact Option.some.inj this
  have hr : Rch js c := by rw [← hc]; exact h.base.only _ (List.getElem_mem _)
  obtain ⟨hi, e⟩ := addL_get L j i h.lt
  refine ⟨⟨addL_nodup h.base.nd, fun q hq => ?_, fun q hq => ?_, (addL_mem ..).2 (.inl h.base.zero), fun q hq hqi x hx => ?_⟩, hi, by rw [List.getElem?_eq_getElem hi, e, hc], fun x hx => ?_⟩
  · rcases (addL_mem ..).1 hq with hq | rfl
    · exact h.base.lt q hq
    · exact hn
  · rcases (addL_mem ..).1 hq with hq | rfl
    · exact h.base.only q hq
    · exact Rch.step hr (hj ▸ List.getElem_mem hk)
  · have hql : q < L.length := Nat.lt_trans hqi h.lt
    obtain ⟨_, e2⟩ := addL_get L j q hql
    rw [e2] at hx
    exact (addL_mem ..).2 (.inl (h.base.done q hql hqi x hx))
  · rw [List.take_succ_eq_append_getElem hk, List.mem_append, List.mem_singleton] at hx
    rcases hx with hx | rfl
    · exact (addL_mem ..).2 (.inl (h.got x hx))
    · exact (addL_mem ..).2 (.inr hj)
theorem MetJ.next {js : Nat → List Nat} {n : Nat} {L : List Nat} {i k c : Nat} (h : MetJ js n L i k c) (hk : k = (js c).length) : MetI js n L (i + 1) :=
  ⟨h.base.nd, h.base.lt, h.base.only, h.base.zero, fun q hq hqi j hj => by
    by_cases e : q = i
    · subst e
      have hc : L[q] = c := by have := h.cur; rw [List.getElem?_eq_getElem hq] at this; exact Option.some.inj this
      rw [hc] at hj
      exact h.got j (by rw [hk, List.take_length]; exact hj)
    · exact h.base.done q hq (by omega) j hj⟩
theorem metI_first {js : Nat → List Nat} {n : Nat} (h0 : 0 < n) : MetI js n [0] 0 := ⟨by simp, fun j hj => by simp at hj; omega, fun j hj => by simp at hj; subst hj; exact Rch.base, by simp, fun q _ h => by omega⟩

/-! ### a grammar's rules -/
def jsG (g : List RuleD) (i : Nat) : List Nat := (callsB g (i : Int)).map fun nm => (ruleAtI g nm).toNat
noncomputable def keepT (g : List RuleD) (i : Nat) : Bool := rchB (jsG g) i
noncomputable def trimTo (g : List RuleD) (k : Nat) : List RuleD := ((List.range k).filter (keepT g)).map fun i => g.getD i default
noncomputable def trimB (g : List RuleD) : List RuleD := if gramB g = true then trimTo g g.length else g
theorem trimTo_next (g : List RuleD) (k : Nat) (h : k < g.length) : trimTo g (k + 1) = if keepT g k = true then trimTo g k ++ [g[k]] else trimTo g k := by
  rw [trimTo, List.range_succ, List.filter_append, List.map_append, ← trimTo]
  split
  · rename_i hk
    simp [hk, List.getD_eq_getElem?_getD, List.getElem?_eq_getElem h]
  · rename_i hk
    simp [hk]
theorem trimTo_len (g : List RuleD) (k : Nat) : (trimTo g k).length ≤ k := by
  rw [trimTo, List.length_map]
  have := List.length_filter_le (keepT g) (List.range k)
  simpa using this
theorem symB_call {x : SymD} {kn : List ByteArray} {p : Int} (h : (symB x kn p).2 = true) (hk : x.kind = 3) : (x.args.length : Int) = p := by
  unfold symB at h
  rw [if_neg (by omega), if_neg (by omega), if_neg (by omega), if_pos hk] at h
  split at h
  · rename_i h5
    simp only [Bool.and_eq_true, decide_eq_true_eq] at h5
    exact h5.1
  · cases h
theorem symsF_call (g : List RuleD) : ∀ (xs : List SymD) (kn : List ByteArray), symsF g kn xs = true → ∀ s ∈ xs, s.kind = 3 → 0 ≤ ruleAtI g s.text
  | [], _, _, s, hs, _ => by cases hs
  | x :: xs, kn, h, s, hs, hk => by
    rw [symsF, Bool.and_eq_true] at h
    rcases List.mem_cons.1 hs with rfl | hs
    · have h1 := symB_call h.1 hk
      unfold paramsOf at h1
      split at h1
      · assumption
      · omega
    · exact symsF_call g xs _ h.2 s hs hk
theorem calls_place {g : List RuleD} (h : gramB g = true) {i : Nat} (hi : i < g.length) {nm : ByteArray} (hm : nm ∈ callsB g (i : Int)) : 0 ≤ ruleAtI g nm ∧ ruleAtI g nm < (g.length : Int) := by
  have hlt : ruleAtI g nm < (g.length : Int) := by have := (atF_lt nm 0 g).1; simpa [ruleAtI] using this
  refine ⟨?_, hlt⟩
  rw [gramB, Bool.and_eq_true] at h
  have h1 := List.all_eq_true.1 h.2 i (List.mem_range.2 hi)
  rw [gramAt, getR_is g i hi, Bool.and_eq_true] at h1
  have h2 := h1.2
  rw [ruleB, Bool.and_eq_true] at h2
  rw [callsB, if_pos ⟨by omega, by omega⟩, show ((i : Int)).toNat = i from rfl, getR_is g i hi] at hm
  have h3 := ((callsA_asc g[i].alts [] List.Pairwise.nil).2 nm).1 hm
  rcases h3 with h3 | h3
  · cases h3
  rw [namesA, namesC, List.mem_map] at h3
  obtain ⟨s, hs, rfl⟩ := h3
  rw [List.mem_filter, decide_eq_true_eq, List.mem_flatten] at hs
  obtain ⟨⟨a, ha, hsa⟩, hk⟩ := hs
  have h4 := List.all_eq_true.1 h2.2 a ha
  rw [altB, Bool.and_eq_true] at h4
  exact symsF_call g a _ h4.2 s hsa hk
theorem jsG_lt {g : List RuleD} (h : gramB g = true) {i : Nat} (hi : i < g.length) {j : Nat} (hj : j ∈ jsG g i) : j < g.length := by
  rw [jsG, List.mem_map] at hj
  obtain ⟨nm, hm, rfl⟩ := hj
  have := calls_place h hi hm
  omega

end Go.Proofs.YtkmkfpgaehgonaaGreatDoor

namespace Go.Proofs.YtkmkfpgaehgonaaGreatDoor
open Go.RowKit
set_option linter.unusedVariables false
variable {α : Type}

def RowO (sz : Nat) (T : TypeId) (E : World → List Value → α → Prop) (B : Nat) (v : Value) (xs : List α) (w : World) : Prop :=
  ∃ vss : List (List Value), vss.length = xs.length ∧ (∀ vs ∈ vss, vs.length = sz) ∧ w.ownsRow B T sz v xs.length vss.flatten ∧ ∀ i (h : i < vss.length) (h' : i < xs.length), E w vss[i] xs[i]
section
variable {sz : Nat} {T : TypeId} {E : World → List Value → α → Prop} {B : Nat} {v : Value} {xs : List α} {w w' : World}
theorem RowO.nil : RowO sz T E B (.slice none 0 0) [] w := ⟨[], rfl, fun _ h => (by cases h), ⟨by simp, .inl ⟨rfl, rfl⟩⟩, fun i h => by cases h⟩
theorem RowO.made (hB : B ≤ w.heap.size) : RowO sz T E B (.slice (some ⟨w.heap.size, 0, none⟩) 0 0) ([] : List α) (w.alloc (.cells #[] T)) :=
  ⟨[], rfl, fun _ h => (by cases h), World.ownsRow_made w #[] 0 hB (Nat.zero_le _) (by simp), fun i h => by cases h⟩
theorem RowO.slice (h : RowO sz T E B v xs w) : ∃ a cap, v = .slice a xs.length cap := by
  obtain ⟨vss, h1, h2, h3, h4⟩ := h
  rcases h3.2 with ⟨rfl, h0⟩ | ⟨g, cap, cur, rfl, _⟩
  · exact ⟨none, 0, by rw [h0]⟩
  · exact ⟨_, cap, rfl⟩
theorem RowO.at (h : RowO sz T E B v xs w) {k : Nat} (hk : k < xs.length) : ∃ g cap vs, v = .slice (some ⟨g, 0, none⟩) xs.length cap ∧ B ≤ g ∧ vs.length = sz ∧ (∀ j (hj : j < vs.length), w.cell? ⟨g, k * sz + j, none⟩ = some vs[j]) ∧ E w vs xs[k] := by
  obtain ⟨vss, h1, h2, h3, h4⟩ := h
  rcases h3.2 with ⟨rfl, h0⟩ | ⟨g, cap, cur, rfl, hB, _⟩
  · omega
  · refine ⟨g, cap, vss[k]'(by omega), rfl, hB, h2 _ (List.getElem_mem _), fun j hj => ?_, h4 k (by omega) hk⟩
    have hf := flat_at sz vss h2 k j (by omega) hj
    have := World.ownsRow.cells h3 (g := g) rfl _ _ hf
    rw [Addr.add_lit, Nat.zero_add] at this
    exact this
theorem RowO.row (h : RowO sz T E B v xs w) : RowC sz E w v xs := by
  obtain ⟨vss, h1, h2, h3, h4⟩ := h
  rcases h3.2 with ⟨rfl, h0⟩ | ⟨g, cap, cur, rfl, hB, hc, _⟩
  · exact ⟨none, 0, by rw [h0], fun _ => rfl, fun hh => by omega⟩
  · refine ⟨some ⟨g, 0, none⟩, cap, rfl, fun hh => (by cases hh), fun _ => ⟨g, 0, rfl, (Array.getElem?_eq_some_iff.1 hc).1, fun i hi => ⟨vss[i]'(by omega), h2 _ (List.getElem_mem _), fun j hj => ?_, h4 i (by omega) hi⟩⟩⟩
    have hf := flat_at sz vss h2 i j (by omega) hj
    have := World.ownsRow.cells h3 (g := g) rfl _ _ hf
    rw [Addr.add_lit, Nat.zero_add] at this
    rw [Nat.zero_add]
    exact this
theorem RowO.lt (h : RowO sz T E B v xs w) : ∀ k, v.ownBlock = some k → B ≤ k ∧ k < w.heap.size := by
  obtain ⟨vss, h1, h2, h3, h4⟩ := h
  exact World.ownsRow.lt h3
theorem RowO.base {B' : Nat} (h : RowO sz T E B v xs w) (hB : B' ≤ B) : RowO sz T E B' v xs w := by
  obtain ⟨vss, h1, h2, h3, h4⟩ := h
  refine ⟨vss, h1, h2, ⟨h3.1, ?_⟩, h4⟩
  rcases h3.2 with hn | ⟨g, cap, cur, e, hg, r⟩
  · exact .inl hn
  · exact .inr ⟨g, cap, cur, e, Nat.le_trans hB hg, r⟩
/-- In another world: where the row and what it reaches are there. -/
theorem RowO.world (h : RowO sz T E B v xs w) (hr : ∀ n cs, w.ownsRow B T sz v n cs → w'.ownsRow B T sz v n cs) (hE : ∀ vs x, E w vs x → E w' vs x) : RowO sz T E B v xs w' := by
  obtain ⟨vss, h1, h2, h3, h4⟩ := h
  exact ⟨vss, h1, h2, hr _ _ h3, fun i hi hi' => hE _ _ (h4 i hi hi')⟩
theorem RowO.below (hE : ∀ w w' vs x, E w vs x → Below w.heap.size w w' → E w' vs x) (h : RowO sz T E B v xs w) (hb : Below w.heap.size w w') : RowO sz T E B v xs w' :=
  h.world (fun _ _ h3 => own_below h3 hb) (fun _ _ hx => hE _ _ _ _ hx hb)
/-- Opened for an append: the cells, and the longer list behind it. -/
theorem RowO.snoc (h : RowO sz T E B v xs w) : ∃ cs, w.ownsRow B T sz v xs.length cs ∧ ∀ (v' : Value) (w2 : World) (vs : List Value) (x : α), vs.length = sz → w2.ownsRow B T sz v' (xs.length + 1) (cs ++ vs) → (∀ vs y, E w vs y → E w2 vs y) → E w2 vs x → RowO sz T E B v' (xs ++ [x]) w2 := by
  obtain ⟨vss, h1, h2, h3, h4⟩ := h
  refine ⟨vss.flatten, h3, fun v' w2 vs x hv ho hE hx => ⟨vss ++ [vs], by simp [h1], fun u hu => ?_, by simpa using ho, fun i hi hi' => ?_⟩⟩
  · rcases List.mem_append.1 hu with hu | hu
    · exact h2 u hu
    · rw [List.mem_singleton.1 hu]; exact hv
  · by_cases hlt : i < vss.length
    · rw [List.getElem_append_left hlt, List.getElem_append_left (by omega)]
      exact hE _ _ (h4 i hlt (by omega))
    · have e : i = vss.length := by simp at hi; omega
      subst e
      rw [List.getElem_append_right (Nat.le_refl _), List.getElem_append_right (by omega)]
      simp only [Nat.sub_self, h1]
      exact hx
theorem flat_set (sz : Nat) : ∀ (vss : List (List Value)), (∀ vs ∈ vss, vs.length = sz) → ∀ (i j : Nat) (u : Value) (h : i < vss.length), j < sz → vss.flatten.set (i * sz + j) u = (vss.set i (vss[i].set j u)).flatten
  | x :: vss, hl, 0, j, u, _, hj => by
    have hx := hl x (List.mem_cons_self ..)
    simp only [List.flatten_cons, Nat.zero_mul, Nat.zero_add, List.set_cons_zero, List.getElem_cons_zero]
    rw [List.set_append_left _ _ (by omega)]
  | x :: vss, hl, i + 1, j, u, h, hj => by
    have hx := hl x (List.mem_cons_self ..)
    have ih := flat_set sz vss (fun y hy => hl y (List.mem_cons_of_mem _ hy)) i j u (by simpa using h) hj
    simp only [List.flatten_cons, List.set_cons_succ, List.getElem_cons_succ]
    rw [List.set_append_right _ _ (by rw [hx, Nat.succ_mul]; omega), hx, show (i + 1) * sz + j - sz = i * sz + j by rw [Nat.succ_mul]; omega, ih]
/-- One cell of one element written. -/
theorem RowO.set {g cap : Nat} (h : RowO sz T E B (.slice (some ⟨g, 0, none⟩) xs.length cap) xs w) {i j : Nat} (hi : i < xs.length) (hj : j < sz) (u : Value) (x' : α) (hE : ∀ vs y, E w vs y → E (w.setCell ⟨g, i * sz + j, none⟩ u) vs y) (hx : ∀ vs, vs.length = sz → E w vs xs[i] → E (w.setCell ⟨g, i * sz + j, none⟩ u) (vs.set j u) x') :
    RowO sz T E B (.slice (some ⟨g, 0, none⟩) xs.length cap) (xs.set i x') (w.setCell ⟨g, i * sz + j, none⟩ u) := by
  obtain ⟨vss, h1, h2, h3, h4⟩ := h
  have hv : i < vss.length := by omega
  refine ⟨vss.set i (vss[i].set j u), by simp [h1], fun vs hvs => ?_, ?_, fun k hk hk' => ?_⟩
  · obtain ⟨m, hm, rfl⟩ := List.getElem_of_mem hvs
    rw [List.getElem_set]
    split
    · rw [List.length_set]; exact h2 _ (List.getElem_mem _)
    · exact h2 _ (List.getElem_mem _)
  · rw [List.length_set, ← flat_set sz vss h2 i j u hv hj]
    exact (World.ownsRow.stored h3 (i * sz + j) u).1
  · rw [List.getElem_set, List.getElem_set]
    split
    · rename_i e
      subst e
      exact hx _ (h2 _ (List.getElem_mem _)) (h4 i hv hi)
    · rw [List.length_set] at hk hk'
      exact hE _ _ (h4 k hk hk')
theorem RowO.type (h : RowO sz T E B v xs w) {g : Nat} (hg : v.ownBlock = some g) : ∃ cur, w.heap[g]? = some (.cells cur T (0, 0)) := by
  obtain ⟨vss, h1, h2, h3, h4⟩ := h
  rcases h3.2 with ⟨rfl, h0⟩ | ⟨g', cap, cur, rfl, hB, hc, _⟩
  · cases hg
  · cases hg
    exact ⟨cur, hc⟩
end

end Go.Proofs.YtkmkfpgaehgonaaGreatDoor

namespace Go.Proofs.YtkmkfpgaehgonaaGreatDoor
open Go.RowKit

/-- How much the nodes hold. -/
def totN (ns : List NodeD) : Nat := (ns.map fun x => x.name.size + x.kids.length).sum
theorem totN_next (ns : List NodeD) (k : Nat) (h : k < ns.length) : totN (ns.take (k + 1)) = totN (ns.take k) + (ns[k].name.size + ns[k].kids.length) := by
  rw [List.take_succ_eq_append_getElem h]
  simp only [totN, List.map_append, List.sum_append, List.map_cons, List.map_nil, List.sum_cons, List.sum_nil, Nat.add_zero]
theorem totN_mem {ns : List NodeD} {x : NodeD} (h : x ∈ ns) : x.name.size + x.kids.length ≤ totN ns := by
  induction ns with
  | nil => cases h
  | cons y ns ih =>
    simp only [totN, List.map_cons, List.sum_cons]
    rcases List.mem_cons.1 h with rfl | h
    · omega
    · have := ih h; simp only [totN] at this; omega

theorem szIntS_any (a : Option Addr) (n cap : Nat) (left : Int) (w : World) (h0 : 0 ≤ left) (h1 : left ≤ 1048576) (hn : n ≤ maxLen) :
    Calls Tryz.prog 168 #[.slice a n cap, .int .i64 left] w fun e w' => ∃ r : Int, e = .returned (.int .i64 r) ∧ (r = -1 ∨ (0 ≤ r ∧ r + n = left)) ∧ w' = w := by
  unfold maxLen at hn
  by_cases h : left < n
  · have h2 : left - (n : Int) < 0 := by omega
    go_enter Tryz.func168, Tryz.ntmps168
    go_wp2
    go_ret
    exact ⟨_, rfl, .inl rfl, rfl⟩
  · go_enter Tryz.func168, Tryz.ntmps168
    go_wp2
    go_ret
    exact ⟨_, rfl, .inr ⟨by omega, by omega⟩, rfl⟩

theorem szExNode_any (op num : Int) (name : ByteArray) (a : Option Addr) (n cap : Nat) (left : Int) (w : World) (h0 : 0 ≤ left) (h1 : left ≤ 1048576) (hs : name.size ≤ maxLen) (hn : n ≤ maxLen) :
    Calls Tryz.prog 162 #[.agg #[.int .i64 op, .int .i64 num, .string name, .slice a n cap], .int .i64 left] w fun e w' => ∃ r : Int, e = .returned (.int .i64 r) ∧ (r = -1 ∨ (0 ≤ r ∧ r + (name.size + n : Nat) = left)) ∧ Below w.heap.size w w' := by
  have hs2 : name.size ≤ 9223372036854775807 := by unfold maxLen at hs; omega
  by_cases h : left < name.size
  · have h2 : left - (name.size : Int) < 0 := by omega
    go_enter Tryz.func162, Tryz.ntmps162
    go_wp2
    go_ret
    exact ⟨_, rfl, .inl rfl, (Below.refl _ _).alloc (Nat.le_refl _) _⟩
  · have h2 : ¬ left - (name.size : Int) < 0 := by omega
    have BW : Hid (Below w.heap.size w (w.alloc (.cells #[.int .i64 op, .int .i64 num, .string name, .slice a n cap] 224))) := (Below.refl _ _).alloc (Nat.le_refl _) _
    have HZ : Hid (∀ W, _) := fun W => szIntS_any a n cap (left - (name.size : Int)) W (by omega) (by omega) hn
    go_enter Tryz.func162, Tryz.ntmps162
    go_wp2_with fail
    refine (HZ.out _).mono ?_
    rintro e wq ⟨r, rfl, hr, hw⟩
    rw [hw]
    clear hw wq
    rcases hr with rfl | ⟨hr0, hr1⟩
    · go_wp2
      go_ret
      exact ⟨_, rfl, .inl rfl, BW.out⟩
    · have hr2 : ¬ r < 0 := by omega
      go_wp2
      go_ret
      exact ⟨_, rfl, .inr ⟨hr0, by omega⟩, BW.out⟩

set_option maxHeartbeats 800000 in
theorem szExNodeS_any (v : Value) (ns : List NodeD) (left : Int) (w : World) (h0 : 0 ≤ left) (h1 : left ≤ 1048576) (h : NArg w v ns) :
    Calls Tryz.prog 154 #[v, .int .i64 left] w fun e w' => ∃ r : Int, e = .returned (.int .i64 r) ∧ (r = -1 ∨ (0 ≤ r ∧ r + ns.length + totN ns = left)) ∧ Below w.heap.size w w' := by
  obtain ⟨hr, hm, hz⟩ := h
  have HR : Hid (NRow w v ns) := hr
  have HZ : Hid (∀ x ∈ ns, NodeIn x) := hz
  obtain ⟨a, cap, rfl⟩ := hr.slice
  clear hr hz
  unfold maxLen at hm
  by_cases hl : left < ns.length
  · have h2 : left - (ns.length : Int) < 0 := by omega
    go_enter Tryz.func154, Tryz.ntmps154
    go_wp2
    go_ret
    exact ⟨_, rfl, .inl rfl, Below.refl _ _⟩
  · go_enter Tryz.func154, Tryz.ntmps154
    go_wp2
    go_loopw [1, 5] (fun rv iv wr => ∃ (r : Int) (k : Nat), rv = .int .i64 r ∧ iv = .int .i64 k ∧ k ≤ ns.length ∧ 0 ≤ r ∧ r + ns.length + totN (ns.take k) = left ∧ Below w.heap.size w wr) (fun _ iv _ => ns.length - (intOf iv).toNat)
    case atStart => exact ⟨_, 0, rfl, rfl, Nat.zero_le _, by omega, by simp [totN], Below.refl _ _⟩
    case round =>
      obtain ⟨r, k, rfl, rfl, hk, hr, ht, hb⟩ := hrel
      have HB : Hid (Below w.heap.size w wr) := hb
      have HRr : Hid (NRow wr (.slice a ns.length cap) ns) := HR.out.below hb
      clear hb
      by_cases hlt : k < ns.length
      · obtain ⟨b, off, kv, rfl, n0, n1, n2, n3, hI⟩ := HRr.out.at hlt
        obtain ⟨ak, ck, rfl⟩ := hI.slice
        have hnx := totN_next ns k hlt
        have hx := HZ.out _ (List.getElem_mem hlt)
        have HS : Hid (∀ W, _) := fun W => szExNode_any ns[k].op ns[k].num ns[k].name ak ns[k].kids.length ck r W hr (by omega) hx.2.2.1 hx.2.2.2.1
        clear hx hI
        go_wp2_with fail
        refine (HS.out _).mono ?_
        rintro e w1 ⟨r1, rfl, hr1, hb1⟩
        have HB1 : Hid (Below w.heap.size w w1) := HB.out.trans (hb1.mono HB.out.size)
        clear hb1
        rcases hr1 with rfl | ⟨hr1, hr2⟩
        · go_wp2
          go_ret
          exact ⟨_, rfl, .inl rfl, HB1.out⟩
        · have hr3 : ¬ r1 < 0 := by omega
          go_wp2
          go_roundw
          case rel => exact ⟨r1, k + 1, rfl, by go_num, by omega, hr1, by omega, HB1.out⟩
          case measure => simp [intOf]; omega
      · obtain rfl : k = ns.length := by omega
        rw [List.take_of_length_le (Nat.le_refl _)] at ht
        go_wp2
        go_ret
        exact ⟨_, rfl, .inr ⟨hr, ht⟩, HB.out⟩

theorem szExpr_any (v : Value) (ns : List NodeD) (left : Int) (w : World) (h0 : 0 ≤ left) (h1 : left ≤ 1048576) (h : NArg w v ns) :
    Calls Tryz.prog 147 #[.agg #[v], .int .i64 left] w fun e w' => ∃ r : Int, e = .returned (.int .i64 r) ∧ (r = -1 ∨ (0 ≤ r ∧ r + ns.length + totN ns = left)) ∧ Below w.heap.size w w' := by
  have BW : Hid (Below w.heap.size w (w.alloc (.cells #[v] 184))) := (Below.refl _ _).alloc (Nat.le_refl _) _
  have HZ : Hid (_) := szExNodeS_any v ns left (w.alloc (.cells #[v] 184)) h0 h1 ⟨h.1.below BW.out, h.2⟩
  obtain ⟨a, cap, rfl⟩ := h.1.slice
  clear h
  go_enter Tryz.func147, Tryz.ntmps147
  go_wp2_with fail
  refine Calls.mono HZ.out ?_
  rintro e w1 ⟨r, rfl, hr, hb1⟩
  have B1 : Hid (Below w.heap.size w w1) := BW.out.trans (hb1.mono BW.out.size)
  clear hb1 HZ
  rcases hr with rfl | ⟨hr0, hr1⟩
  · go_wp2
    go_ret
    exact ⟨_, rfl, .inl rfl, B1.out⟩
  · have hr2 : ¬ r < 0 := by omega
    go_wp2
    go_ret
    exact ⟨_, rfl, .inr ⟨hr0, hr1⟩, B1.out⟩

/-- Numbers that the call owns. -/
def zv (ks : List Int) : List Value := ks.map (.int .i64 ·)
theorem zv_len (ks : List Int) : (zv ks).length = ks.length := by simp [zv]
def OwnZ (B : Nat) (v : Value) (ks : List Int) (w : World) : Prop := w.ownsRow B 3 1 v ks.length (zv ks)
theorem OwnZ.row {B : Nat} {v : Value} {ks : List Int} {w : World} (h : OwnZ B v ks w) : IRow w v ks := by
  rcases h.2 with ⟨rfl, hz⟩ | ⟨g, cap, cur, rfl, hB, hc, hle, hm, hs, ht⟩
  · exact ⟨none, 0, by rw [hz], fun _ => rfl, fun h0 => by omega⟩
  · refine ⟨some ⟨g, 0, none⟩, cap, rfl, fun h => (by cases h), fun _ => ⟨g, 0, rfl, (Array.getElem?_eq_some_iff.1 hc).1, fun i hi => ?_⟩⟩
    have := World.ownsRow.cells h (g := g) rfl i (.int .i64 ks[i]) (by simp [zv, hi])
    rwa [Addr.add_lit] at this
theorem OwnZ.below {B : Nat} {v : Value} {ks : List Int} {w w' : World} (h : OwnZ B v ks w) (hb : Below w.heap.size w w') : OwnZ B v ks w' := own_below h hb
theorem OwnZ.base {B B' : Nat} {v : Value} {ks : List Int} {w : World} (h : OwnZ B v ks w) (hB : B' ≤ B) : OwnZ B' v ks w := by
  refine ⟨h.1, ?_⟩
  rcases h.2 with h | ⟨g, cap, cur, e, hg, r⟩
  · exact .inl h
  · exact .inr ⟨g, cap, cur, e, Nat.le_trans hB hg, r⟩
theorem Tryz.infoInt5 : (Tryz.prog.info? 3).map (fun i => (i.zero, i.size, i.bytes)) = some (some (.int .i64 0), 1, 8) := by kernel_rfl

theorem take_z (cs : List Value) (j : Nat) (a : Value) (h : j < cs.length) : (cs.set j a).take (j + 1) = cs.take j ++ [a] := by
  rw [List.take_succ_eq_append_getElem (by simpa using h), List.take_set_of_le (Nat.le_refl _)]
  simp

set_option maxHeartbeats 800000 in
theorem toIntS_any (v : Value) (ks : List Int) (w : World) (hm : ks.length ≤ 1048576) (h : IRow w v ks) :
    Calls Tryz.prog 169 #[v] w fun e w' => ∃ o, e = .returned o ∧ OwnZ w.heap.size o ks w' ∧ Below w.heap.size w w' := by
  obtain ⟨i0, hi, hz0, hz1, hz2⟩ := info_parts Tryz.infoInt5
  have HR : Hid (IRow w v ks) := h
  obtain ⟨a, cap, rfl⟩ := h.slice
  clear h
  go_enter Tryz.func169, Tryz.ntmps169
  go_wp2_with (at_make; refine wpList_make_full _ rfl _ _ 44 rfl w.heap.size 3 i0 _ 1 Tryz.underlying44 hi hz0 hz1 .i64 .i64 _ _ ks.length rfl rfl rfl rfl (by rw [hz2]; omega) (by unfold maxLen; omega) (Nat.le_refl _) ?_; intro w1 hown hg1)
  have HO : Hid (_) := hown
  have HB1 : Hid (Below w.heap.size w w1) := (Below.refl _ _).grown hg1 (Nat.le_refl _) (fun k h => by cases h)
  clear hown hg1
  go_loopw [4] (fun iv wr => ∃ (k : Nat) (cs : List Value), iv = .int .i64 k ∧ k ≤ ks.length ∧ wr.ownsRow w.heap.size 3 1 (.slice (some ⟨w.heap.size, 0, none⟩) ks.length ks.length) ks.length cs ∧ cs.take k = zv (ks.take k) ∧ Below w.heap.size w wr) (fun iv _ => ks.length - (intOf iv).toNat)
  case atStart => exact ⟨0, _, rfl, Nat.zero_le _, HO.out, rfl, HB1.out⟩
  case round =>
    obtain ⟨k, cs, rfl, hk, hown, hcs, hb⟩ := hrel
    have HW : Hid (wr.ownsRow w.heap.size 3 1 (.slice (some ⟨w.heap.size, 0, none⟩) ks.length ks.length) ks.length cs) := hown
    have HS : Hid (cs.take k = zv (ks.take k)) := hcs
    have HB : Hid (Below w.heap.size w wr) := hb
    have HRr : Hid (IRow wr (.slice a ks.length cap) ks) := HR.out.below hb
    clear hb hcs hown HO
    by_cases hlt : k < ks.length
    · obtain ⟨b, off, rfl, hc1⟩ := HRr.out.at hlt
      obtain ⟨c0, hc0, f0⟩ := own_cell HW.out k (by omega)
      go_wp2
      go_roundw
      case rel =>
        have s1 := World.ownsRow.stored HW.out k (.int .i64 ks[k])
        have hl : k < cs.length := by rw [HW.out.1]; omega
        refine ⟨k + 1, _, by go_num, by omega, s1.1, ?_, HB.out.setCell (Nat.le_refl _) _⟩
        rw [take_z cs k _ hl, HS.out, List.take_succ_eq_append_getElem hlt]
        simp only [zv, List.map_append, List.map_cons, List.map_nil]
      case measure => simp [intOf]; omega
    · obtain rfl : k = ks.length := by omega
      have HF : Hid (OwnZ w.heap.size (.slice (some ⟨w.heap.size, 0, none⟩) ks.length ks.length) ks wr) := by
        have h1 := HS.out
        rw [List.take_of_length_le (by rw [HW.out.1]; omega), List.take_of_length_le (Nat.le_refl _)] at h1
        have h2 := HW.out
        rw [h1] at h2
        exact h2
      clear HW HS
      go_wp2
      go_ret
      exact ⟨_, rfl, HF.out, HB.out⟩

end Go.Proofs.YtkmkfpgaehgonaaGreatDoor

namespace Go.Proofs.YtkmkfpgaehgonaaGreatDoor
open Go.RowKit
set_option linter.unusedVariables false

/-- What is kept: what lies below B, and every row whose type is none of ts. -/
structure FrT (ts : List TypeId) (B : Nat) (w w' : World) : Prop where
  bel : Below B w w'
  typ : ∀ (k : Nat) (c : Array Value) (t : TypeId) (fr : Nat × Nat), w.heap[k]? = some (.cells c t fr) → t ∉ ts → w'.heap[k]? = some (.cells c t fr)
section
variable {ts : List TypeId} {B B' : Nat} {w w' w1 w2 : World}
theorem FrT.refl (ts : List TypeId) (B : Nat) (w : World) : FrT ts B w w := ⟨Below.refl _ _, fun _ _ _ _ h _ => h⟩
theorem FrT.trans (h : FrT ts B w w1) (k : FrT ts B w1 w2) : FrT ts B w w2 :=
  ⟨h.bel.trans k.bel, fun b c t fr hb h1 => k.typ b c t fr (h.typ b c t fr hb h1) h1⟩
theorem FrT.below (h : Below w.heap.size w w') (hB : B ≤ w.heap.size) : FrT ts B w w' :=
  ⟨h.mono hB, fun k c t fr hk _ => (h.block k (Array.getElem?_eq_some_iff.1 hk).1).trans hk⟩
theorem FrT.base (h : FrT ts B w w') (hB : B' ≤ B) : FrT ts B' w w' := ⟨h.bel.mono hB, h.typ⟩
theorem FrT.wide {ts' : List TypeId} (h : FrT ts B w w') (ht : ∀ t ∈ ts, t ∈ ts') : FrT ts' B w w' := ⟨h.bel, fun k c t fr hk hn => h.typ k c t fr hk (fun hm => hn (ht t hm))⟩
/-- Behind a step that turns nothing of what lay in the first world. -/
theorem FrT.new (h : FrT ts B w w1) (k : Below w.heap.size w1 w2) (hB : B ≤ w.heap.size) : FrT ts B w w2 :=
  ⟨h.bel.trans (k.mono hB), fun b c t fr hb h1 => (k.block b (Array.getElem?_eq_some_iff.1 hb).1).trans (h.typ b c t fr hb h1)⟩
theorem own_frT {e : TypeId} {s n : Nat} {v : Value} {cs : List Value} (h : w.ownsRow B' e s v n cs) (hf : FrT ts B w w') (h1 : e ∉ ts) : w'.ownsRow B' e s v n cs := by
  refine ⟨h.1, ?_⟩
  rcases h.2 with hn | ⟨g, cap, cur, rfl, hB, hc, r⟩
  · exact .inl hn
  · exact .inr ⟨g, cap, cur, rfl, hB, hf.typ g cur e (0, 0) hc h1, r⟩
theorem ownZ_fr {v : Value} {ks : List Int} (h : OwnZ B' v ks w) (hf : FrT ts B w w') (ht : 3 ∉ ts) : OwnZ B' v ks w' := own_frT h hf ht
end

theorem setCell_self {w : World} {p j : Nat} {c : Array Value} {t : TypeId} {fr : Nat × Nat} (u : Value) (h : w.heap[p]? = some (.cells c t fr)) : (w.setCell ⟨p, j, none⟩ u).heap[p]? = some (.cells (c.setIfInBounds j u) t fr) := by
  simp [World.setCell, Array.getElem?_modify, h]
theorem setCell_other {w : World} {p j k : Nat} (u : Value) (h : k ≠ p) : (w.setCell ⟨p, j, none⟩ u).heap[k]? = w.heap[k]? := by
  simp only [World.setCell]
  rw [Array.getElem?_modify, if_neg (fun e => h e.symm)]
theorem grown_setCell (w : World) (p j : Nat) (u : Value) : w.grownBy (w.setCell ⟨p, j, none⟩ u) (some p) :=
  ⟨rfl, rfl, rfl, by simp [World.setCell], fun k _ hk => setCell_other u (fun e => hk (by rw [e]))⟩
theorem own_offT {B : Nat} {e : TypeId} {s n : Nat} {v : Value} {cs : List Value} {w : World} {k : Nat} {c : Array Value} {t : TypeId} {fr : Nat × Nat} (h : w.ownsRow B e s v n cs) (hk : w.heap[k]? = some (.cells c t fr)) (hne : e ≠ t) : v.ownBlock ≠ some k := by
  rcases h.2 with ⟨rfl, _⟩ | ⟨g, cap, cur, rfl, _, hc, _⟩
  · intro e; cases e
  · intro eq
    obtain rfl : g = k := Option.some.inj eq
    rw [hk] at hc
    cases hc
    exact hne rfl
/-- A cell of a row of one of the types written: what is of another type stays. -/
theorem fr_set {ts : List TypeId} {B : Nat} {w : World} {p j : Nat} {c : Array Value} {t : TypeId} {fr : Nat × Nat} (u : Value) (h : w.heap[p]? = some (.cells c t fr)) (ht : t ∈ ts) (hB : B ≤ p) : FrT ts B w (w.setCell ⟨p, j, none⟩ u) := by
  refine ⟨(Below.refl _ _).setCell hB u, fun k c' t' fr' hk h1 => ?_⟩
  have : k ≠ p := fun e => by
    subst e
    rw [h] at hk
    cases hk
    exact h1 ht
  rw [setCell_other u this]
  exact hk

theorem run_cell {w : World} {p j : Nat} {c : Array Value} {t : TypeId} {fr : Nat × Nat} {u : Value} (h : w.heap[p]? = some (.cells c t fr)) (hj : c[j]? = some u) : w.cell? ⟨p, j, none⟩ = some u := by
  rw [cell_of_row _ _ j _ _ _ h]
  exact hj
theorem run_frozen {w : World} {p j : Nat} {c : Array Value} {t : TypeId} (h : w.heap[p]? = some (.cells c t (0, 0))) : w.frozen? ⟨p, j, none⟩ = false := by
  simp [World.frozen?, h]
/-- An append to a row of one of the types: what is of another type stays. -/
theorem fr_grown {ts : List TypeId} {B : Nat} {w w' : World} {e : TypeId} {s n : Nat} {v : Value} {cs : List Value} (h : w.ownsRow B e s v n cs) (hg : w.grownBy w' v.ownBlock) (ht : e ∈ ts) (hB : B ≤ w.heap.size) : FrT ts B w w' := by
  refine ⟨(Below.refl _ _).grown hg hB (fun k hk => (h.lt k hk).1), fun k c t fr hk hn => ?_⟩
  have hlt := (Array.getElem?_eq_some_iff.1 hk).1
  rw [hg.block k hlt (fun e' => own_offT h hk (fun e2 => hn (e2 ▸ ht)) e'.symm)]
  exact hk

end Go.Proofs.YtkmkfpgaehgonaaGreatDoor

namespace Go.Proofs.YtkmkfpgaehgonaaGreatDoor
open Go.RowKit
set_option linter.unusedVariables false
variable {α : Type}

/-- What is told of a world is told of every world that has its blocks but those of A. -/
def Held (A : Nat → Prop) (w : World) (P : World → Prop) : Prop := ∀ W : World, w.heap.size ≤ W.heap.size → (∀ k, k < w.heap.size → ¬ A k → W.heap[k]? = w.heap[k]?) → P W
/-- Of what was there only blocks of A turned. -/
structure FrA (A : Nat → Prop) (w w' : World) : Prop where
  size : w.heap.size ≤ w'.heap.size
  block : ∀ k, k < w.heap.size → ¬ A k → w'.heap[k]? = w.heap[k]?
section
variable {A A' : Nat → Prop} {B : Nat} {w w' w1 w2 : World} {P Q : World → Prop}
theorem Held.here (h : Held A w P) : P w := h w (Nat.le_refl _) (fun _ _ _ => rfl)
theorem Held.imp (h : Held A w P) (hi : ∀ W, P W → Q W) : Held A w Q := fun W h1 h2 => hi W (h W h1 h2)
theorem Held.and (h : Held A w P) (k : Held A w Q) : Held A w fun W => P W ∧ Q W := fun W h1 h2 => ⟨h W h1 h2, k W h1 h2⟩
theorem Held.pure {p : Prop} (h : p) : Held A w fun _ => p := fun _ _ _ => h
theorem Held.away (h : Held A w P) (hA : ∀ k, k < w.heap.size → A' k → A k) : Held A' w P := fun W h1 h2 => h W h1 (fun k hk ha => h2 k hk (fun ha' => ha (hA k hk ha')))
theorem Held.fr (h : Held A w P) (hf : FrA A w w') : Held A w' P := fun W h1 h2 => h W (Nat.le_trans hf.size h1) (fun k hk ha => (h2 k (Nat.lt_of_lt_of_le hk hf.size) ha).trans (hf.block k hk ha))
/-- Behind a step by which only A turned, with other blocks to come. -/
theorem Held.go (h : Held A w P) (hf : FrA A w w') (hA : ∀ k, k < w.heap.size → A' k → A k) : Held A' w' P := fun W h1 h2 => h W (Nat.le_trans hf.size h1) (fun k hk ha => (h2 k (Nat.lt_of_lt_of_le hk hf.size) (fun ha' => ha (hA k hk ha'))).trans (hf.block k hk ha))
theorem Held.of_fresh (h : Fresh B w P) (hA : ∀ k, A k → k < B) : Held A w P := fun W h1 h2 => h W h1 (fun k hk hlt => h2 k hlt (fun ha => by have := hA k ha; omega))
theorem FrA.refl (A : Nat → Prop) (w : World) : FrA A w w := ⟨Nat.le_refl _, fun _ _ _ => rfl⟩
theorem FrA.trans (h : FrA A w w1) (k : FrA A' w1 w2) (hA : ∀ k, k < w.heap.size → A' k → A k) : FrA A w w2 :=
  ⟨Nat.le_trans h.size k.size, fun b hb ha => (k.block b (Nat.lt_of_lt_of_le hb h.size) (fun ha' => ha (hA b hb ha'))).trans (h.block b hb ha)⟩
theorem FrA.wide (h : FrA A w w') (hA : ∀ k, k < w.heap.size → A k → A' k) : FrA A' w w' := ⟨h.size, fun k hk ha => h.block k hk (fun ha' => ha (hA k hk ha'))⟩
theorem FrA.below (h : Below w.heap.size w w') : FrA A w w' := ⟨h.size, fun k hk _ => h.block k hk⟩
theorem FrA.set {p j : Nat} (u : Value) (hp : A p) : FrA A w (w.setCell ⟨p, j, none⟩ u) := ⟨by simp [World.setCell], fun k _ ha => setCell_other u (fun e => ha (e ▸ hp))⟩
theorem FrA.grown {r : Option Nat} (hg : w.grownBy w' r) (hr : ∀ k, r = some k → A k) : FrA A w w' := ⟨hg.size, fun k hk ha => hg.block k hk (fun e => ha (hr k e.symm))⟩
end

/-- An element whose reach is held. -/
def HE (A : Nat → Prop) (E : World → List Value → α → Prop) (w : World) (vs : List Value) (x : α) : Prop := Held A w fun W => E W vs x
/-- A list that the call owns, what its elements reach held. -/
abbrev RowH (sz : Nat) (T : TypeId) (E : World → List Value → α → Prop) (A : Nat → Prop) (B : Nat) (v : Value) (xs : List α) (w : World) : Prop := RowO sz T (HE A E) B v xs w
section
variable {sz : Nat} {T : TypeId} {E : World → List Value → α → Prop} {A A' : Nat → Prop} {B : Nat} {v : Value} {xs : List α} {w w' : World}
theorem RowH.rowC (h : RowH sz T E A B v xs w) : RowC sz E w v xs := by
  obtain ⟨a, cap, rfl, hcap, hh⟩ := RowO.row h
  refine ⟨a, cap, rfl, hcap, fun h0 => ?_⟩
  obtain ⟨b, off, rfl, hlt, hc⟩ := hh h0
  exact ⟨b, off, rfl, hlt, fun i hi => (hc i hi).imp fun vs h => ⟨h.1, h.2.1, h.2.2.here⟩⟩
/-- Behind a step by which only A turned, and not the row. -/
theorem RowH.go (h : RowH sz T E A B v xs w) (hf : FrA A w w') (hA : ∀ k, k < w.heap.size → A' k → A k) (hv : ∀ k, v.ownBlock = some k → w'.heap[k]? = w.heap[k]?) : RowH sz T E A' B v xs w' := by
  obtain ⟨vss, h1, h2, h3, h4⟩ := h
  refine ⟨vss, h1, h2, ⟨h3.1, ?_⟩, fun i hi hi' => Held.go (h4 i hi hi') hf hA⟩
  rcases h3.2 with hn | ⟨g, cap, cur, rfl, hB, hc, r⟩
  · exact .inl hn
  · exact .inr ⟨g, cap, cur, rfl, hB, (hv g rfl).trans hc, r⟩
theorem RowH.below (h : RowH sz T E A B v xs w) (hb : Below w.heap.size w w') : RowH sz T E A B v xs w' :=
  RowH.go h (FrA.below hb) (fun _ _ ha => ha) (fun k hk => hb.block k (RowO.lt h k hk).2)
/-- The list itself is held, if its row is none of A. -/
theorem RowH.held (h : RowH sz T E A B v xs w) (hv : ∀ k, v.ownBlock = some k → ¬ A k) : Held A w fun W => RowC sz E W v xs := by
  intro W hW hbl
  obtain ⟨vss, h1, h2, h3, h4⟩ := h
  have h3' : W.ownsRow B T sz v xs.length vss.flatten := by
    refine ⟨h3.1, ?_⟩
    rcases h3.2 with hn | ⟨g, cap, cur, rfl, hB, hc, r⟩
    · exact .inl hn
    · exact .inr ⟨g, cap, cur, rfl, hB, (hbl g (Array.getElem?_eq_some_iff.1 hc).1 (hv g rfl)).trans hc, r⟩
  exact RowO.row (sz := sz) (T := T) (E := E) (B := B) ⟨vss, h1, h2, h3', fun i hi hi' => h4 i hi hi' W hW hbl⟩
theorem RowH.nil : RowH sz T E A B (.slice none 0 0) ([] : List α) w := RowO.nil
/-- One more element, appended: out of what wpList_append_lies tells. -/
theorem RowH.snoc (h : RowH sz T E A B v xs w) : ∃ cs, w.ownsRow B T sz v xs.length cs ∧ ∀ (g cap : Nat) (w1 w2 : World) (vs : List Value) (x : α), vs.length = sz → FrA A w w1 → w2.ownsRow B T sz (.slice (some ⟨g, 0, none⟩) (xs.length + 1) cap) (xs.length + 1) (cs ++ vs) → w1.grownBy w2 v.ownBlock → (∀ k, v.ownBlock = some k → A k) → (∀ k, k < w.heap.size → A' k → A k) → Held A' w2 (fun W => E W vs x) → RowH sz T E A' B (.slice (some ⟨g, 0, none⟩) (xs ++ [x]).length cap) (xs ++ [x]) w2 := by
  obtain ⟨vss, h1, h2, h3, h4⟩ := h
  refine ⟨vss.flatten, h3, fun g cap w1 w2 vs x hl hf ho2 hg hvA hA hx => ?_⟩
  have hfr : FrA A w w2 := hf.trans (FrA.grown hg hvA) (fun _ _ ha => ha)
  have e : (xs ++ [x]).length = xs.length + 1 := by simp
  rw [e]
  refine ⟨vss ++ [vs], by simp [h1], fun u hu => ?_, by rw [e]; simpa using ho2, fun i hi hi' => ?_⟩
  · rcases List.mem_append.1 hu with hu | hu
    · exact h2 u hu
    · rw [List.mem_singleton.1 hu]; exact hl
  · by_cases hlt : i < vss.length
    · rw [List.getElem_append_left hlt, List.getElem_append_left (by omega)]
      exact Held.go (h4 i hlt (by omega)) hfr hA
    · have e : i = vss.length := by simp at hi; omega
      subst e
      rw [List.getElem_append_right (Nat.le_refl _), List.getElem_append_right (by omega)]
      simp only [Nat.sub_self, h1]
      exact hx
end

end Go.Proofs.YtkmkfpgaehgonaaGreatDoor
