/- Parts that come to one another: in pure terms. -/
import Derived.Test.YtpcfcheicdnogaaF14P
namespace Go.Proofs.Ytpcfcheicdnogaa
open Go.RowKit
set_option linter.unusedVariables false

def flat14 (ys : List WayD) : List Int := (ys.map (·.kids)).flatten
def go14 (n : Nat) (ys : List WayD) : List Int := (flat14 ys).filter (place14 n)
def Ed (xs : List PartD) (i j : Nat) : Prop := ∃ h : i < xs.length, j < xs.length ∧ (j : Int) ∈ flat14 xs[i].ways
inductive Pl (xs : List PartD) : Nat → Nat → Prop
  | one {i j : Nat} : Ed xs i j → Pl xs i j
  | more {i j k : Nat} : Pl xs i j → Ed xs j k → Pl xs i k
noncomputable def circles14 (xs : List PartD) : Bool := @decide (∃ i, Pl xs i i) (Classical.propDecidable _)
def AmbP (xs : List PartD) (i : Nat) : Prop := (i = 0 ∨ Pl xs 0 i) ∧ ∃ h : i < xs.length, 1 < xs[i].ways.length
noncomputable def amb14 (xs : List PartD) : Bool := @decide (∃ i, AmbP xs i) (Classical.propDecidable _)

theorem place14_nat (n k : Nat) (h : k < n) : place14 n (k : Int) = true := decide_eq_true ⟨by omega, by omega⟩
theorem place14_of {n : Nat} {z : Int} (h : place14 n z = true) : ∃ k : Nat, z = k ∧ k < n := by
  have := of_decide_eq_true h
  exact ⟨z.toNat, by omega, by omega⟩
theorem ed_go {xs : List PartD} {i j : Nat} (h : i < xs.length) : Ed xs i j ↔ (j : Int) ∈ go14 xs.length xs[i].ways := by
  constructor
  · rintro ⟨_, h2, h3⟩
    exact List.mem_filter.2 ⟨h3, place14_nat _ _ h2⟩
  · intro h2
    have h3 := List.mem_filter.1 h2
    have h4 := of_decide_eq_true h3.2
    exact ⟨h, by omega, h3.1⟩
theorem pl_left {xs : List PartD} {i j : Nat} (h : Pl xs i j) : i < xs.length := by
  induction h with
  | one h => exact h.1
  | more _ _ ih => exact ih
theorem pl_right {xs : List PartD} {i j : Nat} (h : Pl xs i j) : j < xs.length := by
  cases h with
  | one h => exact h.2.1
  | more _ h => exact h.2.1
theorem flat14_next (ys : List WayD) (j : Nat) (h : j < ys.length) : flat14 (ys.take (j + 1)) = flat14 (ys.take j) ++ ys[j].kids := by
  rw [flat14, List.take_succ_eq_append_getElem h, List.map_append, List.flatten_append]
  simp [flat14]
theorem flat14_len (ys : List WayD) : (flat14 ys).length + ys.length = rowTot wayTot ys := by
  induction ys with
  | nil => rfl
  | cons y ys ih =>
    have e : flat14 (y :: ys) = y.kids ++ flat14 ys := by simp [flat14]
    rw [e, List.length_append]
    unfold rowTot at ih ⊢
    simp only [List.length_cons, List.map_cons, List.sum_cons]
    have : wayTot y = y.kids.length := rfl
    omega
theorem go14_len (n : Nat) (ys : List WayD) : (go14 n ys).length ≤ rowTot wayTot ys := by
  have h1 := List.length_filter_le (place14 n) (flat14 ys)
  have h2 := flat14_len ys
  unfold go14
  omega
theorem go14_in {n : Nat} {ys : List WayD} : ∀ z ∈ go14 n ys, ∃ k : Nat, z = k ∧ k < n := fun z hz => place14_of (List.mem_filter.1 hz).2

theorem nodup_sub {α : Type} [BEq α] [LawfulBEq α] : ∀ (l m : List α), l.Nodup → (∀ x ∈ l, x ∈ m) → l.length ≤ m.length
  | [], m, _, _ => Nat.zero_le _
  | x :: l, m, hn, hs => by
    have hx : x ∈ m := hs x (List.mem_cons_self ..)
    have h1 := List.nodup_cons.1 hn
    have h2 := nodup_sub l (m.erase x) h1.2 (fun y hy => (List.mem_erase_of_ne (fun e => h1.1 (by rw [← e]; exact hy))).2 (hs y (List.mem_cons_of_mem _ hy)))
    rw [List.length_erase_of_mem hx] at h2
    have h3 := List.length_pos_of_mem hx
    simp only [List.length_cons]
    omega
def ints14 (n : Nat) : List Int := (List.range n).map Int.ofNat
theorem ints14_len (n : Nat) : (ints14 n).length = n := by simp [ints14]
theorem mem_ints14 {n : Nat} {z : Int} : z ∈ ints14 n ↔ ∃ k : Nat, z = k ∧ k < n := by
  constructor
  · intro h
    obtain ⟨k, hk, e⟩ := List.mem_map.1 h
    exact ⟨k, e.symm, List.mem_range.1 hk⟩
  · rintro ⟨k, rfl, hk⟩
    exact List.mem_map.2 ⟨k, List.mem_range.2 hk, rfl⟩
theorem nodup_map14 {α β : Type} (f : α → β) (hf : ∀ x y, f x = f y → x = y) : ∀ (l : List α), l.Nodup → (l.map f).Nodup
  | [], _ => List.Pairwise.nil
  | x :: l, h => by
    have h1 := List.nodup_cons.1 h
    rw [List.map_cons]
    refine List.nodup_cons.2 ⟨fun hm => ?_, nodup_map14 f hf l h1.2⟩
    obtain ⟨y, hy, e⟩ := List.mem_map.1 hm
    exact h1.1 (hf _ _ e ▸ hy)
theorem ints14_nodup (n : Nat) : (ints14 n).Nodup := nodup_map14 Int.ofNat (fun x y h => Int.ofNat.inj h) _ List.nodup_range
theorem nodup_len14 {n : Nat} {l : List Int} (hn : l.Nodup) (hi : ∀ z ∈ l, ∃ k : Nat, z = k ∧ k < n) : l.length ≤ n := by
  have := nodup_sub l (ints14 n) hn (fun z hz => mem_ints14.2 (hi z hz))
  rwa [ints14_len] at this

/-- Search from one part on. -/
structure FS (xs : List PartD) (at0 : Nat) (out : List Bool) (q : List Int) (P : Nat → Prop) : Prop where
  len : out.length = xs.length
  snd : ∀ j, out.getD j false = true → Pl xs at0 j
  que : ∀ z ∈ q, ∃ k : Nat, z = (k : Int) ∧ k < xs.length ∧ (k = at0 ∨ Pl xs at0 k)
  cmp : ∀ i, i = at0 ∨ out.getD i false = true → (i : Int) ∈ q ∨ P i ∨ ∀ j, Ed xs i j → out.getD j false = true
def meas14 (out : List Bool) (q : List Int) : Nat := 2 * out.count false + q.length
theorem getD_rep14 (n j : Nat) : (List.replicate n false).getD j false = false := by
  rw [List.getD_eq_getElem?_getD, List.getElem?_replicate]
  split <;> rfl
theorem getD_set14 (out : List Bool) (k j : Nat) (h : k < out.length) : (out.set k true).getD j false = if j = k then true else out.getD j false := by
  rw [List.getD_eq_getElem?_getD, List.getD_eq_getElem?_getD, List.getElem?_set]
  by_cases e : k = j
  · subst e
    simp [h]
  · rw [if_neg e, if_neg (fun e' => e e'.symm)]
theorem count_set14 (out : List Bool) (k : Nat) (h : k < out.length) (hf : out.getD k false = false) : (out.set k true).count false + 1 = out.count false := by
  have hg : out[k] = false := by
    rw [List.getD_eq_getElem?_getD, List.getElem?_eq_getElem h] at hf
    exact hf
  have hp : 0 < out.count false := List.count_pos_iff.2 (hg ▸ List.getElem_mem h)
  rw [List.count_set h, hg]
  simp
  omega
theorem FS.start (xs : List PartD) (at0 : Nat) (h : at0 < xs.length) : FS xs at0 (List.replicate xs.length false) [(at0 : Int)] (fun _ => False) :=
  ⟨List.length_replicate, fun j hj => (by rw [getD_rep14] at hj; cases hj), fun z hz => ⟨at0, List.mem_singleton.1 hz, h, .inl rfl⟩, fun i hi => by
    rcases hi with rfl | hi
    · exact .inl (List.mem_singleton.2 rfl)
    · rw [getD_rep14] at hi; cases hi⟩
theorem meas14_start (n : Nat) (z : Int) : meas14 (List.replicate n false) [z] = 2 * n + 1 := by simp [meas14]
theorem FS.pop {xs : List PartD} {at0 : Nat} {out : List Bool} {z : Int} {q : List Int} (h : FS xs at0 out (z :: q) (fun _ => False)) : ∃ k : Nat, z = (k : Int) ∧ k < xs.length ∧ (k = at0 ∨ Pl xs at0 k) ∧ FS xs at0 out q (fun i => i = k) := by
  obtain ⟨k, e, hk, hp⟩ := h.que z (List.mem_cons_self ..)
  refine ⟨k, e, hk, hp, h.len, h.snd, fun y hy => h.que y (List.mem_cons_of_mem _ hy), fun i hi => ?_⟩
  rcases h.cmp i hi with h1 | h1 | h1
  · rcases List.mem_cons.1 h1 with h2 | h2
    · exact .inr (.inl (by omega))
    · exact .inl h2
  · exact h1.elim
  · exact .inr (.inr h1)
theorem FS.put {xs : List PartD} {at0 : Nat} {out : List Bool} {q : List Int} {P : Nat → Prop} (h : FS xs at0 out q P) {k j : Nat} (hk : k = at0 ∨ Pl xs at0 k) (he : Ed xs k j) : FS xs at0 (out.set j true) (q ++ [(j : Int)]) P := by
  have hj : j < out.length := by rw [h.len]; exact he.2.1
  have hp : Pl xs at0 j := by
    rcases hk with rfl | hk
    · exact .one he
    · exact .more hk he
  refine ⟨by rw [List.length_set]; exact h.len, fun i hi => ?_, fun z hz => ?_, fun i hi => ?_⟩
  · rw [getD_set14 _ _ _ hj] at hi
    by_cases e : i = j
    · subst e; exact hp
    · rw [if_neg e] at hi; exact h.snd i hi
  · rcases List.mem_append.1 hz with hz | hz
    · exact h.que z hz
    · exact ⟨j, List.mem_singleton.1 hz, he.2.1, .inr hp⟩
  · rw [getD_set14 _ _ _ hj] at hi
    by_cases e : i = j
    · subst e
      exact .inl (List.mem_append.2 (.inr (List.mem_singleton.2 rfl)))
    · rw [if_neg e] at hi
      rcases h.cmp i hi with h1 | h1 | h1
      · exact .inl (List.mem_append.2 (.inl h1))
      · exact .inr (.inl h1)
      · refine .inr (.inr fun m hm => ?_)
        rw [getD_set14 _ _ _ hj]
        split
        · rfl
        · exact h1 m hm
theorem meas14_put {out : List Bool} {q : List Int} {k : Nat} (h : k < out.length) (hf : out.getD k false = false) (z : Int) : meas14 (out.set k true) (q ++ [z]) + 1 = meas14 out q := by
  have := count_set14 out k h hf
  simp only [meas14, List.length_append, List.length_singleton]
  omega
def Seen (n : Nat) (out : List Bool) (l : List Int) : Prop := ∀ z ∈ l, place14 n z = true → out.getD z.toNat false = true
theorem Seen.nil (n : Nat) (out : List Bool) : Seen n out [] := fun z hz => by cases hz
theorem Seen.add {n : Nat} {out : List Bool} {l m : List Int} (h : Seen n out l) (h2 : Seen n out m) : Seen n out (l ++ m) := fun z hz => by
  rcases List.mem_append.1 hz with hz | hz
  · exact h z hz
  · exact h2 z hz
theorem Seen.set {n : Nat} {out : List Bool} {l : List Int} (h : Seen n out l) {k : Nat} (hk : k < out.length) : Seen n (out.set k true) l := fun z hz hp => by
  rw [getD_set14 _ _ _ hk]
  split
  · rfl
  · exact h z hz hp
theorem FS.done {xs : List PartD} {at0 : Nat} {out : List Bool} {q : List Int} {k : Nat} (hk : k < xs.length) (h : FS xs at0 out q (fun i => i = k)) (hs : Seen xs.length out (flat14 xs[k].ways)) : FS xs at0 out q (fun _ => False) := by
  refine ⟨h.len, h.snd, h.que, fun i hi => ?_⟩
  rcases h.cmp i hi with h1 | h1 | h1
  · exact .inl h1
  · subst h1
    refine .inr (.inr fun j hj => ?_)
    have := hs (j : Int) hj.2.2 (place14_nat _ _ hj.2.1)
    rwa [Int.toNat_natCast] at this
  · exact .inr (.inr h1)
theorem FS.fin {xs : List PartD} {at0 : Nat} {out : List Bool} (h : FS xs at0 out [] (fun _ => False)) (j : Nat) : out.getD j false = true ↔ Pl xs at0 j := by
  refine ⟨h.snd j, fun hp => ?_⟩
  have step : ∀ i, (i = at0 ∨ out.getD i false = true) → ∀ j, Ed xs i j → out.getD j false = true := fun i hi => by
    rcases h.cmp i hi with h1 | h1 | h1
    · cases h1
    · exact h1.elim
    · exact h1
  induction hp with
  | one he => exact step _ (.inl rfl) _ he
  | more _ he ih => exact step _ (.inr ih) _ he

/-- The program's search: the parts come to, in order. -/
structure FC (xs : List PartD) (th : List Bool) (pl : List Int) (i : Nat) : Prop where
  len : th.length = xs.length
  sz : pl.length + th.count false = xs.length
  mem : ∀ k : Nat, th.getD k false = true → (k : Int) ∈ pl
  snd : ∀ z ∈ pl, ∃ k : Nat, z = (k : Int) ∧ k < xs.length ∧ (k = 0 ∨ Pl xs 0 k)
  zero : th.getD 0 false = true
  cmp : ∀ p (h : p < pl.length), p < i → ∀ j, Ed xs pl[p].toNat j → th.getD j false = true
theorem FC.start (xs : List PartD) (h : 0 < xs.length) : FC xs ((List.replicate xs.length false).set 0 true) [0] 0 := by
  have hl : 0 < (List.replicate xs.length false).length := by rw [List.length_replicate]; exact h
  refine ⟨by simp, ?_, fun k hk => ?_, fun z hz => ⟨0, List.mem_singleton.1 hz, h, .inl rfl⟩, ?_, fun p _ hp => absurd hp (Nat.not_lt_zero _)⟩
  · have := count_set14 (List.replicate xs.length false) 0 hl (getD_rep14 _ _)
    have h2 : (List.replicate xs.length false).count false = xs.length := by simp
    simp only [List.length_singleton]
    omega
  · rw [getD_set14 _ _ _ hl] at hk
    by_cases e : k = 0
    · subst e; exact List.mem_singleton.2 rfl
    · rw [if_neg e, getD_rep14] at hk; cases hk
  · rw [getD_set14 _ _ _ hl, if_pos rfl]
theorem FC.put {xs : List PartD} {th : List Bool} {pl : List Int} {i : Nat} (h : FC xs th pl i) (hi : i < pl.length) {j : Nat} (he : Ed xs pl[i].toNat j) (hf : th.getD j false = false) : FC xs (th.set j true) (pl ++ [(j : Int)]) i := by
  have hj : j < th.length := by rw [h.len]; exact he.2.1
  obtain ⟨k, hk, _, hp⟩ := h.snd pl[i] (List.getElem_mem hi)
  rw [hk, Int.toNat_natCast] at he
  have hpj : Pl xs 0 j := by
    rcases hp with rfl | hp
    · exact .one he
    · exact .more hp he
  have hc := count_set14 th j hj hf
  have hs := h.sz
  refine ⟨by rw [List.length_set]; exact h.len, by simp only [List.length_append, List.length_singleton]; omega, fun m hm => ?_, fun z hz => ?_, ?_, fun p hp1 hp2 m hm => ?_⟩
  · rw [getD_set14 _ _ _ hj] at hm
    by_cases e : m = j
    · subst e; exact List.mem_append.2 (.inr (List.mem_singleton.2 rfl))
    · rw [if_neg e] at hm; exact List.mem_append.2 (.inl (h.mem m hm))
  · rcases List.mem_append.1 hz with hz | hz
    · exact h.snd z hz
    · exact ⟨j, List.mem_singleton.1 hz, he.2.1, .inr hpj⟩
  · rw [getD_set14 _ _ _ hj]
    split
    · rfl
    · exact h.zero
  · rw [List.getElem_append_left (by omega)] at hm
    rw [getD_set14 _ _ _ hj]
    split
    · rfl
    · exact h.cmp p (by omega) hp2 m hm
theorem FC.next {xs : List PartD} {th : List Bool} {pl : List Int} {i : Nat} (h : FC xs th pl i) (hi : i < pl.length) (hs : ∀ j, Ed xs pl[i].toNat j → th.getD j false = true) : FC xs th pl (i + 1) :=
  ⟨h.len, h.sz, h.mem, h.snd, h.zero, fun p hp1 hp2 j hj => by
    by_cases e : p = i
    · subst e; exact hs j hj
    · exact h.cmp p hp1 (by omega) j hj⟩
theorem FC.fin {xs : List PartD} {th : List Bool} {pl : List Int} (h : FC xs th pl pl.length) (k : Nat) (hp : k = 0 ∨ Pl xs 0 k) : (k : Int) ∈ pl := by
  refine h.mem k ?_
  have step : ∀ i, th.getD i false = true → ∀ j, Ed xs i j → th.getD j false = true := fun i hi j hj => by
    obtain ⟨p, hp, e⟩ := List.getElem_of_mem (h.mem i hi)
    exact h.cmp p hp hp j (by rw [e, Int.toNat_natCast]; exact hj)
  rcases hp with rfl | hp
  · exact h.zero
  · induction hp with
    | one he => exact step _ h.zero _ he
    | more _ he ih => exact step _ ih _ he

end Go.Proofs.Ytpcfcheicdnogaa
