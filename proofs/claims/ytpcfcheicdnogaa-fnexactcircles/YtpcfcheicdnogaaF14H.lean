/- Parts that are done when all their kids are: in pure terms. -/
import Derived.Test.YtpcfcheicdnogaaF14K
namespace Go.Proofs.Ytpcfcheicdnogaa
open Go.RowKit
set_option linter.unusedVariables false

def gs14 (xs : List PartD) (i : Nat) : List Int := (xs[i]?.map fun x => go14 xs.length x.ways).getD []
theorem gs14_at {xs : List PartD} {i : Nat} (h : i < xs.length) : gs14 xs i = go14 xs.length xs[i].ways := by
  rw [gs14, List.getElem?_eq_getElem h]
  rfl
theorem ed_gs {xs : List PartD} {i j : Nat} : Ed xs i j ↔ (j : Int) ∈ gs14 xs i := by
  by_cases h : i < xs.length
  · rw [gs14_at h]; exact ed_go h
  · constructor
    · intro he; exact absurd he.1 h
    · intro he
      rw [gs14, List.getElem?_eq_none (by omega)] at he
      cases he
theorem gs14_in {xs : List PartD} {i : Nat} : ∀ z ∈ gs14 xs i, ∃ k : Nat, z = (k : Int) ∧ k < xs.length := fun z hz => by
  by_cases h : i < xs.length
  · rw [gs14_at h] at hz; exact go14_in z hz
  · rw [gs14, List.getElem?_eq_none (by omega)] at hz
    cases hz

/-- How often the elements of l come in g. -/
def sumz (l g : List Int) : Nat := (l.map fun z => g.count z).sum
theorem sumz_cons (z : Int) (l g : List Int) : sumz (z :: l) g = g.count z + sumz l g := by simp [sumz]
theorem sumz_snoc (z : Int) (l g : List Int) : sumz (l ++ [z]) g = sumz l g + g.count z := by simp [sumz]
theorem sumz_congr {l g g' : List Int} (h : ∀ z ∈ l, g.count z = g'.count z) : sumz l g = sumz l g' := by
  induction l with
  | nil => rfl
  | cons z l ih =>
    rw [sumz_cons, sumz_cons, h z (List.mem_cons_self ..), ih (fun y hy => h y (List.mem_cons_of_mem _ hy))]
theorem filter_count14 (z : Int) : ∀ g : List Int, g.count z + (g.filter (fun x => !(x == z))).length = g.length
  | [] => rfl
  | a :: g => by
    have ih := filter_count14 z g
    rw [List.count_cons, List.filter_cons]
    by_cases h : a = z
    · subst h
      simp
      omega
    · have hb : (a == z) = false := by simpa using h
      rw [hb]
      simp
      omega
theorem sumz_le : ∀ (l g : List Int), l.Nodup → sumz l g ≤ g.length
  | [], g, _ => Nat.zero_le _
  | z :: l, g, h => by
    have h1 := List.nodup_cons.1 h
    have ih := sumz_le l (g.filter (fun x => !(x == z))) h1.2
    have e : sumz l (g.filter (fun x => !(x == z))) = sumz l g := sumz_congr fun y hy => by
      have hyz : y ≠ z := fun e => h1.1 (e ▸ hy)
      rw [List.count_filter (by simpa using hyz)]
    have e2 := filter_count14 z g
    rw [sumz_cons]
    omega
theorem sumz_full {l g : List Int} (hn : l.Nodup) (h : g.length ≤ sumz l g) : ∀ z ∈ g, z ∈ l := fun z hz => by
  by_cases hl : z ∈ l
  · exact hl
  · have h1 := sumz_le (z :: l) g (List.nodup_cons.2 ⟨hl, hn⟩)
    rw [sumz_cons] at h1
    have h2 : 0 < g.count z := List.count_pos_iff.2 hz
    omega
theorem sumz_mono (a : Int) : ∀ (l g : List Int), sumz l g ≤ sumz l (a :: g)
  | [], _ => Nat.le_refl _
  | z :: l, g => by
    have ih := sumz_mono a l g
    rw [sumz_cons, sumz_cons, List.count_cons]
    omega
theorem sumz_more (a : Int) : ∀ (l g : List Int), a ∈ l → sumz l g + 1 ≤ sumz l (a :: g)
  | z :: l, g, h => by
    rw [sumz_cons, sumz_cons, List.count_cons]
    by_cases e : a = z
    · subst e
      have := sumz_mono a l g
      simp
      omega
    · have ih := sumz_more a l g ((List.mem_cons.1 h).resolve_left e)
      omega
theorem sumz_cover (l : List Int) : ∀ g : List Int, (∀ z ∈ g, z ∈ l) → g.length ≤ sumz l g
  | [], _ => Nat.zero_le _
  | a :: g, h => by
    have ih := sumz_cover l g (fun z hz => h z (List.mem_cons_of_mem _ hz))
    have := sumz_more a l g (h a (List.mem_cons_self ..))
    simp only [List.length_cons]
    omega
theorem sumz_take (l g : List Int) (i : Nat) (h : i < l.length) : sumz (l.take (i + 1)) g = sumz (l.take i) g + g.count l[i] := by
  rw [List.take_succ_eq_append_getElem h, sumz_snoc]

theorem getDI_set (l : List Int) (k j : Nat) (z : Int) (h : k < l.length) : (l.set k z).getD j 0 = if j = k then z else l.getD j 0 := by
  rw [List.getD_eq_getElem?_getD, List.getD_eq_getElem?_getD, List.getElem?_set]
  by_cases e : k = j
  · subst e
    simp [h]
  · rw [if_neg e, if_neg (fun e' => e e'.symm)]
theorem getDL_set (l : List (List Int)) (k j : Nat) (z : List Int) (h : k < l.length) : (l.set k z).getD j [] = if j = k then z else l.getD j [] := by
  rw [List.getD_eq_getElem?_getD, List.getD_eq_getElem?_getD, List.getElem?_set]
  by_cases e : k = j
  · subst e
    simp [h]
  · rw [if_neg e, if_neg (fun e' => e e'.symm)]

/-- Who waits for how many, and who is above whom. -/
structure W1 (n : Nat) (G : Nat → List Int) (waits : List Int) (above : List (List Int)) : Prop where
  len : waits.length = n
  len2 : above.length = n
  wt : ∀ i, i < n → waits.getD i 0 = ((G i).length : Int)
  ab : ∀ k, k < n → ∀ i : Nat, (above.getD k []).count (i : Int) = (G i).count (k : Int)
  inn : ∀ k, ∀ z ∈ above.getD k [], ∃ i : Nat, z = (i : Int) ∧ i < n
def GG (xs : List PartD) (at0 t i : Nat) : List Int := if i < at0 then gs14 xs i else if i = at0 then (gs14 xs i).take t else []
theorem W1.congr {n : Nat} {G G' : Nat → List Int} {waits : List Int} {above : List (List Int)} (h : W1 n G waits above) (hG : ∀ i, G i = G' i) : W1 n G' waits above := by
  have : G = G' := funext hG
  rw [← this]
  exact h
theorem W1.start (xs : List PartD) : W1 xs.length (GG xs 0 0) (List.replicate xs.length 0) (List.replicate xs.length []) := by
  have hg : ∀ i, GG xs 0 0 i = [] := fun i => by
    rw [GG, if_neg (Nat.not_lt_zero _)]
    split <;> simp
  have hl : ∀ k, (List.replicate xs.length ([] : List Int)).getD k [] = [] := fun k => by
    rw [List.getD_eq_getElem?_getD, List.getElem?_replicate]
    split <;> rfl
  refine ⟨by simp, by simp, fun i hi => ?_, fun k hk i => ?_, fun k z hz => ?_⟩
  · rw [hg, List.getD_eq_getElem?_getD, List.getElem?_replicate, if_pos hi]
    rfl
  · rw [hg, hl]; rfl
  · rw [hl] at hz; cases hz
theorem W1.next {xs : List PartD} {at0 : Nat} {waits : List Int} {above : List (List Int)} (h : W1 xs.length (GG xs at0 (gs14 xs at0).length) waits above) : W1 xs.length (GG xs (at0 + 1) 0) waits above :=
  h.congr fun i => by
    rw [GG, GG]
    by_cases h1 : i < at0
    · rw [if_pos h1, if_pos (by omega)]
    · rw [if_neg h1]
      by_cases h2 : i = at0
      · subst h2
        rw [if_pos rfl, if_pos (by omega), List.take_length]
      · rw [if_neg h2, if_neg (by omega)]
        split <;> simp
theorem W1.put {xs : List PartD} {at0 t k : Nat} {waits : List Int} {above : List (List Int)} (h : W1 xs.length (GG xs at0 t) waits above) (ha : at0 < xs.length) (ht : t < (gs14 xs at0).length) (hk : (gs14 xs at0)[t] = (k : Int)) (hkn : k < xs.length) :
    W1 xs.length (GG xs at0 (t + 1)) (waits.set at0 (waits.getD at0 0 + 1)) (above.set k (above.getD k [] ++ [(at0 : Int)])) := by
  have e1 : GG xs at0 (t + 1) at0 = GG xs at0 t at0 ++ [(k : Int)] := by
    rw [GG, GG, if_neg (Nat.lt_irrefl _), if_neg (Nat.lt_irrefl _), if_pos rfl, if_pos rfl, List.take_succ_eq_append_getElem ht, hk]
  have e2 : ∀ i, i ≠ at0 → GG xs at0 (t + 1) i = GG xs at0 t i := fun i hi => by
    rw [GG, GG, if_neg hi, if_neg hi]
  refine ⟨by rw [List.length_set]; exact h.len, by rw [List.length_set]; exact h.len2, fun i hi => ?_, fun j hj i => ?_, fun j z hz => ?_⟩
  · rw [getDI_set _ _ _ _ (by rw [h.len]; exact ha)]
    by_cases e : i = at0
    · subst e
      rw [if_pos rfl, e1, h.wt i hi, List.length_append]
      simp
    · rw [if_neg e, e2 i e, h.wt i hi]
  · rw [getDL_set _ _ _ _ (by rw [h.len2]; exact hkn)]
    by_cases e : i = at0
    · subst e
      rw [e1, List.count_append]
      by_cases e3 : j = k
      · subst e3
        rw [if_pos rfl, List.count_append, h.ab j hj i]
        simp
      · rw [if_neg e3, h.ab j hj i, List.count_singleton]
        have : ((k : Int) == (j : Int)) = false := beq_eq_false_iff_ne.2 (fun e : (k : Int) = (j : Int) => e3 (by omega))
        rw [this]
        simp
    · rw [e2 i e]
      split
      · rename_i e3
        subst e3
        rw [List.count_append, h.ab j hj i, List.count_singleton]
        have : ((at0 : Int) == (i : Int)) = false := beq_eq_false_iff_ne.2 (fun e4 : (at0 : Int) = (i : Int) => e (by omega))
        rw [this]
        simp
      · exact h.ab j hj i
  · rw [getDL_set _ _ _ _ (by rw [h.len2]; exact hkn)] at hz
    split at hz
    · rcases List.mem_append.1 hz with hz | hz
      · exact h.inn k z hz
      · exact ⟨at0, List.mem_singleton.1 hz, ha⟩
    · exact h.inn j z hz
theorem W1.fin {xs : List PartD} {waits : List Int} {above : List (List Int)} (h : W1 xs.length (GG xs xs.length 0) waits above) (i : Nat) (hi : i < xs.length) : GG xs xs.length 0 i = gs14 xs i := by
  rw [GG, if_pos hi]

def done2 (waits : List Int) (a : Nat) : List Int := ((List.range a).filter fun i => waits.getD i 0 == 0).map Int.ofNat
theorem done2_next (waits : List Int) (a : Nat) : done2 waits (a + 1) = if waits.getD a 0 = 0 then done2 waits a ++ [(a : Int)] else done2 waits a := by
  rw [done2, List.range_succ, List.filter_append, List.map_append, List.filter_cons]
  by_cases h : waits.getD a 0 = 0
  · have hb : (waits.getD a 0 == 0) = true := by simpa using h
    rw [if_pos h, hb]
    rfl
  · have hb : (waits.getD a 0 == 0) = false := by simpa using h
    rw [if_neg h, hb]
    simp [done2]
theorem done2_len (waits : List Int) (a : Nat) : (done2 waits a).length ≤ a := by
  have := List.length_filter_le (fun i => waits.getD i 0 == 0) (List.range a)
  rw [List.length_range] at this
  rw [done2, List.length_map]
  exact this
theorem mem_done2 {waits : List Int} {a : Nat} {z : Int} : z ∈ done2 waits a ↔ ∃ k : Nat, z = (k : Int) ∧ k < a ∧ waits.getD k 0 = 0 := by
  rw [done2]
  constructor
  · intro h
    obtain ⟨k, hk, e⟩ := List.mem_map.1 h
    have h2 := List.mem_filter.1 hk
    exact ⟨k, e.symm, List.mem_range.1 h2.1, by simpa using h2.2⟩
  · rintro ⟨k, rfl, hk, hw⟩
    exact List.mem_map.2 ⟨k, List.mem_filter.2 ⟨List.mem_range.2 hk, by simpa using hw⟩, rfl⟩

/-- The parts that are done, in order. -/
structure KD (xs : List PartD) (waits done : List Int) (i : Nat) (c : List Int) : Prop where
  len : waits.length = xs.length
  nod : done.Nodup
  inn : ∀ z ∈ done, ∃ k : Nat, z = (k : Int) ∧ k < xs.length
  sum : ∀ x, x < xs.length → waits.getD x 0 + ((sumz (done.take i) (gs14 xs x) + c.count (x : Int) : Nat) : Int) = ((gs14 xs x).length : Int)
  zer : ∀ x, x < xs.length → ((x : Int) ∈ done ↔ waits.getD x 0 = 0)
  ord : ∀ p (h : p < done.length) j, Ed xs done[p].toNat j → ∃ p' : Nat, p' < p ∧ done[p']? = some (j : Int)
theorem KD.dlen {xs : List PartD} {waits done : List Int} {i : Nat} {c : List Int} (h : KD xs waits done i c) : done.length ≤ xs.length := nodup_len14 h.nod h.inn
theorem KD.start {xs : List PartD} {waits : List Int} {above : List (List Int)} (h : W1 xs.length (GG xs xs.length 0) waits above) : KD xs waits (done2 waits xs.length) 0 [] := by
  refine ⟨h.len, nodup_map14 _ (fun x y e => Int.ofNat.inj e) _ (List.nodup_range.filter _), fun z hz => ?_, fun x hx => ?_, fun x hx => ?_, fun p hp j hj => ?_⟩
  · obtain ⟨k, e, hk, _⟩ := mem_done2.1 hz
    exact ⟨k, e, hk⟩
  · rw [h.wt x hx, h.fin x hx]
    simp [sumz]
  · rw [mem_done2]
    constructor
    · rintro ⟨k, e, _, hw⟩
      have : x = k := by omega
      rw [this]; exact hw
    · intro hw; exact ⟨x, rfl, hx, hw⟩
  · obtain ⟨k, e, hk, hw⟩ := mem_done2.1 (List.getElem_mem hp)
    rw [e, Int.toNat_natCast] at hj
    rw [h.wt k hk, h.fin k hk] at hw
    have h0 : gs14 xs k = [] := List.length_eq_zero_iff.1 (by omega)
    have := ed_gs.1 hj
    rw [h0] at this
    cases this
theorem KD.next {xs : List PartD} {waits done : List Int} {i : Nat} {c : List Int} (h : KD xs waits done i c) (hi : i < done.length) (hc : ∀ x, x < xs.length → c.count (x : Int) = (gs14 xs x).count done[i]) : KD xs waits done (i + 1) [] :=
  ⟨h.len, h.nod, h.inn, fun x hx => by
    have h1 := h.sum x hx
    rw [hc x hx] at h1
    rw [sumz_take _ _ _ hi]
    simpa using h1, h.zer, h.ord⟩
theorem nodup_take14 {l : List Int} (h : l.Nodup) (n : Nat) : (l.take n).Nodup := h.sublist (List.take_sublist n l)
theorem KD.pos {xs : List PartD} {waits done : List Int} {i : Nat} {c : List Int} (h : KD xs waits done i c) (hi : i < done.length) {x : Nat} (hx : x < xs.length) (hc : c.count (x : Int) + 1 ≤ (gs14 xs x).count done[i]) : 1 ≤ waits.getD x 0 ∧ waits.getD x 0 ≤ ((gs14 xs x).length : Int) := by
  have h1 := h.sum x hx
  have h2 := sumz_le (done.take (i + 1)) (gs14 xs x) (nodup_take14 h.nod _)
  rw [sumz_take _ _ _ hi] at h2
  constructor <;> omega
theorem count_snoc14 (c : List Int) (x y : Nat) : (c ++ [(x : Int)]).count (y : Int) = c.count (y : Int) + if y = x then 1 else 0 := by
  rw [List.count_append, List.count_singleton]
  by_cases e : y = x
  · subst e; simp
  · have : ((x : Int) == (y : Int)) = false := beq_eq_false_iff_ne.2 (fun h : (x : Int) = (y : Int) => e (by omega))
    rw [this, if_neg e]
    rfl
theorem KD.less {xs : List PartD} {waits done : List Int} {i : Nat} {c : List Int} (h : KD xs waits done i c) (hi : i < done.length) {x : Nat} (hx : x < xs.length) (hc : c.count (x : Int) + 1 ≤ (gs14 xs x).count done[i]) (hw : waits.getD x 0 ≠ 1) : KD xs (waits.set x (waits.getD x 0 - 1)) done i (c ++ [(x : Int)]) := by
  have hp := (h.pos hi hx hc).1
  have hl : x < waits.length := by rw [h.len]; exact hx
  refine ⟨by rw [List.length_set]; exact h.len, h.nod, h.inn, fun y hy => ?_, fun y hy => ?_, h.ord⟩
  · have h1 := h.sum y hy
    rw [getDI_set _ _ _ _ hl, count_snoc14]
    split
    · rename_i e
      subst e
      omega
    · simpa using h1
  · rw [getDI_set _ _ _ _ hl]
    split
    · rename_i e
      subst e
      have h1 := h.zer y hx
      constructor
      · intro hm; have := h1.1 hm; omega
      · intro h0; omega
    · exact h.zer y hy
theorem KD.out {xs : List PartD} {waits done : List Int} {i : Nat} {c : List Int} (h : KD xs waits done i c) (hi : i < done.length) {x : Nat} (hx : x < xs.length) (hc : c.count (x : Int) + 1 ≤ (gs14 xs x).count done[i]) (hw : waits.getD x 0 = 1) : KD xs (waits.set x (waits.getD x 0 - 1)) (done ++ [(x : Int)]) i (c ++ [(x : Int)]) := by
  have hl : x < waits.length := by rw [h.len]; exact hx
  have hnm : (x : Int) ∉ done := fun hm => by have := (h.zer x hx).1 hm; omega
  have htk : (done ++ [(x : Int)]).take i = done.take i := List.take_append_of_le_length (by omega)
  refine ⟨by rw [List.length_set]; exact h.len, ?_, fun z hz => ?_, fun y hy => ?_, fun y hy => ?_, fun p hp j hj => ?_⟩
  · refine List.nodup_append.2 ⟨h.nod, by simp, fun a ha b hb => ?_⟩
    rw [List.mem_singleton.1 hb]
    intro e
    exact hnm (e ▸ ha)
  · rcases List.mem_append.1 hz with hz | hz
    · exact h.inn z hz
    · exact ⟨x, List.mem_singleton.1 hz, hx⟩
  · have h1 := h.sum y hy
    rw [getDI_set _ _ _ _ hl, count_snoc14, htk]
    split
    · rename_i e
      subst e
      omega
    · simpa using h1
  · rw [getDI_set _ _ _ _ hl]
    split
    · rename_i e
      subst e
      constructor
      · intro _; omega
      · intro _; exact List.mem_append.2 (.inr (List.mem_singleton.2 rfl))
    · rename_i e
      rw [← h.zer y hy]
      constructor
      · intro hm
        rcases List.mem_append.1 hm with hm | hm
        · exact hm
        · have := List.mem_singleton.1 hm; omega
      · intro hm; exact List.mem_append.2 (.inl hm)
  · by_cases e : p < done.length
    · rw [List.getElem_append_left e] at hj
      obtain ⟨p', h1, h2⟩ := h.ord p e j hj
      exact ⟨p', h1, by rw [List.getElem?_append_left (by omega)]; exact h2⟩
    · have e2 : p = done.length := by simp at hp; omega
      subst e2
      have e3 : (done ++ [(x : Int)])[done.length] = (x : Int) := by simp
      rw [e3, Int.toNat_natCast] at hj
      have h1 := h.sum x hx
      have h2 : (gs14 xs x).length ≤ sumz (done.take (i + 1)) (gs14 xs x) := by
        rw [sumz_take _ _ _ hi]
        omega
      have h3 := sumz_full (nodup_take14 h.nod _) h2 _ (ed_gs.1 hj)
      obtain ⟨p', hp', e4⟩ := List.getElem_of_mem h3
      rw [List.length_take] at hp'
      refine ⟨p', by omega, ?_⟩
      rw [List.getElem_take] at e4
      rw [List.getElem?_append_left (by omega), List.getElem?_eq_getElem (by omega), e4]
theorem KD.free {xs : List PartD} {waits done : List Int} {i : Nat} {c : List Int} (h : KD xs waits done i c) : ∀ p (hp : p < done.length), ¬ Pl xs done[p].toNat done[p].toNat := by
  have step : ∀ a b, Pl xs a b → ∀ p (hp : p < done.length), done[p].toNat = a → ∃ p' : Nat, p' < p ∧ done[p']? = some (b : Int) := fun a b hab => by
    induction hab with
    | one he => intro p hp e; subst e; exact h.ord p hp _ he
    | more _ he ih =>
      intro p hp e
      obtain ⟨p', h1, h2⟩ := ih p hp e
      have hp' : p' < done.length := by omega
      rw [List.getElem?_eq_getElem hp'] at h2
      have h3 := Option.some.inj h2
      obtain ⟨p2, h4, h5⟩ := h.ord p' hp' _ (by rw [h3, Int.toNat_natCast]; exact he)
      exact ⟨p2, by omega, h5⟩
  intro p
  induction p using Nat.strongRecOn with
  | _ p ih =>
    intro hp hpl
    obtain ⟨p', h1, h2⟩ := step _ _ hpl p hp rfl
    have hp' : p' < done.length := by omega
    rw [List.getElem?_eq_getElem hp'] at h2
    have h3 := Option.some.inj h2
    refine ih p' h1 hp' ?_
    rw [h3, Int.toNat_natCast]
    exact hpl

theorem KD.path {xs : List PartD} {done : List Int} (nxt : ∀ x, x < xs.length → (x : Int) ∉ done → ∃ y, y < xs.length ∧ (y : Int) ∉ done ∧ Ed xs x y) {x : Nat} (hx : x < xs.length) (hxd : (x : Int) ∉ done) : ∀ m : Nat, (∃ i, Pl xs i i) ∨ ∃ (l : List Int) (a : Nat), l.length = m + 1 ∧ l.Nodup ∧ (∀ z ∈ l, ∃ k : Nat, z = (k : Int) ∧ k < xs.length) ∧ a < xs.length ∧ (a : Int) ∉ done ∧ (a : Int) ∈ l ∧ ∀ z ∈ l, z ≠ (a : Int) → Pl xs z.toNat a
  | 0 => .inr ⟨[(x : Int)], x, rfl, by simp, fun z hz => ⟨x, List.mem_singleton.1 hz, hx⟩, hx, hxd, List.mem_singleton.2 rfl, fun z hz hne => absurd (List.mem_singleton.1 hz) hne⟩
  | m + 1 => by
    rcases KD.path nxt hx hxd m with h | ⟨l, a, h1, h2, h3, h4, h5, h6, h7⟩
    · exact .inl h
    · obtain ⟨y, hy, hyd, he⟩ := nxt a h4 h5
      by_cases hm : (y : Int) ∈ l
      · by_cases e : y = a
        · subst e
          exact .inl ⟨y, .one he⟩
        · have := h7 _ hm (by omega)
          rw [Int.toNat_natCast] at this
          exact .inl ⟨y, .more this he⟩
      · refine .inr ⟨(y : Int) :: l, y, by simp [h1], List.nodup_cons.2 ⟨hm, h2⟩, fun z hz => ?_, hy, hyd, List.mem_cons_self .., fun z hz hne => ?_⟩
        · rcases List.mem_cons.1 hz with hz | hz
          · exact ⟨y, hz, hy⟩
          · exact h3 z hz
        · have hz2 := (List.mem_cons.1 hz).resolve_left hne
          by_cases e : z = (a : Int)
          · rw [e, Int.toNat_natCast]
            exact .one he
          · exact .more (h7 z hz2 e) he
theorem KD.fin {xs : List PartD} {waits done : List Int} (h : KD xs waits done done.length []) : circles14 xs = decide (done.length < xs.length) := by
  by_cases hl : done.length < xs.length
  · rw [decide_eq_true hl]
    have nxt : ∀ x, x < xs.length → (x : Int) ∉ done → ∃ y, y < xs.length ∧ (y : Int) ∉ done ∧ Ed xs x y := fun x hx hd => Classical.byContradiction fun hno => by
      have hall : ∀ z ∈ gs14 xs x, z ∈ done := fun z hz => Classical.byContradiction fun hzd => by
        obtain ⟨k, rfl, hk⟩ := gs14_in z hz
        exact hno ⟨k, hk, hzd, ed_gs.2 hz⟩
      have h1 := h.sum x hx
      rw [List.take_length] at h1
      have h2 := sumz_cover done (gs14 xs x) hall
      have h3 := sumz_le done (gs14 xs x) h.nod
      simp only [List.count_nil, Nat.add_zero] at h1
      exact hd ((h.zer x hx).2 (by omega))
    have ex : ∃ x, x < xs.length ∧ (x : Int) ∉ done := Classical.byContradiction fun hno => by
      have h1 := nodup_sub (ints14 xs.length) done (ints14_nodup _) (fun z hz => Classical.byContradiction fun hzd => by
        obtain ⟨k, rfl, hk⟩ := mem_ints14.1 hz
        exact hno ⟨k, hk, hzd⟩)
      rw [ints14_len] at h1
      omega
    obtain ⟨x, hx, hxd⟩ := ex
    rcases KD.path nxt hx hxd xs.length with ⟨i, hi⟩ | ⟨l, a, h1, h2, h3, _⟩
    · exact circles14_true hi
    · have := nodup_len14 h2 h3
      omega
  · rw [decide_eq_false hl]
    refine circles14_false fun i hi hp => ?_
    have hm : (i : Int) ∈ done := Classical.byContradiction fun hd => by
      have := nodup_len14 (l := (i : Int) :: done) (n := xs.length) (List.nodup_cons.2 ⟨hd, h.nod⟩) (fun z hz => by
        rcases List.mem_cons.1 hz with hz | hz
        · exact ⟨i, hz, hi⟩
        · exact h.inn z hz)
      simp only [List.length_cons] at this
      omega
    obtain ⟨p, hp2, e⟩ := List.getElem_of_mem hm
    refine h.free p hp2 ?_
    rw [e, Int.toNat_natCast]
    exact hp

end Go.Proofs.Ytpcfcheicdnogaa
