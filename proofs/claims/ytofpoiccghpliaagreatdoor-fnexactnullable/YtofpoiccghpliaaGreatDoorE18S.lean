/- Flags that are set by what stands there already, till nothing changes (pure): whoever sets only what may be set, and ends where no more may be, ends at the same flags. -/
/- What may begin, as the program has it: 257 flags a rule, of which the first one tells that it may be nothing (pure). -/
import Derived.Test.YtofpoiccghpliaaGreatDoorGGram
namespace Go.Proofs.YtofpoiccghpliaaGreatDoor
open Go.RowKit
set_option linter.unusedVariables false
/-- What was set stays set. -/
def SuF (m m' : List Bool) : Prop := ∀ j, m.getD j false = true → m'.getD j false = true
theorem SuF.refl (m : List Bool) : SuF m m := fun _ h => h
theorem SuF.trans {a b c : List Bool} (h : SuF a b) (k : SuF b c) : SuF a c := fun j hj => k j (h j hj)
theorem getD_suF (m : List Bool) (j i : Nat) (b : Bool) (hj : j < m.length) : (m.set j b).getD i false = if i = j then b else m.getD i false := by
  rw [List.getD_eq_getElem?_getD, List.getD_eq_getElem?_getD, List.getElem?_set]
  by_cases h : j = i
  · subst h; simp [hj]
  · rw [if_neg h, if_neg (fun e => h e.symm)]
theorem count_suF : ∀ (m m' : List Bool), m.length = m'.length → SuF m m' → m.count true ≤ m'.count true ∧ (m.count true = m'.count true → m = m')
  | [], [], _, _ => ⟨Nat.le_refl _, fun _ => rfl⟩
  | [], _ :: _, h, _ => by simp at h
  | _ :: _, [], h, _ => by simp at h
  | a :: m, b :: m', h, hs => by
    obtain ⟨h1, h2⟩ := count_suF m m' (by simpa using h) (fun j hj => by have := hs (j + 1); simpa using this (by simpa using hj))
    have h0 := hs 0
    cases a <;> cases b <;> simp at h0 ⊢
    · exact ⟨h1, fun e => h2 e⟩
    · exact ⟨by omega, fun e => by omega⟩
    · exact ⟨h1, fun e => h2 e⟩
theorem count_leF (m : List Bool) : m.count true ≤ m.length := List.count_le_length
section
variable {en : List Bool → Nat → Bool} {n : Nat}

/-- No more may be set. -/
def Clo (en : List Bool → Nat → Bool) (n : Nat) (c : List Bool) : Prop := ∀ i, i < n → en c i = true → c.getD i false = true
/-- More flags let more be set. -/
def Mon (en : List Bool → Nat → Bool) : Prop := ∀ m c i, SuF m c → en m i = true → en c i = true
/-- What is set is set wherever no more may be. -/
structure Sn (en : List Bool → Nat → Bool) (n : Nat) (m : List Bool) : Prop where
  len : m.length = n
  snd : ∀ i, m.getD i false = true → ∀ c : List Bool, c.length = n → Clo en n c → c.getD i false = true
def lfP (en : List Bool → Nat → Bool) (n i : Nat) : Prop := i < n ∧ ∀ c : List Bool, c.length = n → Clo en n c → c.getD i false = true
noncomputable def lfB (en : List Bool → Nat → Bool) (n i : Nat) : Bool := @decide (lfP en n i) (Classical.propDecidable _)
theorem lfB_iff {i : Nat} : lfB en n i = true ↔ lfP en n i := by unfold lfB; exact @decide_eq_true_iff _ (Classical.propDecidable _)
theorem Sn.sub {m c : List Bool} (h : Sn en n m) (hc : c.length = n) (hcl : Clo en n c) : SuF m c := fun i hi => h.snd i hi c hc hcl
theorem Sn.first : Sn en n (List.replicate n false) := ⟨by simp, fun i hi => by
  rw [List.getD_eq_getElem?_getD, List.getElem?_replicate] at hi
  split at hi <;> cases hi⟩
theorem Sn.set {m : List Bool} (hM : Mon en) (h : Sn en n m) {i : Nat} (hi : i < n) (he : en m i = true) : Sn en n (m.set i true) := by
  refine ⟨by rw [List.length_set]; exact h.len, fun q hq c hc hcl => ?_⟩
  rw [getD_suF m i q true (by rw [h.len]; exact hi)] at hq
  by_cases e : q = i
  · rw [e]
    exact hcl i hi (hM m c i (h.sub hc hcl) he)
  · rw [if_neg e] at hq
    exact h.snd q hq c hc hcl
theorem SuF.set {m : List Bool} {i : Nat} (hi : i < m.length) : SuF m (m.set i true) := fun q hq => by
  rw [getD_suF m i q true hi]
  split
  · rfl
  · exact hq
/-- Within a round: those ahead of i have been looked at. -/
structure RnI (en : List Bool → Nat → Bool) (n : Nat) (mR m : List Bool) (i : Nat) : Prop where
  sn : Sn en n m
  sub : SuF mR m
  met : ∀ q, q < i → en mR q = true → m.getD q false = true
theorem RnI.start {m : List Bool} (h : Sn en n m) : RnI en n m m 0 := ⟨h, SuF.refl m, fun q hq => absurd hq (Nat.not_lt_zero _)⟩
theorem RnI.keep {mR m : List Bool} {i : Nat} (h : RnI en n mR m i) (he : en mR i = true → m.getD i false = true) : RnI en n mR m (i + 1) :=
  ⟨h.sn, h.sub, fun q hq hq2 => by
    by_cases e : q = i
    · rw [e] at hq2 ⊢; exact he hq2
    · exact h.met q (by omega) hq2⟩
theorem RnI.more {mR m m' : List Bool} {i : Nat} (h : RnI en n mR m i) (hs : Sn en n m') (hm : SuF m m') : RnI en n mR m' i := ⟨hs, h.sub.trans hm, fun q hq he => hm q (h.met q hq he)⟩
/-- Behind t rounds. -/
structure RnT (en : List Bool → Nat → Bool) (n : Nat) (m : List Bool) (t : Nat) : Prop where
  sn : Sn en n m
  cnt : t ≤ m.count true ∨ Clo en n m
theorem RnT.start : RnT en n (List.replicate n false) 0 := ⟨Sn.first, .inl (Nat.zero_le _)⟩
theorem RnI.fin {mR m : List Bool} {t : Nat} (h : RnT en n mR t) (h' : RnI en n mR m n) : RnT en n m (t + 1) := by
  obtain ⟨hc1, hc2⟩ := count_suF mR m (by rw [h.sn.len, h'.sn.len]) h'.sub
  refine ⟨h'.sn, ?_⟩
  rcases h.cnt with h1 | h1
  · by_cases e : mR.count true = m.count true
    · have em := hc2 e
      refine .inr (fun i hi he => ?_)
      rw [← em] at he
      exact h'.met i hi he
    · exact .inl (by omega)
  · have em : mR = m := hc2 (by
      have h2 := (count_suF m mR (by rw [h.sn.len, h'.sn.len]) (h'.sn.sub h.sn.len h1)).1
      omega)
    exact .inr (by rw [← em]; exact h1)
theorem Sn.end {m : List Bool} (h : Sn en n m) (hc : Clo en n m) (q : Nat) : m.getD q false = lfB en n q := by
  rw [Bool.eq_iff_iff, lfB_iff]
  constructor
  · intro hq
    refine ⟨?_, h.snd q hq⟩
    by_cases e : q < n
    · exact e
    · rw [List.getD_eq_getElem?_getD, List.getElem?_eq_none (by rw [h.len]; omega)] at hq
      cases hq
  · exact fun hq => hq.2 m h.len hc
theorem RnT.fin {m : List Bool} (h : RnT en n m (n + 1)) (q : Nat) : m.getD q false = lfB en n q := by
  rcases h.cnt with h1 | h1
  · have := count_leF m
    have := h.sn.len
    omega
  · exact h.sn.end h1 q
end
/-! ### rules that may take nothing -/
def symN (g : List RuleD) (m : List Bool) (y : SymD) : Bool := decide (y.kind = 4) || (decide (y.kind = 3) && m.getD (ruleAtI g y.text).toNat false)
def altN (g : List RuleD) (m : List Bool) (a : List SymD) : Bool := a.all (symN g m)
def nulE (g : List RuleD) (m : List Bool) (i : Nat) : Bool := (g.getD i default).alts.any (altN g m)
theorem symN_mon {g : List RuleD} {m c : List Bool} (h : SuF m c) {y : SymD} (hy : symN g m y = true) : symN g c y = true := by
  unfold symN at hy ⊢
  rw [Bool.or_eq_true, Bool.and_eq_true] at hy ⊢
  exact hy.imp_right (fun hh => ⟨hh.1, h _ hh.2⟩)
theorem altN_mon {g : List RuleD} {m c : List Bool} (h : SuF m c) {a : List SymD} (ha : altN g m a = true) : altN g c a = true := List.all_eq_true.2 fun y hy => symN_mon h (List.all_eq_true.1 ha y hy)
theorem nulE_mon (g : List RuleD) : Mon (nulE g) := fun m c i h he => by
  obtain ⟨a, ha, he⟩ := List.any_eq_true.1 he
  exact List.any_eq_true.2 ⟨a, ha, altN_mon h he⟩
/-- Within a rule: its Alts ahead of k have been looked at. -/
structure RnK (g : List RuleD) (mR m : List Bool) (i k : Nat) : Prop where
  rn : RnI (nulE g) g.length mR m i
  met : ∀ q, q < k → ∀ hq : q < (g.getD i default).alts.length, altN g mR (g.getD i default).alts[q] = true → m.getD i false = true
theorem RnK.start {g : List RuleD} {mR m : List Bool} {i : Nat} (h : RnI (nulE g) g.length mR m i) : RnK g mR m i 0 := ⟨h, fun q hq => absurd hq (Nat.not_lt_zero _)⟩
theorem RnK.fin {g : List RuleD} {mR m : List Bool} {i : Nat} (h : RnK g mR m i (g.getD i default).alts.length) : RnI (nulE g) g.length mR m (i + 1) :=
  h.rn.keep fun he => by
    obtain ⟨a, ha, he⟩ := List.any_eq_true.1 he
    obtain ⟨q, hq, rfl⟩ := List.getElem_of_mem ha
    exact h.met q hq hq he
/-- An Alt is looked at: its rule's flag is set where it may take nothing. -/
theorem RnK.next {g : List RuleD} {mR m : List Bool} {i k : Nat} (h : RnK g mR m i k) (hi : i < g.length) (hk : k < (g.getD i default).alts.length) : RnK g mR (m.set i (m.getD i false || altN g m (g.getD i default).alts[k])) i (k + 1) := by
  have hlen := h.rn.sn.len
  have hme : ∀ b : Bool, m.getD i false = b → m.set i b = m := fun b hb => by
    apply List.ext_getElem
    · simp
    · intro q h1 h2
      rw [List.getElem_set]
      split
      · rename_i e
        subst e
        rw [← hb, List.getD_eq_getElem?_getD, List.getElem?_eq_getElem h2]
        rfl
      · rfl
  cases hm : m.getD i false with
  | true =>
    rw [Bool.true_or, hme true hm]
    exact ⟨h.rn, fun q _ _ _ => hm⟩
  | false =>
    rw [Bool.false_or]
    cases ha : altN g m (g.getD i default).alts[k] with
    | false =>
      rw [hme false hm]
      refine ⟨h.rn, fun q hq hq2 he => ?_⟩
      by_cases e : q = k
      · subst e
        have h2 := altN_mon h.rn.sub he
        rw [ha] at h2
        cases h2
      · exact h.met q (by omega) hq2 he
    | true =>
      have hE : nulE g m i = true := List.any_eq_true.2 ⟨_, List.getElem_mem hk, ha⟩
      exact ⟨h.rn.more (h.rn.sn.set (nulE_mon g) hi hE) (SuF.set (by rw [hlen]; exact hi)), fun q _ _ _ => by rw [getD_suF m i i true (by rw [hlen]; exact hi), if_pos rfl]⟩
/-- The names of rules that may take nothing. -/
noncomputable def nullTo (g : List RuleD) (k : Nat) : List ByteArray := ((List.range k).filter fun i => lfB (nulE g) g.length i).map fun i => (g.getD i default).name
noncomputable def nullB (g : List RuleD) : List ByteArray := if gramB g = true then nullTo g g.length else []
theorem nullTo_next (g : List RuleD) (k : Nat) : nullTo g (k + 1) = if lfB (nulE g) g.length k = true then nullTo g k ++ [(g.getD k default).name] else nullTo g k := by
  unfold nullTo
  rw [List.range_succ, List.filter_append, List.map_append]
  by_cases h : lfB (nulE g) g.length k = true
  · rw [if_pos h]; simp [h]
  · rw [if_neg h]; simp [h]
theorem nullTo_len (g : List RuleD) (k : Nat) : (nullTo g k).length ≤ k := by
  unfold nullTo
  rw [List.length_map]
  exact Nat.le_trans (List.length_filter_le ..) (by rw [List.length_range]; exact Nat.le_refl _)
end Go.Proofs.YtofpoiccghpliaaGreatDoor

namespace Go.Proofs.YtofpoiccghpliaaGreatDoor
open Go.RowKit
set_option linter.unusedVariables false
/-- One rule's flags. -/
def chk (F : List Bool) (i : Nat) : List Bool := (F.drop (257 * i)).take 257
/-- One rule's flags put in anew. -/
def putK (F : List Bool) (i : Nat) (c : List Bool) : List Bool := F.take (257 * i) ++ c ++ F.drop (257 * i + c.length)
/-- Of each rule whether it may be nothing. -/
def heads (F : List Bool) (n : Nat) : List Bool := (List.range n).map fun i => F.getD (257 * i) false
/-- Both sets joined. -/
def orL (a b : List Bool) : List Bool := List.zipWith (fun x y => x || y) a b
theorem orL_len {a b : List Bool} (h : a.length = b.length) : (orL a b).length = a.length := by simp [orL, h]
theorem orL_getD {a b : List Bool} (h : a.length = b.length) (j : Nat) : (orL a b).getD j false = (a.getD j false || b.getD j false) := by
  unfold orL
  rw [List.getD_eq_getElem?_getD, List.getD_eq_getElem?_getD, List.getD_eq_getElem?_getD, List.getElem?_zipWith]
  by_cases hj : j < a.length
  · rw [List.getElem?_eq_getElem hj, List.getElem?_eq_getElem (by omega)]; rfl
  · rw [List.getElem?_eq_none (by omega), List.getElem?_eq_none (by omega)]; rfl
theorem heads_len (F : List Bool) (n : Nat) : (heads F n).length = n := by simp [heads]
theorem heads_getD {F : List Bool} {n i : Nat} (hi : i < n) : (heads F n).getD i false = F.getD (257 * i) false := by
  unfold heads
  rw [List.getD_eq_getElem?_getD, List.getElem?_map, List.getElem?_range hi]
  rfl
theorem chk_len {F : List Bool} {n i : Nat} (h : F.length = 257 * n) (hi : i < n) : (chk F i).length = 257 := by
  unfold chk
  rw [List.length_take, List.length_drop, h]
  omega
theorem chk_getD {F : List Bool} {i j : Nat} (hj : j < 257) : (chk F i).getD j false = F.getD (257 * i + j) false := by
  unfold chk
  rw [List.getD_eq_getElem?_getD, List.getElem?_take, if_pos hj, List.getElem?_drop, ← List.getD_eq_getElem?_getD]
theorem putK_len {F c : List Bool} {n i : Nat} (h : F.length = 257 * n) (hi : i < n) (hc : c.length = 257) : (putK F i c).length = 257 * n := by
  unfold putK
  rw [List.length_append, List.length_append, List.length_take, List.length_drop, h, hc]
  omega
theorem putK_getD {F c : List Bool} {n i : Nat} (h : F.length = 257 * n) (hi : i < n) (hc : c.length = 257) (j : Nat) :
    (putK F i c).getD j false = if 257 * i ≤ j ∧ j < 257 * i + 257 then c.getD (j - 257 * i) false else F.getD j false := by
  unfold putK
  rw [List.getD_eq_getElem?_getD, List.append_assoc]
  have hl : (F.take (257 * i)).length = 257 * i := by rw [List.length_take, h]; omega
  by_cases h1 : j < 257 * i
  · rw [List.getElem?_append_left (by omega), if_neg (by omega), List.getElem?_take, if_pos h1, ← List.getD_eq_getElem?_getD]
  · rw [List.getElem?_append_right (by omega), hl]
    by_cases h2 : j < 257 * i + 257
    · rw [List.getElem?_append_left (by omega), if_pos ⟨by omega, h2⟩, ← List.getD_eq_getElem?_getD]
    · rw [List.getElem?_append_right (by omega), if_neg (by omega), List.getElem?_drop, hc, ← List.getD_eq_getElem?_getD, show 257 * i + 257 + (j - 257 * i - 257) = j from by omega]
theorem ext_getD {a b : List Bool} (h : a.length = b.length) (hg : ∀ j, j < a.length → a.getD j false = b.getD j false) : a = b := by
  apply List.ext_getElem h
  intro j h1 h2
  have := hg j h1
  rw [List.getD_eq_getElem?_getD, List.getD_eq_getElem?_getD, List.getElem?_eq_getElem h1, List.getElem?_eq_getElem h2] at this
  exact this
/-- A rule's flags joined with others. -/
def stepK (F : List Bool) (i : Nat) (c : List Bool) : List Bool := putK F i (orL (chk F i) c)
section
variable {F c : List Bool} {n i : Nat}
theorem stepK_len (h : F.length = 257 * n) (hi : i < n) (hc : c.length = 257) : (stepK F i c).length = 257 * n := putK_len h hi (by rw [orL_len (by rw [chk_len h hi, hc]), chk_len h hi])
theorem stepK_getD (h : F.length = 257 * n) (hi : i < n) (hc : c.length = 257) (j : Nat) : (stepK F i c).getD j false = if 257 * i ≤ j ∧ j < 257 * i + 257 then (F.getD j false || c.getD (j - 257 * i) false) else F.getD j false := by
  have hk := chk_len h hi
  unfold stepK
  rw [putK_getD h hi (by rw [orL_len (by omega), hk])]
  by_cases e : 257 * i ≤ j ∧ j < 257 * i + 257
  · rw [if_pos e, if_pos e, orL_getD (by omega), chk_getD (by omega)]
    congr 2
    omega
  · rw [if_neg e, if_neg e]
theorem stepK_suF (h : F.length = 257 * n) (hi : i < n) (hc : c.length = 257) : SuF F (stepK F i c) := fun j hj => by
  rw [stepK_getD h hi hc]
  split
  · rw [hj]; rfl
  · exact hj
theorem stepK_heads (h : F.length = 257 * n) (hi : i < n) (hc : c.length = 257) : heads (stepK F i c) n = (heads F n).set i ((heads F n).getD i false || c.getD 0 false) := by
  apply ext_getD
  · simp [heads_len]
  · intro j hj
    rw [heads_len] at hj
    rw [heads_getD hj, stepK_getD h hi hc, getD_suF _ _ _ _ (by rw [heads_len]; exact hi), heads_getD hi]
    by_cases e : j = i
    · subst e
      rw [if_pos ⟨by omega, by omega⟩, if_pos rfl, Nat.sub_self]
    · rw [if_neg (by omega), if_neg e, heads_getD hj]
/-- Nothing is turned just when the rule's flags are as they were. -/
theorem stepK_same (h : F.length = 257 * n) (hi : i < n) (hc : c.length = 257) : stepK F i c = F ↔ orL (chk F i) c = chk F i := by
  have hk := chk_len h hi
  constructor
  · intro e
    apply ext_getD (by rw [orL_len (by omega)])
    intro j hj
    rw [orL_len (by omega), hk] at hj
    have := stepK_getD h hi hc (257 * i + j)
    rw [e, if_pos ⟨by omega, by omega⟩, show 257 * i + j - 257 * i = j from by omega] at this
    rw [orL_getD (by omega), chk_getD hj]
    exact this.symm
  · intro e
    apply ext_getD (by rw [stepK_len h hi hc, h])
    intro j hj
    rw [stepK_getD h hi hc]
    split
    · rename_i hq
      have := congrArg (fun l => l.getD (j - 257 * i) false) e
      change (orL (chk F i) c).getD (j - 257 * i) false = (chk F i).getD (j - 257 * i) false at this
      rw [orL_getD (by omega), chk_getD (by omega), show 257 * i + (j - 257 * i) = j from by omega] at this
      exact this
    · rfl
end
/-- One rule's flags as they are held against others. -/
theorem heads_first (n : Nat) : heads (List.replicate (257 * n) false) n = List.replicate n false := by
  apply ext_getD
  · simp [heads_len]
  · intro j hj
    rw [heads_len] at hj
    rw [heads_getD hj, List.getD_eq_getElem?_getD, List.getElem?_replicate, List.getD_eq_getElem?_getD, List.getElem?_replicate, if_pos hj, if_pos (by omega)]
/-- Within a pass: F0 as it began; the Alts ahead of k of rule i, and all of the rules ahead, have been looked at. -/
structure PsK (g : List RuleD) (F0 F : List Bool) (ch : Bool) (i k : Nat) : Prop where
  len0 : F0.length = 257 * g.length
  len : F.length = 257 * g.length
  sub : SuF F0 F
  same : ch = false → F = F0
  up : ch = true → F0.count true < F.count true
  rn : RnK g (heads F0 g.length) (heads F g.length) i k
/-- Within a pass, between rules. -/
structure PsI (g : List RuleD) (F0 F : List Bool) (ch : Bool) (i : Nat) : Prop where
  len0 : F0.length = 257 * g.length
  len : F.length = 257 * g.length
  sub : SuF F0 F
  same : ch = false → F = F0
  up : ch = true → F0.count true < F.count true
  rn : RnI (nulE g) g.length (heads F0 g.length) (heads F g.length) i
/-- Between passes. -/
structure PsT (g : List RuleD) (F : List Bool) (ch : Bool) : Prop where
  len : F.length = 257 * g.length
  sn : Sn (nulE g) g.length (heads F g.length)
  clo : ch = false → Clo (nulE g) g.length (heads F g.length)
theorem PsT.start (g : List RuleD) : PsT g (List.replicate (257 * g.length) false) true := ⟨by simp, by rw [heads_first]; exact Sn.first, (fun hh => by cases hh)⟩
theorem PsT.pass {g : List RuleD} {F : List Bool} {ch : Bool} (h : PsT g F ch) : PsI g F F false 0 := ⟨h.len, h.len, SuF.refl F, fun _ => rfl, (fun hh => by cases hh), RnI.start h.sn⟩
theorem PsI.rule {g : List RuleD} {F0 F : List Bool} {ch : Bool} {i : Nat} (h : PsI g F0 F ch i) : PsK g F0 F ch i 0 := ⟨h.len0, h.len, h.sub, h.same, h.up, RnK.start h.rn⟩
theorem PsK.fin {g : List RuleD} {F0 F : List Bool} {ch : Bool} {i : Nat} (h : PsK g F0 F ch i (g.getD i default).alts.length) : PsI g F0 F ch (i + 1) := ⟨h.len0, h.len, h.sub, h.same, h.up, RnK.fin h.rn⟩
theorem PsI.fin {g : List RuleD} {F0 F : List Bool} {ch : Bool} (h : PsI g F0 F ch g.length) : PsT g F ch := ⟨h.len, h.rn.sn, fun hc i hi he => by
  have e := h.same hc
  rw [e] at he
  exact h.rn.met i hi he⟩
/-- How much is left to do. -/
def left18 (g : List RuleD) (F : List Bool) (ch : Bool) : Nat := 2 * (257 * g.length - F.count true) + ch.toNat
theorem PsI.less {g : List RuleD} {F0 F : List Bool} {ch : Bool} (h : PsI g F0 F ch g.length) : left18 g F ch < left18 g F0 true := by
  have h1 := count_leF F
  rw [h.len] at h1
  unfold left18
  cases hc : ch with
  | false =>
    rw [h.same hc]
    show _ + 0 < _ + 1
    omega
  | true =>
    have := h.up hc
    show _ + 1 < _ + 1
    omega
/-- An Alt is looked at. -/
theorem PsK.next {g : List RuleD} {F0 F : List Bool} {ch : Bool} {i k : Nat} (h : PsK g F0 F ch i k) (hi : i < g.length) (hk : k < (g.getD i default).alts.length) {c : List Bool} (hc : c.length = 257)
    (h0 : c.getD 0 false = altN g (heads F g.length) (g.getD i default).alts[k]) : PsK g F0 (stepK F i c) (ch || !(orL (chk F i) c == chk F i)) i (k + 1) := by
  have hl := stepK_len h.len hi hc
  have hs := stepK_suF h.len hi hc
  have hq := count_suF F (stepK F i c) (by rw [hl, h.len]) hs
  have h00 := count_suF F0 F (by rw [h.len0, h.len]) h.sub
  refine ⟨h.len0, hl, h.sub.trans hs, fun hh => ?_, fun hh => ?_, ?_⟩
  · rw [Bool.or_eq_false_iff, Bool.not_eq_false', beq_iff_eq] at hh
    rw [(stepK_same h.len hi hc).2 hh.2, h.same hh.1]
  · rw [Bool.or_eq_true, Bool.not_eq_true', beq_eq_false_iff_ne] at hh
    rcases hh with hh | hh
    · have := h.up hh; omega
    · by_cases e : F.count true = (stepK F i c).count true
      · exact absurd ((stepK_same h.len hi hc).1 (hq.2 e).symm) hh
      · omega
  · rw [stepK_heads h.len hi hc, h0]
    exact h.rn.next hi hk
theorem PsT.fin {g : List RuleD} {F : List Bool} (h : PsT g F false) {q : Nat} (hq : q < g.length) : F.getD (257 * q) false = lfB (nulE g) g.length q := by
  rw [← heads_getD hq]
  exact h.sn.end (h.clo rfl) q
end Go.Proofs.YtofpoiccghpliaaGreatDoor
