/- How often the whole comes to each node, and how many that are in all: the plain mathematics. -/
import Derived.Test.YtokgkjfgknjbbaaDoorXSize
namespace Go.Proofs.YtokgkjfgknjbbaaDoor
open Go.RowKit

/-! ### how great, with no lid -/
def sizesU (ns : List NodeD) : List Int := ns.foldl (fun sz x => sz ++ [sumK sz x.kids]) []
theorem sizesU_next (ns : List NodeD) (k : Nat) (h : k < ns.length) : sizesU (ns.take (k + 1)) = sizesU (ns.take k) ++ [sumK (sizesU (ns.take k)) ns[k].kids] := by
  rw [List.take_succ_eq_append_getElem h, sizesU, List.foldl_append]
  rfl
theorem sizesU_len (ns : List NodeD) : ∀ k, k ≤ ns.length → (sizesU (ns.take k)).length = k
  | 0, _ => rfl
  | k + 1, h => by rw [sizesU_next ns k (by omega), List.length_append, sizesU_len ns k (by omega)]; rfl
theorem sumK_sum (sz ks : List Int) : sumK sz ks = 1 + (ks.map fun k => sz.getD k.toNat 0).sum := by
  have : ∀ (l : List Int) (a : Int), l.foldl (fun n k => n + sz.getD k.toNat 0) a = a + (l.map fun k => sz.getD k.toNat 0).sum := by
    intro l
    induction l with
    | nil => intro a; simp
    | cons x l ih => intro a; rw [List.foldl_cons, ih, List.map_cons, List.sum_cons]; omega
  exact this ks 1
theorem getD_app_lt {l m : List Int} {i : Nat} (h : i < l.length) : (l ++ m).getD i 0 = l.getD i 0 := by
  rw [List.getD_eq_getElem?_getD, List.getD_eq_getElem?_getD, List.getElem?_append_left h]
theorem sizesU_pre (ns : List NodeD) (j : Nat) : ∀ k, j < k → k ≤ ns.length → (sizesU (ns.take k)).getD j 0 = (sizesU (ns.take (j + 1))).getD j 0
  | 0, h, _ => by omega
  | k + 1, h, hk => by
    by_cases e : j = k
    · subst e; rfl
    · rw [sizesU_next ns k (by omega), getD_app_lt (by rw [sizesU_len ns k (by omega)]; omega), sizesU_pre ns j k (by omega) (by omega)]
theorem sizesF_pre (ns : List NodeD) (j : Nat) : ∀ k, j < k → k ≤ ns.length → (sizesF (ns.take k)).getD j 0 = (sizesF (ns.take (j + 1))).getD j 0
  | 0, h, _ => by omega
  | k + 1, h, hk => by
    by_cases e : j = k
    · subst e; rfl
    · rw [sizesF_next ns k (by omega), getD_app_lt (by rw [sizesF_len ns k (by omega)]; omega), sizesF_pre ns j k (by omega) (by omega)]
/-- How great the node at i is. -/
def sz (ns : List NodeD) (i : Nat) : Int := (sizesU ns).getD i 0
def szC (ns : List NodeD) (i : Nat) : Int := (sizesF ns).getD i 0
theorem getD_last (l : List Int) (x : Int) {i : Nat} (h : i = l.length) : (l ++ [x]).getD i 0 = x := by
  subst h
  rw [List.getD_eq_getElem?_getD, List.getElem?_append_right (Nat.le_refl _)]
  simp
theorem sz_eq {ns : List NodeD} (hn : ∀ k (hk : k < ns.length), nodeB k ns[k] = true) (i : Nat) (hi : i < ns.length) : sz ns i = 1 + (ns[i].kids.map fun k => sz ns k.toNat).sum := by
  have h0 := sizesU_pre ns i ns.length hi (Nat.le_refl _)
  rw [List.take_of_length_le (Nat.le_refl _)] at h0
  rw [sz, h0, sizesU_next ns i hi, getD_last _ _ (sizesU_len ns i (by omega)).symm, sumK_sum]
  congr 2
  apply List.map_congr_left
  intro k hk
  have hk2 := (node_parts (hn i hi)).2.2.2 k hk
  have h1 := sizesU_pre ns k.toNat ns.length (by omega) (Nat.le_refl _)
  rw [List.take_of_length_le (Nat.le_refl _)] at h1
  rw [sz, h1, ← sizesU_pre ns k.toNat i (by omega) (by omega)]
theorem szC_eq {ns : List NodeD} (hn : ∀ k (hk : k < ns.length), nodeB k ns[k] = true) (i : Nat) (hi : i < ns.length) : szC ns i = capI (1 + (ns[i].kids.map fun k => szC ns k.toNat).sum) := by
  have h0 := sizesF_pre ns i ns.length hi (Nat.le_refl _)
  rw [List.take_of_length_le (Nat.le_refl _)] at h0
  rw [szC, h0, sizesF_next ns i hi, getD_last _ _ (sizesF_len ns i (by omega)).symm, sumK_sum]
  congr 3
  apply List.map_congr_left
  intro k hk
  have hk2 := (node_parts (hn i hi)).2.2.2 k hk
  have h1 := sizesF_pre ns k.toNat ns.length (by omega) (Nat.le_refl _)
  rw [List.take_of_length_le (Nat.le_refl _)] at h1
  rw [szC, h1, ← sizesF_pre ns k.toNat i (by omega) (by omega)]
theorem sum_pos {α : Type} (l : List α) (f : α → Int) (h : ∀ x ∈ l, 0 ≤ f x) : 0 ≤ (l.map f).sum := by
  induction l with
  | nil => simp
  | cons x l ih =>
    rw [List.map_cons, List.sum_cons]
    have := h x (List.mem_cons_self ..)
    have := ih fun y hy => h y (List.mem_cons_of_mem _ hy)
    omega
theorem sz_pos {ns : List NodeD} (hn : ∀ k (hk : k < ns.length), nodeB k ns[k] = true) : ∀ i, i < ns.length → 1 ≤ sz ns i := by
  intro i
  induction i using Nat.strongRecOn with
  | ind i ih =>
    intro hi
    rw [sz_eq hn i hi]
    have := sum_pos ns[i].kids (fun k => sz ns k.toNat) (fun k hk => by
      have := (node_parts (hn i hi)).2.2.2 k hk
      have := ih k.toNat (by omega) (by omega)
      omega)
    omega
theorem cap_sum {α : Type} (l : List α) (f : α → Int) (h : ∀ x ∈ l, 0 ≤ f x) : ∀ a : Int, 0 ≤ a → capI (a + (l.map fun x => capI (f x)).sum) = capI (a + (l.map f).sum) := by
  induction l with
  | nil => intro a _; rfl
  | cons x l ih =>
    intro a ha
    have hx := h x (List.mem_cons_self ..)
    have hl := sum_pos l f (fun y hy => h y (List.mem_cons_of_mem _ hy))
    have hc : 0 ≤ capI (f x) := by unfold capI; split <;> omega
    have := ih (fun y hy => h y (List.mem_cons_of_mem _ hy)) (a + capI (f x)) (by omega)
    rw [List.map_cons, List.sum_cons, List.map_cons, List.sum_cons, ← Int.add_assoc, this]
    unfold capI
    split <;> split <;> split <;> omega
theorem szC_cap {ns : List NodeD} (hn : ∀ k (hk : k < ns.length), nodeB k ns[k] = true) : ∀ i, i < ns.length → szC ns i = capI (sz ns i) := by
  intro i
  induction i using Nat.strongRecOn with
  | ind i ih =>
    intro hi
    rw [szC_eq hn i hi, sz_eq hn i hi]
    have e : (ns[i].kids.map fun k => szC ns k.toNat) = ns[i].kids.map fun k => capI (sz ns k.toNat) := by
      apply List.map_congr_left
      intro k hk
      have := (node_parts (hn i hi)).2.2.2 k hk
      exact ih k.toNat (by omega) (by omega)
    rw [e]
    exact cap_sum ns[i].kids (fun k => sz ns k.toNat) (fun k hk => by
      have := (node_parts (hn i hi)).2.2.2 k hk
      have := sz_pos hn k.toNat (by omega)
      omega) 1 (by omega)
theorem sizeB_sz {ns : List NodeD} (h : exprB ns = true) : sizeB ns ≤ 200 ↔ sz ns (ns.length - 1) ≤ 200 := by
  obtain ⟨hl, hn⟩ := exprB_at h
  have e : sizeB ns = szC ns (ns.length - 1) := rfl
  rw [e, szC_cap hn _ (by omega)]
  unfold capI
  split <;> omega

/-! ### how often -/
def addAt (ts : List Int) (k : Nat) (t : Int) : List Int := ts.set k (ts.getD k 0 + t)
def comeK (ks : List Int) (t : Int) (ts : List Int) : List Int := ks.foldl (fun ts k => addAt ts k.toNat t) ts
def kidsAt (ns : List NodeD) (m : Nat) : List Int := match ns[m]? with | some x => x.kids | none => []
/-- What is left to do from the place m - 1 down. -/
def timesF (ns : List NodeD) : Nat → List Int → List Int
  | 0, ts => ts
  | m + 1, ts => timesF ns m (comeK (kidsAt ns m) (ts.getD m 0) ts)
def times0 (n : Nat) : List Int := (List.replicate n 0).set (n - 1) 1
def timesB (ns : List NodeD) : List Int := timesF ns ns.length (times0 ns.length)

theorem addAt_len (ts : List Int) (k : Nat) (t : Int) : (addAt ts k t).length = ts.length := by rw [addAt, List.length_set]
theorem comeK_len (ks : List Int) (t : Int) : ∀ ts, (comeK ks t ts).length = ts.length := by
  induction ks with
  | nil => intro ts; rfl
  | cons k ks ih => intro ts; rw [comeK, List.foldl_cons]; exact (ih _).trans (addAt_len ..)
theorem kidsAt_eq {ns : List NodeD} {m : Nat} (h : m < ns.length) : kidsAt ns m = ns[m].kids := by rw [kidsAt, List.getElem?_eq_getElem h]
theorem getD_set_eq (l : List Int) (k : Nat) (x : Int) (h : k < l.length) : (l.set k x).getD k 0 = x := by
  rw [List.getD_eq_getElem?_getD, List.getElem?_set_self h]; rfl
theorem getD_set_ne (l : List Int) (k i : Nat) (x : Int) (h : k ≠ i) : (l.set k x).getD i 0 = l.getD i 0 := by
  rw [List.getD_eq_getElem?_getD, List.getD_eq_getElem?_getD, List.getElem?_set_ne h]
def cnt (ks : List Int) (i : Nat) : Nat := ks.countP fun k => k.toNat == i
theorem cnt_cons (k : Int) (ks : List Int) (i : Nat) : cnt (k :: ks) i = cnt ks i + if k.toNat = i then 1 else 0 := by
  rw [cnt, List.countP_cons]
  simp [cnt]
theorem comeK_get (t : Int) (i : Nat) : ∀ (ks : List Int) (ts : List Int), i < ts.length → (comeK ks t ts).getD i 0 = ts.getD i 0 + t * (cnt ks i : Int)
  | [], ts, _ => by show ts.getD i 0 = _; simp [cnt]
  | k :: ks, ts, h => by
    show (comeK ks t (addAt ts k.toNat t)).getD i 0 = _
    rw [comeK_get t i ks _ (by rw [addAt_len]; exact h), cnt_cons]
    by_cases e : k.toNat = i
    · rw [if_pos e, addAt, e, getD_set_eq _ _ _ h]
      push_cast
      rw [Int.mul_add]
      omega
    · rw [if_neg e, addAt, getD_set_ne _ _ _ _ e, Nat.add_zero]
theorem cnt_zero {ks : List Int} {i : Nat} (h : ∀ k ∈ ks, k.toNat ≠ i) : cnt ks i = 0 := by
  rw [cnt, List.countP_eq_zero]
  intro k hk
  simpa using h k hk
theorem cnt_pos {ks : List Int} {k : Int} (h : k ∈ ks) : 1 ≤ cnt ks k.toNat := by
  rw [cnt]
  exact List.countP_pos_iff.2 ⟨k, h, by simp⟩
theorem cnt_mem {ks : List Int} {i : Nat} (h : cnt ks i ≠ 0) : ∃ k ∈ ks, k.toNat = i := by
  have : 0 < cnt ks i := by omega
  obtain ⟨k, hk, he⟩ := List.countP_pos_iff.1 this
  exact ⟨k, hk, by simpa using he⟩

/-! sums with weights -/
def wsum (g : Nat → Int) : Nat → List Int → Int
  | _, [] => 0
  | i, t :: ts => t * g i + wsum g (i + 1) ts
theorem wsum_set (g : Nat → Int) (x : Int) : ∀ (ts : List Int) (i k : Nat), k < ts.length → wsum g i (ts.set k x) = wsum g i ts + (x - ts.getD k 0) * g (i + k)
  | [], _, _, h => by simp at h
  | t :: ts, i, 0, _ => by
    show x * g i + _ = t * g i + _ + (x - t) * g i
    rw [Int.sub_mul]
    omega
  | t :: ts, i, k + 1, h => by
    show t * g i + wsum g (i + 1) (ts.set k x) = t * g i + wsum g (i + 1) ts + (x - ts.getD k 0) * g (i + (k + 1))
    rw [wsum_set g x ts (i + 1) k (by simpa using h), show i + 1 + k = i + (k + 1) by omega]
    omega
theorem wsum_add (g : Nat → Int) (ts : List Int) (k : Nat) (t : Int) (h : k < ts.length) : wsum g 0 (addAt ts k t) = wsum g 0 ts + t * g k := by
  rw [addAt, wsum_set g _ ts 0 k h, Nat.zero_add]
  congr 2
  omega
theorem wsum_come (g : Nat → Int) (t : Int) : ∀ (ks ts : List Int), (∀ k ∈ ks, k.toNat < ts.length) → wsum g 0 (comeK ks t ts) = wsum g 0 ts + t * (ks.map fun k => g k.toNat).sum
  | [], ts, _ => by show wsum g 0 ts = _; simp
  | k :: ks, ts, h => by
    show wsum g 0 (comeK ks t (addAt ts k.toNat t)) = _
    rw [wsum_come g t ks _ (fun j hj => by rw [addAt_len]; exact h j (List.mem_cons_of_mem _ hj)), wsum_add _ _ _ _ (h k (List.mem_cons_self ..)), List.map_cons, List.sum_cons, Int.mul_add]
    omega
theorem wsum_turn {g h : Nat → Int} (m : Nat) (hne : ∀ j, j ≠ m → g j = h j) : ∀ (ts : List Int) (i : Nat), wsum g i ts = wsum h i ts + (if i ≤ m then ts.getD (m - i) 0 * (g m - h m) else 0)
  | [], i => by simp [wsum]
  | t :: ts, i => by
    show t * g i + wsum g (i + 1) ts = t * h i + wsum h (i + 1) ts + _
    rw [wsum_turn m hne ts (i + 1)]
    by_cases e : i = m
    · subst e
      rw [if_neg (by omega), if_pos (Nat.le_refl _), Nat.sub_self]
      show _ = _ + t * (g i - h i)
      rw [Int.mul_sub]
      omega
    · rw [hne i e]
      by_cases l : i ≤ m
      · rw [if_pos (by omega), if_pos l, show m - i = (m - (i + 1)) + 1 by omega]
        show _ = _ + ts.getD (m - (i + 1)) 0 * _
        omega
      · rw [if_neg (by omega), if_neg l]
        omega
theorem wsum_ge {g : Nat → Int} : ∀ (ts : List Int) (i : Nat), (∀ x ∈ ts, 0 ≤ x) → (∀ j, i ≤ j → j < i + ts.length → 1 ≤ g j) → ts.sum ≤ wsum g i ts
  | [], i, _, _ => by simp [wsum]
  | t :: ts, i, h0, h1 => by
    have hi := h1 i (Nat.le_refl _) (by simp)
    have ht := h0 t (List.mem_cons_self ..)
    have ih := wsum_ge ts (i + 1) (fun x hx => h0 x (List.mem_cons_of_mem _ hx)) (fun j hj hj2 => h1 j (by omega) (by rw [List.length_cons]; omega))
    show _ ≤ t * g i + _
    rw [List.sum_cons]
    have := Int.mul_le_mul_of_nonneg_left hi ht
    omega
theorem wsum_one : ∀ (ts : List Int) (i : Nat), wsum (fun _ => 1) i ts = ts.sum
  | [], _ => rfl
  | t :: ts, i => by show t * 1 + _ = _; rw [wsum_one ts (i + 1), List.sum_cons]; omega

def wt (ns : List NodeD) (m j : Nat) : Int := if j < m then sz ns j else 1
/-- What holds when the nodes from m on are done. -/
structure Come (ns : List NodeD) (m : Nat) (ts : List Int) : Prop where
  len : ts.length = ns.length
  pos : ∀ i, 0 ≤ ts.getD i 0
  top : ts.getD (ns.length - 1) 0 ≠ 0
  down : ∀ p, m ≤ p → (hp : p < ns.length) → ts.getD p 0 ≠ 0 → ∀ k ∈ ns[p].kids, ts.getD k.toNat 0 ≠ 0
  up : ∀ i, i < ns.length - 1 → ts.getD i 0 ≠ 0 → ∃ p, ∃ hp : p < ns.length, m ≤ p ∧ i < p ∧ ts.getD p 0 ≠ 0 ∧ (i : Int) ∈ ns[p].kids
  all : wsum (wt ns m) 0 ts = sz ns (ns.length - 1)
theorem come_step {ns : List NodeD} (hn : ∀ k (hk : k < ns.length), nodeB k ns[k] = true) {m : Nat} (hm : m < ns.length) {ts : List Int} (h : Come ns (m + 1) ts) : Come ns m (comeK (kidsAt ns m) (ts.getD m 0) ts) := by
  rw [kidsAt_eq hm]
  have hk := (node_parts (hn m hm)).2.2.2
  have get : ∀ i, i < ns.length → (comeK ns[m].kids (ts.getD m 0) ts).getD i 0 = ts.getD i 0 + ts.getD m 0 * (cnt ns[m].kids i : Int) := fun i hi => comeK_get _ i _ _ (by rw [h.len]; exact hi)
  have out : ∀ i, ns.length ≤ i → (comeK ns[m].kids (ts.getD m 0) ts).getD i 0 = 0 := fun i hi => by
    rw [List.getD_eq_getElem?_getD, List.getElem?_eq_none (by rw [comeK_len, h.len]; exact hi)]; rfl
  have same : ∀ i, m ≤ i → i < ns.length → (comeK ns[m].kids (ts.getD m 0) ts).getD i 0 = ts.getD i 0 := fun i hi hl => by
    rw [get i hl, cnt_zero (fun k hk' => by have := hk k hk'; omega)]
    simp
  have mono : ∀ i, i < ns.length → ts.getD i 0 ≤ (comeK ns[m].kids (ts.getD m 0) ts).getD i 0 := fun i hi => by
    rw [get i hi]
    have := Int.mul_nonneg (h.pos m) (Int.natCast_nonneg (cnt ns[m].kids i))
    omega
  have posn : ∀ i, 0 ≤ (comeK ns[m].kids (ts.getD m 0) ts).getD i 0 := fun i => by
    by_cases hi : i < ns.length
    · have := mono i hi; have := h.pos i; omega
    · rw [out i (by omega)]; omega
  refine ⟨by rw [comeK_len]; exact h.len, posn, by rw [same _ (by omega) (by omega)]; exact h.top, fun p hp hpl hp0 k hkp => ?_, fun i hi hi0 => ?_, ?_⟩
  · rw [same p hp hpl] at hp0
    have hk2 := (node_parts (hn p hpl)).2.2.2 k hkp
    by_cases e : p = m
    · subst e
      rw [get _ (by omega)]
      have h1 := cnt_pos hkp
      have h2 := h.pos k.toNat
      have h3 := h.pos p
      have h4 : ts.getD p 0 * 1 ≤ ts.getD p 0 * (cnt ns[p].kids k.toNat : Int) := Int.mul_le_mul_of_nonneg_left (by omega) h3
      omega
    · have h1 := h.down p (by omega) hpl hp0 k hkp
      have h2 := mono k.toNat (by omega)
      have h3 := h.pos k.toNat
      omega
  · by_cases h0 : ts.getD i 0 = 0
    · rw [get i (by omega), h0] at hi0
      have hc : cnt ns[m].kids i ≠ 0 := fun e => hi0 (by rw [e]; simp)
      have ht : ts.getD m 0 ≠ 0 := fun e => hi0 (by rw [e]; simp)
      obtain ⟨k, hkm, rfl⟩ := cnt_mem hc
      have hk2 := hk k hkm
      exact ⟨m, hm, Nat.le_refl _, by omega, by rw [same m (Nat.le_refl _) hm]; exact ht, by rw [Int.toNat_of_nonneg hk2.1]; exact hkm⟩
    · obtain ⟨p, hp, h1, h2, h3, h4⟩ := h.up i hi h0
      exact ⟨p, hp, by omega, h2, by rw [same p (by omega) hp]; exact h3, h4⟩
  · rw [wsum_come _ _ _ _ (fun k hk' => by have := hk k hk'; rw [h.len]; omega)]
    have e1 := wsum_turn (g := wt ns m) (h := wt ns (m + 1)) m (fun j hj => by unfold wt; split <;> split <;> first | rfl | omega) ts 0
    rw [if_pos (Nat.zero_le _), Nat.sub_zero, h.all] at e1
    have e2 : wt ns m m = 1 := if_neg (Nat.lt_irrefl _)
    have e3 : wt ns (m + 1) m = sz ns m := if_pos (by omega)
    have e4 : (ns[m].kids.map fun k => wt ns m k.toNat) = ns[m].kids.map fun k => sz ns k.toNat := by
      apply List.map_congr_left
      intro k hk'
      have := hk k hk'
      exact if_pos (by omega)
    rw [e1, e2, e3, e4, sz_eq hn m hm, Int.add_assoc, ← Int.mul_add]
    rw [show (1 - (1 + (ns[m].kids.map fun k => sz ns k.toNat).sum) + (ns[m].kids.map fun k => sz ns k.toNat).sum) = 0 by omega]
    simp
theorem times0_get (n i : Nat) (h : 1 ≤ n) : (times0 n).getD i 0 = if i = n - 1 then 1 else 0 := by
  rw [times0]
  by_cases e : i = n - 1
  · subst e
    rw [if_pos rfl, getD_set_eq _ _ _ (by simp; omega)]
  · rw [if_neg e, getD_set_ne _ _ _ _ (fun h => e h.symm), List.getD_eq_getElem?_getD]
    by_cases hi : i < n
    · rw [List.getElem?_replicate_of_lt hi]; rfl
    · rw [List.getElem?_eq_none (by simp; omega)]; rfl
theorem wsum_zero (g : Nat → Int) : ∀ (n i : Nat), wsum g i (List.replicate n 0) = 0
  | 0, _ => rfl
  | n + 1, i => by rw [List.replicate_succ]; show 0 * g i + _ = 0; rw [wsum_zero g n (i + 1)]; omega
theorem come_start {ns : List NodeD} (h1 : 1 ≤ ns.length) : Come ns ns.length (times0 ns.length) := by
  refine ⟨by simp [times0], fun i => by rw [times0_get _ _ h1]; split <;> omega, by rw [times0_get _ _ h1, if_pos rfl]; omega, fun p hp hpl => by omega, fun i hi h0 => absurd (by rw [times0_get _ _ h1, if_neg (by omega)]) h0, ?_⟩
  rw [times0, wsum_set _ _ _ _ _ (by simp; omega), wsum_zero, Nat.zero_add, wt, if_pos (by omega), List.getD_eq_getElem?_getD, List.getElem?_replicate_of_lt (by omega)]
  show 0 + (1 - 0) * _ = _
  omega
theorem come_all {ns : List NodeD} (hn : ∀ k (hk : k < ns.length), nodeB k ns[k] = true) : ∀ m, m ≤ ns.length → ∀ ts, Come ns m ts → Come ns 0 (timesF ns m ts)
  | 0, _, _, h => h
  | m + 1, hm, ts, h => come_all hn m (by omega) _ (come_step hn (by omega) h)
theorem times_come {ns : List NodeD} (h : exprB ns = true) : Come ns 0 (timesB ns) := by
  obtain ⟨hl, hn⟩ := exprB_at h
  exact come_all hn ns.length (Nat.le_refl _) _ (come_start hl.1)
/-- How often in all: as great as the whole. -/
theorem times_sum {ns : List NodeD} (h : exprB ns = true) : (timesB ns).sum = sz ns (ns.length - 1) := by
  have hc := times_come h
  rw [← hc.all, ← wsum_one (timesB ns) 0]
  rfl
def marksT (ns : List NodeD) : List Bool := (timesB ns).map fun t => decide (t ≠ 0)
theorem marksT_at {ns : List NodeD} (i : Nat) : (marksT ns)[i]? = some true ↔ (timesB ns).getD i 0 ≠ 0 := by
  rw [marksT, List.getElem?_map, List.getD_eq_getElem?_getD]
  cases (timesB ns)[i]? with
  | none => simp
  | some t => simp
theorem times_marks {ns : List NodeD} (h : exprB ns = true) : Marks ns (marksT ns) := by
  have hc := times_come h
  refine ⟨by rw [marksT, List.length_map]; exact hc.len, (marksT_at _).2 hc.top, fun i hi hi0 k hk => (marksT_at _).2 (hc.down i (Nat.zero_le _) hi ((marksT_at _).1 hi0) k hk), fun i hi hi0 => ?_⟩
  obtain ⟨p, hp, _, h2, h3, h4⟩ := hc.up i hi ((marksT_at _).1 hi0)
  exact ⟨p, hp, h2, (marksT_at _).2 h3, h4⟩
end Go.Proofs.YtokgkjfgknjbbaaDoor
