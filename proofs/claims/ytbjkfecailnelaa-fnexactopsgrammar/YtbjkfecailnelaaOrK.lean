/- A region that draws its order, whose last operations write cells that its loads read: loads are taken first all the same, where the first writer waits for them. No program is named. -/
import Derived.Deep.RegionHeld3
namespace Go.Proofs.Ytbjkfecailnelaa
section
variable {P : Program} {ops : Array Oper} {Q : Exit → Act → World → Prop} {md : Region.Mode} {S : World → Prop} {k : Nat}

/-- Whatever order is picked from here on, and S holds behind every operation that is carried out until number k has come up. -/
def wpAnyK (P : Program) (md : Region.Mode) (ops : Array Oper) (Q : Exit → Act → World → Prop) (S : World → Prop) (k : Nat) : Nat → Array Bool → Act → World → Prop
  | 0, listed, a, w => Region.ready md ops listed = [] ∧ Q .normal a w
  | fuel + 1, listed, a, w =>
    (Region.ready md ops listed = [] → Q .normal a w) ∧
    ∀ i ∈ Region.ready md ops listed, wpOp P ops Q i (fun a' w' => ((listed.setIfInBounds i true).getD k false = true ∨ S w') ∧ wpAnyK P md ops Q S k fuel (listed.setIfInBounds i true) a' w') a w

theorem wpAny_of_K : ∀ (fuel : Nat) (listed : Array Bool) (a : Act) (w : World), wpAnyK P md ops Q S k fuel listed a w → wpAny P md ops Q fuel listed a w
  | 0, _, _, _, h => h
  | fuel + 1, _, _, _, h => ⟨h.1, fun i hi => wpOp_mono (fun a' w' h' => wpAny_of_K fuel _ a' w' h'.2) (h.2 i hi)⟩

/-- What is listed has all listed that it waits for. -/
def ClosedK (md : Region.Mode) (ops : Array Oper) (listed : Array Bool) : Prop :=
  ∀ j oj, ops[j]? = some oj → listed.getD j false = true → ∀ e ∈ oj.after, Region.binds md e = true → listed.getD e.on false = true
def edgeK (md : Region.Mode) (ops : Array Oper) (x y : Nat) : Bool := match ops[x]? with
  | some o => o.after.any fun e => Region.binds md e && e.on == y
  | none => false
/-- Each waits for the next. -/
def pathK (md : Region.Mode) (ops : Array Oper) : List Nat → Bool
  | x :: y :: r => edgeK md ops x y && pathK md ops (y :: r)
  | _ => true
theorem ClosedK.edge {listed : Array Bool} (h : ClosedK md ops listed) {x y : Nat} (he : edgeK md ops x y = true) (hx : listed.getD x false = true) : listed.getD y false = true := by
  unfold edgeK at he
  cases ho : ops[x]? with
  | none => rw [ho] at he; cases he
  | some o =>
    rw [ho] at he
    obtain ⟨e, hm, hb⟩ := Array.any_eq_true'.1 he
    rw [Bool.and_eq_true, beq_iff_eq] at hb
    rw [← hb.2]
    exact h x o ho hx e hm hb.1
theorem ClosedK.path {listed : Array Bool} (h : ClosedK md ops listed) : ∀ (l : List Nat) (x i : Nat), pathK md ops (x :: l) = true → (x :: l).getLast? = some i → listed.getD x false = true → listed.getD i false = true
  | [], x, i, _, hl, hx => by cases hl; exact hx
  | y :: l, x, i, hp, hl, hx => by
    rw [pathK, Bool.and_eq_true] at hp
    refine ClosedK.path h l y i hp.2 ?_ (h.edge hp.1 hx)
    rw [← hl]
    simp
theorem getK_set {listed : Array Bool} {j i : Nat} : (listed.setIfInBounds j true).getD i false = if j = i ∧ i < listed.size then true else listed.getD i false := by
  simp only [Array.getD_eq_getD_getElem?, Array.getElem?_setIfInBounds]
  by_cases h : j = i
  · subst h
    by_cases h2 : j < listed.size
    · simp [h2]
    · simp [h2]
  · simp [h]
theorem ClosedK.set {listed : Array Bool} (h : ClosedK md ops listed) {j : Nat} (hj : j ∈ Region.ready md ops listed) : ClosedK md ops (listed.setIfInBounds j true) := by
  intro x ox hox hx e he hb
  have key : listed.getD e.on false = true → (listed.setIfInBounds j true).getD e.on false = true := fun h1 => by
    rw [getK_set]
    split
    · rfl
    · exact h1
  rw [getK_set] at hx
  split at hx
  · rename_i hjx
    obtain ⟨hjun, oj, hoj, hall⟩ := mem_ready.1 hj
    rw [hjx.1] at hoj
    rw [hox] at hoj
    cases hoj
    exact key (hall e he hb)
  · exact key (h x ox hox hx e he hb)
theorem ClosedK.start (n : Nat) : ClosedK md ops (Array.replicate n false) := fun j oj _ hj => by
  simp only [Array.getD_eq_getD_getElem?, Array.getElem?_replicate] at hj
  split at hj <;> cases hj
theorem unlisted_K {listed : Array Bool} {i : Nat} (hr : i ∈ Region.ready md ops listed) : listed.getD i false = false := by
  have h0 := (mem_ready.1 hr).1
  rcases Nat.lt_or_ge i listed.size with h' | h'
  · simp only [Array.getD_eq_getD_getElem?] at h0 ⊢
    rw [Array.getElem?_eq_getElem h'] at h0 ⊢
    simpa using h0
  · simp only [Array.getD_eq_getD_getElem?, Array.getElem?_eq_none h']
    rfl

/-- An operation taken first: T is what it asks of the world: S, where k waits for it; else nothing. -/
theorem wpAnyK_first {i : Nat} {oi : Oper} {v : Value} {T : World → Prop} (hi : ops[i]? = some oi) (hsel : ∀ (j : Nat) (o : Oper) cs b, ops[j]? = some o → o.op ≠ .select cs b)
    (hQ : ∀ c a w, Q (.panic c) (a.put oi.dst v) w → Q (.panic c) a w)
    (hki : k ≠ i) (hT : (∀ w, T w) ∨ (∀ w, S w → T w) ∧ ∃ l, pathK md ops (k :: l) = true ∧ (k :: l).getLast? = some i) :
    ∀ (fuel : Nat) (listed : Array Bool) (a : Act) (w : World), ClosedK md ops listed →
      (∀ j oj, ops[j]? = some oj → j ≠ i → listed.getD j true = false → (∀ e ∈ oj.after, Region.binds md e = true → e.on ≠ i) → oi.apart ops oj = true) →
      i ∈ Region.ready md ops listed → YieldsIf P ops T oi v a → T w → ((listed.setIfInBounds i true).getD k false = true ∨ S w) →
      wpAnyK P md ops Q S k fuel (listed.setIfInBounds i true) (a.put oi.dst v) w → wpAnyK P md ops Q S k (fuel + 1) listed a w := by
  intro fuel
  induction fuel with
  | zero =>
    intro listed a w _ _ hr hy hTw hS H
    refine ⟨fun h => (by rw [h] at hr; cases hr), fun j hj => ?_⟩
    by_cases hji : j = i
    · subst hji; exact hy.wpOp hi hTw ⟨hS, H⟩
    · have := ready_mono hj hji
      rw [H.1] at this
      cases this
  | succ fuel ih =>
    intro listed a w hcl hfree hr hy hTw hS H
    refine ⟨fun h => (by rw [h] at hr; cases hr), fun j hj => ?_⟩
    by_cases hji : j = i
    · subst hji; exact hy.wpOp hi hTw ⟨hS, H⟩
    · have h1 := H.2 j (ready_mono hj hji)
      obtain ⟨hjun, oj, hoj, hall⟩ := mem_ready.1 hj
      have hiun := unlisted_K hr
      have hnot : ∀ e ∈ oj.after, Region.binds md e = true → e.on ≠ i := fun e he hb heq => by
        have h1 := hall e he hb
        rw [heq] at h1
        rw [hiun] at h1
        cases h1
      have h2 := wpOp_putIf hoj (hfree j oj hoj hji hjun hnot) (fun cs b => hsel i oi cs b hi) (fun cs b => hsel j oj cs b hoj) hQ hy h1
      have hfree' : ∀ k ok, ops[k]? = some ok → k ≠ i → (listed.setIfInBounds j true).getD k true = false →
          (∀ e ∈ ok.after, Region.binds md e = true → e.on ≠ i) → oi.apart ops ok = true := fun k ok hk hki hun hno => by
        refine hfree k ok hk hki ?_ hno
        by_cases hjk : j = k
        · subst hjk; exact hjun
        · rw [getD_set_ne true hjk] at hun; exact hun
      have hcl' := hcl.set hj
      have hcomm : ((listed.setIfInBounds j true).setIfInBounds i true) = ((listed.setIfInBounds i true).setIfInBounds j true) := Array.setIfInBounds_comm _ _ hji
      refine wpOp_mono (fun a' w' h3 => ?_) h2
      have hor : ((listed.setIfInBounds j true).setIfInBounds i true).getD k false = true ∨ S w' := by rw [hcomm]; exact h3.2.1
      have hii : (listed.setIfInBounds j true).getD i false = false := by
        rw [getK_set, if_neg (fun h => hji h.1)]
        exact hiun
      have hTS : T w' ∧ ((listed.setIfInBounds j true).getD k false = true ∨ S w') := by
        have hor2 : (listed.setIfInBounds j true).getD k false = true ∨ S w' := by
          rcases hor with h4 | h4
          · rw [getK_set, if_neg (fun h => hki h.1.symm)] at h4
            exact .inl h4
          · exact .inr h4
        rcases hT with hT | ⟨hT, l, hp, hl⟩
        · exact ⟨hT w', hor2⟩
        · rcases hor2 with h4 | h4
          · have := hcl'.path l k i hp hl h4
            rw [hii] at this
            cases this
          · exact ⟨hT w' h4, .inr h4⟩
      refine ⟨hTS.2, ih (listed.setIfInBounds j true) a' w' hcl' hfree' (ready_mono hr (Ne.symm hji)) h3.1 hTS.1 hor ?_⟩
      rw [hcomm]
      exact h3.2.2

/-- Taken first: it asks S, and number k waits for it (l: who waits for whom, from k on). -/
theorem wpAnyK_take (l : List Nat) {i : Nat} {d : Option Tmp} {oi : Oper} {v : Value} {fuel : Nat} {listed : Array Bool} {a : Act} {w : World} (hcl : ClosedK md ops listed) (hi : ops[i]? = some oi)
    (hs : Region.noSelect ops = true) (hf : Region.free md ops listed i = true) (hr : (Region.ready md ops listed).contains i = true) (hp : pathK md ops (k :: l) = true) (hl : (k :: l).getLast? = some i) (hki : k ≠ i) (hd : oi.dst = d)
    (hQ : ∀ c a w, Q (.panic c) (a.put d v) w → Q (.panic c) a w) (hy : YieldsIf P ops S oi v a) (hS : S w)
    (h : ClosedK md ops (listed.setIfInBounds i true) → wpAnyK P md ops Q S k fuel (listed.setIfInBounds i true) (a.put d v) w) : wpAnyK P md ops Q S k (fuel + 1) listed a w := by
  subst hd
  have hr' : i ∈ Region.ready md ops listed := by simpa using hr
  exact wpAnyK_first hi (Region.noSelect_spec hs) hQ hki (.inr ⟨fun _ h => h, l, hp, hl⟩) fuel listed a w hcl (Region.free_spec hi hf) hr' hy hS (.inr hS) (h (hcl.set hr'))
/-- Taken first: it asks nothing of the world. -/
theorem wpAnyK_free {i : Nat} {d : Option Tmp} {oi : Oper} {v : Value} {fuel : Nat} {listed : Array Bool} {a : Act} {w : World} (hcl : ClosedK md ops listed) (hi : ops[i]? = some oi)
    (hs : Region.noSelect ops = true) (hf : Region.free md ops listed i = true) (hr : (Region.ready md ops listed).contains i = true) (hki : k ≠ i) (hd : oi.dst = d)
    (hQ : ∀ c a w, Q (.panic c) (a.put d v) w → Q (.panic c) a w) (hy : YieldsIf P ops (fun _ => True) oi v a) (hS : (listed.setIfInBounds i true).getD k false = true ∨ S w)
    (h : ClosedK md ops (listed.setIfInBounds i true) → wpAnyK P md ops Q S k fuel (listed.setIfInBounds i true) (a.put d v) w) : wpAnyK P md ops Q S k (fuel + 1) listed a w := by
  subst hd
  have hr' : i ∈ Region.ready md ops listed := by simpa using hr
  exact wpAnyK_first hi (Region.noSelect_spec hs) hQ hki (.inl fun _ => trivial) fuel listed a w hcl (Region.free_spec hi hf) hr' hy trivial hS (h (hcl.set hr'))
/-- One alone may come up: it is carried out, and S is shown anew behind it. -/
theorem wpAnyK_one {i : Nat} {o : Oper} {fuel : Nat} {listed : Array Bool} {a : Act} {w : World} (hcl : ClosedK md ops listed) (hr : Region.ready md ops listed = [i]) (ho : ops[i]? = some o)
    (h : ∀ K' : Act → World → Prop, Shut (∀ a w, S w → (ClosedK md ops (listed.setIfInBounds i true) → wpAnyK P md ops Q S k fuel (listed.setIfInBounds i true) a w) → K' a w) → if Region.wanted o (yielded ops a.tmps) = true then Oper.wp P o a w K' Q else K' (a.put o.dst undef) w) : wpAnyK P md ops Q S k (fuel + 1) listed a w :=
  ⟨fun h0 => (by rw [hr] at h0; cases h0), fun j hj => by
    have hj' := hj
    rw [hr, List.mem_singleton] at hj
    subst hj
    exact wpOp_step ho (fun K' hK => h K' (fun a w hS hW => hK a w ⟨.inr hS, hW (hcl.set hj')⟩))⟩
/-- One alone may come up, and number k has come up with it: nothing is to be shown behind it. -/
theorem wpAnyK_past {i : Nat} {o : Oper} {fuel : Nat} {listed : Array Bool} {a : Act} {w : World} (hcl : ClosedK md ops listed) (hr : Region.ready md ops listed = [i]) (ho : ops[i]? = some o) (hk : (listed.setIfInBounds i true).getD k false = true)
    (h : ∀ K' : Act → World → Prop, Shut (∀ a w, (ClosedK md ops (listed.setIfInBounds i true) → wpAnyK P md ops Q S k fuel (listed.setIfInBounds i true) a w) → K' a w) → if Region.wanted o (yielded ops a.tmps) = true then Oper.wp P o a w K' Q else K' (a.put o.dst undef) w) : wpAnyK P md ops Q S k (fuel + 1) listed a w :=
  ⟨fun h0 => (by rw [hr] at h0; cases h0), fun j hj => by
    have hj' := hj
    rw [hr, List.mem_singleton] at hj
    subst hj
    exact wpOp_step ho (fun K' hK => h K' (fun a w hW => hK a w ⟨.inl hk, hW (hcl.set hj')⟩))⟩
theorem wpAnyK_done {fuel : Nat} {listed : Array Bool} {a : Act} {w : World} (hr : Region.ready md ops listed = []) (h : Q .normal a w) : wpAnyK P md ops Q S k fuel listed a w := by
  cases fuel with
  | zero => exact ⟨hr, h⟩
  | succ n => exact ⟨fun _ => h, by rw [hr]; simp⟩
theorem wp_region_K {id : Nat} {a : Act} {w : World} (hm : P.follows .mixedOrders = true) (hS : S w.drew)
    (h : S w.drew → ClosedK .any ops (Array.replicate ops.size false) → wpAnyK P .any ops Q S k ops.size (Array.replicate ops.size false) a w.drew) : (Code.region id ops true).wp P Q a w :=
  wp_region_any hm (wpAny_of_K _ _ _ _ (h hS (ClosedK.start _)))
end
end Go.Proofs.Ytbjkfecailnelaa
