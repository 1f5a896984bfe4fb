/- A region that draws its order, whose last operations write cells that its loads read: loads are taken first all the same, where the first writer waits for them. No program is named. -/
/- Rows of flags that a call owns; the list of the rules that are kept. -/
/- Rounds of flags over a grammar's rules (pure). -/
import Derived.Test.YtkmkfpgaehgonaaGreatDoorHld
import Derived.Test.YtkmkfpgaehgonaaGreatDoorCpJ
import Derived.Test.YtkmkfpgaehgonaaGreatDoorF15P
import Derived.Deep.RegionHeld3
namespace Go.Proofs.YtkmkfpgaehgonaaGreatDoor
section
variable {P : Program} {ops : Array Oper} {Q : Exit → Act → World → Prop} {md : Region.Mode} {S : World → Prop} {k : Nat}

/-- Whatever order is picked from here on, and S holds behind every operation that is carried out until number k has come up. -/
def wpAnyK (P : Program) (md : Region.Mode) (ops : Array Oper) (Q : Exit → Act → World → Prop) (S : World → Prop) (k : Nat) : Nat → Array Bool → Act → World → Prop
  | 0, listed, a, w => Region.ready md ops listed = [] ∧ Q .normal a w
  | fuel + 1, listed, a, w =>
    (Region.ready md ops listed = [] → Q .normal a w) ∧
    ∀ i ∈ Region.ready md ops listed, wpOp P ops Q i (fun a' w' => ((listed.setIfInBounds i true).getD k false = true ∨ S w') ∧ wpAnyK P md ops Q S k fuel (listed.setIfInBounds i true) a' w') a w

theorem wpAny_of_K : ∀ (fuel : Nat) (listed : Array Bool) (a : Act) (w : World), wpAnyK P md ops Q S k fuel listed a w → wpAny P md ops Q fuel listed a w
  | 0, _, _, _, h => h
  | fuel + 1, _, _, _, h => ⟨h.1, fun i hi => wpOp_mono (fun a' w' h' => wpAny_of_K fuel _ a' w' h'.2) (h.2 i hi)⟩

/-- What is listed has all listed that it waits for. -/
def ClosedK (md : Region.Mode) (ops : Array Oper) (listed : Array Bool) : Prop :=
  ∀ j oj, ops[j]? = some oj → listed.getD j false = true → ∀ e ∈ oj.after, Region.binds md e = true → listed.getD e.on false = true
def edgeK (md : Region.Mode) (ops : Array Oper) (x y : Nat) : Bool := match ops[x]? with
  | some o => o.after.any fun e => Region.binds md e && e.on == y
  | none => false
/-- Each waits for the next. -/
def pathK (md : Region.Mode) (ops : Array Oper) : List Nat → Bool
  | x :: y :: r => edgeK md ops x y && pathK md ops (y :: r)
  | _ => true
theorem ClosedK.edge {listed : Array Bool} (h : ClosedK md ops listed) {x y : Nat} (he : edgeK md ops x y = true) (hx : listed.getD x false = true) : listed.getD y false = true := by
  unfold edgeK at he
  cases ho : ops[x]? with
  | none => rw [ho] at he; cases he
  | some o =>
    rw [ho] at he
    obtain ⟨e, hm, hb⟩ := Array.any_eq_true'.1 he
    rw [Bool.and_eq_true, beq_iff_eq] at hb
    rw [← hb.2]
    exact h x o ho hx e hm hb.1
theorem ClosedK.path {listed : Array Bool} (h : ClosedK md ops listed) : ∀ (l : List Nat) (x i : Nat), pathK md ops (x :: l) = true → (x :: l).getLast? = some i → listed.getD x false = true → listed.getD i false = true
  | [], x, i, _, hl, hx => by cases hl; exact hx
  | y :: l, x, i, hp, hl, hx => by
    rw [pathK, Bool.and_eq_true] at hp
    refine ClosedK.path h l y i hp.2 ?_ (h.edge hp.1 hx)
    rw [← hl]
    simp
theorem getK_set {listed : Array Bool} {j i : Nat} : (listed.setIfInBounds j true).getD i false = if j = i ∧ i < listed.size then true else listed.getD i false := by
  simp only [Array.getD_eq_getD_getElem?, Array.getElem?_setIfInBounds]
  by_cases h : j = i
  · subst h
    by_cases h2 : j < listed.size
    · simp [h2]
    · simp [h2]
  · simp [h]
theorem ClosedK.set {listed : Array Bool} (h : ClosedK md ops listed) {j : Nat} (hj : j ∈ Region.ready md ops listed) : ClosedK md ops (listed.setIfInBounds j true) := by
  intro x ox hox hx e he hb
  have key : listed.getD e.on false = true → (listed.setIfInBounds j true).getD e.on false = true := fun h1 => by
    rw [getK_set]
    split
    · rfl
    · exact h1
  rw [getK_set] at hx
  split at hx
  · rename_i hjx
    obtain ⟨hjun, oj, hoj, hall⟩ := mem_ready.1 hj
    rw [hjx.1] at hoj
    rw [hox] at hoj
    cases hoj
    exact key (hall e he hb)
  · exact key (h x ox hox hx e he hb)
theorem ClosedK.start (n : Nat) : ClosedK md ops (Array.replicate n false) := fun j oj _ hj => by
  simp only [Array.getD_eq_getD_getElem?, Array.getElem?_replicate] at hj
  split at hj <;> cases hj
theorem unlisted_K {listed : Array Bool} {i : Nat} (hr : i ∈ Region.ready md ops listed) : listed.getD i false = false := by
  have h0 := (mem_ready.1 hr).1
  rcases Nat.lt_or_ge i listed.size with h' | h'
  · simp only [Array.getD_eq_getD_getElem?] at h0 ⊢
    rw [Array.getElem?_eq_getElem h'] at h0 ⊢
    simpa using h0
  · simp only [Array.getD_eq_getD_getElem?, Array.getElem?_eq_none h']
    rfl

/-- An operation taken first: T is what it asks of the world: S, where k waits for it; else nothing. -/
theorem wpAnyK_first {i : Nat} {oi : Oper} {v : Value} {T : World → Prop} (hi : ops[i]? = some oi) (hsel : ∀ (j : Nat) (o : Oper) cs b, ops[j]? = some o → o.op ≠ .select cs b)
    (hQ : ∀ c a w, Q (.panic c) (a.put oi.dst v) w → Q (.panic c) a w)
    (hki : k ≠ i) (hT : (∀ w, T w) ∨ (∀ w, S w → T w) ∧ ∃ l, pathK md ops (k :: l) = true ∧ (k :: l).getLast? = some i) :
    ∀ (fuel : Nat) (listed : Array Bool) (a : Act) (w : World), ClosedK md ops listed →
      (∀ j oj, ops[j]? = some oj → j ≠ i → listed.getD j true = false → (∀ e ∈ oj.after, Region.binds md e = true → e.on ≠ i) → oi.apart ops oj = true) →
      i ∈ Region.ready md ops listed → YieldsIf P ops T oi v a → T w → ((listed.setIfInBounds i true).getD k false = true ∨ S w) →
      wpAnyK P md ops Q S k fuel (listed.setIfInBounds i true) (a.put oi.dst v) w → wpAnyK P md ops Q S k (fuel + 1) listed a w := by
  intro fuel
  induction fuel with
  | zero =>
    intro listed a w _ _ hr hy hTw hS H
    refine ⟨fun h => (by rw [h] at hr; cases hr), fun j hj => ?_⟩
    by_cases hji : j = i
    · subst hji; exact hy.wpOp hi hTw ⟨hS, H⟩
    · have := ready_mono hj hji
      rw [H.1] at this
      cases this
  | succ fuel ih =>
    intro listed a w hcl hfree hr hy hTw hS H
    refine ⟨fun h => (by rw [h] at hr; cases hr), fun j hj => ?_⟩
    by_cases hji : j = i
    · subst hji; exact hy.wpOp hi hTw ⟨hS, H⟩
    · have h1 := H.2 j (ready_mono hj hji)
      obtain ⟨hjun, oj, hoj, hall⟩ := mem_ready.1 hj
      have hiun := unlisted_K hr
      have hnot : ∀ e ∈ oj.after, Region.binds md e = true → e.on ≠ i := fun e he hb heq => by
        have h1 := hall e he hb
        rw [heq] at h1
        rw [hiun] at h1
        cases h1
      have h2 := wpOp_putIf hoj (hfree j oj hoj hji hjun hnot) (fun cs b => hsel i oi cs b hi) (fun cs b => hsel j oj cs b hoj) hQ hy h1
      have hfree' : ∀ k ok, ops[k]? = some ok → k ≠ i → (listed.setIfInBounds j true).getD k true = false →
          (∀ e ∈ ok.after, Region.binds md e = true → e.on ≠ i) → oi.apart ops ok = true := fun k ok hk hki hun hno => by
        refine hfree k ok hk hki ?_ hno
        by_cases hjk : j = k
        · subst hjk; exact hjun
        · rw [getD_set_ne true hjk] at hun; exact hun
      have hcl' := hcl.set hj
      have hcomm : ((listed.setIfInBounds j true).setIfInBounds i true) = ((listed.setIfInBounds i true).setIfInBounds j true) := Array.setIfInBounds_comm _ _ hji
      refine wpOp_mono (fun a' w' h3 => ?_) h2
      have hor : ((listed.setIfInBounds j true).setIfInBounds i true).getD k false = true ∨ S w' := by rw [hcomm]; exact h3.2.1
      have hii : (listed.setIfInBounds j true).getD i false = false := by
        rw [getK_set, if_neg (fun h => hji h.1)]
        exact hiun
      have hTS : T w' ∧ ((listed.setIfInBounds j true).getD k false = true ∨ S w') := by
        have hor2 : (listed.setIfInBounds j true).getD k false = true ∨ S w' := by
          rcases hor with h4 | h4
          · rw [getK_set, if_neg (fun h => hki h.1.symm)] at h4
            exact .inl h4
          · exact .inr h4
        rcases hT with hT | ⟨hT, l, hp, hl⟩
        · exact ⟨hT w', hor2⟩
        · rcases hor2 with h4 | h4
          · have := hcl'.path l k i hp hl h4
            rw [hii] at this
            cases this
          · exact ⟨hT w' h4, .inr h4⟩
      refine ⟨hTS.2, ih (listed.setIfInBounds j true) a' w' hcl' hfree' (ready_mono hr (Ne.symm hji)) h3.1 hTS.1 hor ?_⟩
      rw [hcomm]
      exact h3.2.2

/-- Taken first: it asks S, and number k waits for it (l: who waits for whom, from k on). -/
theorem wpAnyK_take (l : List Nat) {i : Nat} {d : Option Tmp} {oi : Oper} {v : Value} {fuel : Nat} {listed : Array Bool} {a : Act} {w : World} (hcl : ClosedK md ops listed) (hi : ops[i]? = some oi)
    (hs : Region.noSelect ops = true) (hf : Region.free md ops listed i = true) (hr : (Region.ready md ops listed).contains i = true) (hp : pathK md ops (k :: l) = true) (hl : (k :: l).getLast? = some i) (hki : k ≠ i) (hd : oi.dst = d)
    (hQ : ∀ c a w, Q (.panic c) (a.put d v) w → Q (.panic c) a w) (hy : YieldsIf P ops S oi v a) (hS : S w)
    (h : ClosedK md ops (listed.setIfInBounds i true) → wpAnyK P md ops Q S k fuel (listed.setIfInBounds i true) (a.put d v) w) : wpAnyK P md ops Q S k (fuel + 1) listed a w := by
  subst hd
  have hr' : i ∈ Region.ready md ops listed := by simpa using hr
  exact wpAnyK_first hi (Region.noSelect_spec hs) hQ hki (.inr ⟨fun _ h => h, l, hp, hl⟩) fuel listed a w hcl (Region.free_spec hi hf) hr' hy hS (.inr hS) (h (hcl.set hr'))
/-- Taken first: it asks nothing of the world. -/
theorem wpAnyK_free {i : Nat} {d : Option Tmp} {oi : Oper} {v : Value} {fuel : Nat} {listed : Array Bool} {a : Act} {w : World} (hcl : ClosedK md ops listed) (hi : ops[i]? = some oi)
    (hs : Region.noSelect ops = true) (hf : Region.free md ops listed i = true) (hr : (Region.ready md ops listed).contains i = true) (hki : k ≠ i) (hd : oi.dst = d)
    (hQ : ∀ c a w, Q (.panic c) (a.put d v) w → Q (.panic c) a w) (hy : YieldsIf P ops (fun _ => True) oi v a) (hS : (listed.setIfInBounds i true).getD k false = true ∨ S w)
    (h : ClosedK md ops (listed.setIfInBounds i true) → wpAnyK P md ops Q S k fuel (listed.setIfInBounds i true) (a.put d v) w) : wpAnyK P md ops Q S k (fuel + 1) listed a w := by
  subst hd
  have hr' : i ∈ Region.ready md ops listed := by simpa using hr
  exact wpAnyK_first hi (Region.noSelect_spec hs) hQ hki (.inl fun _ => trivial) fuel listed a w hcl (Region.free_spec hi hf) hr' hy trivial hS (h (hcl.set hr'))
/-- One alone may come up: it is carried out, and S is shown anew behind it. -/
theorem wpAnyK_one {i : Nat} {o : Oper} {fuel : Nat} {listed : Array Bool} {a : Act} {w : World} (hcl : ClosedK md ops listed) (hr : Region.ready md ops listed = [i]) (ho : ops[i]? = some o)
    (h : ∀ K' : Act → World → Prop, Shut (∀ a w, S w → (ClosedK md ops (listed.setIfInBounds i true) → wpAnyK P md ops Q S k fuel (listed.setIfInBounds i true) a w) → K' a w) → if Region.wanted o (yielded ops a.tmps) = true then Oper.wp P o a w K' Q else K' (a.put o.dst undef) w) : wpAnyK P md ops Q S k (fuel + 1) listed a w :=
  ⟨fun h0 => (by rw [hr] at h0; cases h0), fun j hj => by
    have hj' := hj
    rw [hr, List.mem_singleton] at hj
    subst hj
    exact wpOp_step ho (fun K' hK => h K' (fun a w hS hW => hK a w ⟨.inr hS, hW (hcl.set hj')⟩))⟩
/-- One alone may come up, and number k has come up with it: nothing is to be shown behind it. -/
theorem wpAnyK_past {i : Nat} {o : Oper} {fuel : Nat} {listed : Array Bool} {a : Act} {w : World} (hcl : ClosedK md ops listed) (hr : Region.ready md ops listed = [i]) (ho : ops[i]? = some o) (hk : (listed.setIfInBounds i true).getD k false = true)
    (h : ∀ K' : Act → World → Prop, Shut (∀ a w, (ClosedK md ops (listed.setIfInBounds i true) → wpAnyK P md ops Q S k fuel (listed.setIfInBounds i true) a w) → K' a w) → if Region.wanted o (yielded ops a.tmps) = true then Oper.wp P o a w K' Q else K' (a.put o.dst undef) w) : wpAnyK P md ops Q S k (fuel + 1) listed a w :=
  ⟨fun h0 => (by rw [hr] at h0; cases h0), fun j hj => by
    have hj' := hj
    rw [hr, List.mem_singleton] at hj
    subst hj
    exact wpOp_step ho (fun K' hK => h K' (fun a w hW => hK a w ⟨.inl hk, hW (hcl.set hj')⟩))⟩
theorem wpAnyK_done {fuel : Nat} {listed : Array Bool} {a : Act} {w : World} (hr : Region.ready md ops listed = []) (h : Q .normal a w) : wpAnyK P md ops Q S k fuel listed a w := by
  cases fuel with
  | zero => exact ⟨hr, h⟩
  | succ n => exact ⟨fun _ => h, by rw [hr]; simp⟩
theorem wp_region_K {id : Nat} {a : Act} {w : World} (hm : P.follows .mixedOrders = true) (hS : S w.drew)
    (h : S w.drew → ClosedK .any ops (Array.replicate ops.size false) → wpAnyK P .any ops Q S k ops.size (Array.replicate ops.size false) a w.drew) : (Code.region id ops true).wp P Q a w :=
  wp_region_any hm (wpAny_of_K _ _ _ _ (h hS (ClosedK.start _)))
end
end Go.Proofs.YtkmkfpgaehgonaaGreatDoor

namespace Go.Proofs.YtkmkfpgaehgonaaGreatDoor
open Go.RowKit
set_option linter.unusedVariables false

theorem Tryz.infoB15 : (Tryz.prog.info? 4).map (fun i => (i.zero, i.size, i.bytes)) = some (some (.bool false), 1, 1) := by kernel_rfl
def flV15 (m : List Bool) : List Value := m.map .bool
def OwnB15 (B : Nat) (v : Value) (m : List Bool) (w : World) : Prop := w.ownsRow B 4 1 v m.length (flV15 m)
theorem OwnB15.below {B : Nat} {v : Value} {m : List Bool} {w w' : World} (h : OwnB15 B v m w) (hb : Below w.heap.size w w') : OwnB15 B v m w' := own_below h hb
theorem OwnB15.at {B g n cap : Nat} {m : List Bool} {w : World} (h : OwnB15 B (.slice (some ⟨g, 0, none⟩) n cap) m w) {k : Nat} (hk : k < m.length) : w.cell? ⟨g, k, none⟩ = some (.bool (m.getD k false)) ∧ w.frozen? ⟨g, k, none⟩ = false := by
  have e : n = m.length := by
    rcases h.2 with ⟨h', _⟩ | ⟨g', cap', cur, h', _⟩ <;> cases h'
    rfl
  subst e
  have h1 := World.ownsRow.cells h (g := g) rfl k (.bool (m.getD k false)) (by simp [flV15, hk])
  rw [Addr.add_lit, Nat.zero_add] at h1
  exact ⟨h1, World.ownsRow.frozenAt h k⟩
theorem OwnB15.set {B g n cap : Nat} {m : List Bool} {w : World} (h : OwnB15 B (.slice (some ⟨g, 0, none⟩) n cap) m w) (k : Nat) (b : Bool) : OwnB15 B (.slice (some ⟨g, 0, none⟩) n cap) (m.set k b) (w.setCell ⟨g, k, none⟩ (.bool b)) := by
  have e : n = m.length := by
    rcases h.2 with ⟨h', _⟩ | ⟨g', cap', cur, h', _⟩ <;> cases h'
    rfl
  subst e
  have s1 := (World.ownsRow.stored h k (.bool b)).1
  have e2 : flV15 (m.set k b) = (flV15 m).set k (.bool b) := by simp [flV15]
  unfold OwnB15
  rw [List.length_set, e2]
  exact s1
theorem made_flags15 {B g n : Nat} {w : World} (h : w.ownsRow B 4 1 (.slice (some ⟨g, 0, none⟩) n n) n (madeCells (Value.bool false).cells (n * 1)).toList) : OwnB15 B (.slice (some ⟨g, 0, none⟩) n n) (List.replicate n false) w := by
  rw [Nat.mul_one, show (Value.bool false).cells = #[.bool false] from rfl, toList_madeCells_one] at h
  unfold OwnB15
  rw [flV15, List.map_replicate, List.length_replicate]
  exact h
/-- Names stay where a flag is set. -/
theorem keepS15_set {B B' g n cap : Nat} {qv : Value} {q : List ByteArray} {m : List Bool} {w : World} (hz : OwnB B' qv q w) (h : OwnB15 B (.slice (some ⟨g, 0, none⟩) n cap) m w) (k : Nat) (u : Value) : OwnB B' qv q (w.setCell ⟨g, k, none⟩ u) :=
  hz.kept (grow_set w g k u) (fun j hj e => by
    cases e
    rcases hz.2 with ⟨rfl, _⟩ | ⟨g1, cap1, cur1, rfl, _, hc, _⟩
    · cases hj
    rcases h.2 with ⟨h', _⟩ | ⟨g2, cap2, cur2, h', _, hc2, _⟩ <;> cases h'
    cases hj
    rw [hc] at hc2
    exact absurd (Option.some.inj hc2) (fun e => by cases e))

theorem kp_cell {F : Nat → Prop} {w w' : World} {a : Addr} {x : Value} (h : w.cell? a = some x) (hk : Kp F w w') (hn : ¬ F a.block) : w'.cell? a = some x := (World.cell?_of_block (hk.block _ (World.block_lt_of_cell? w a h) hn)).trans h

/-! ### the rules that are kept -/
def keptIx (keep : Nat → Bool) (k : Nat) : List Nat := (List.range k).filter keep
theorem keptIx_next (keep : Nat → Bool) (k : Nat) : keptIx keep (k + 1) = if keep k = true then keptIx keep k ++ [k] else keptIx keep k := by
  rw [keptIx, List.range_succ, List.filter_append, ← keptIx]
  split <;> rename_i hk <;> simp [hk]
theorem keptIx_lt {keep : Nat → Bool} {k i : Nat} (h : i ∈ keptIx keep k) : i < k := by
  rw [keptIx, List.mem_filter, List.mem_range] at h
  exact h.1
theorem keptIx_nodup (keep : Nat → Bool) (k : Nat) : (keptIx keep k).Nodup := List.Pairwise.filter _ List.nodup_range
theorem keptIx_len (keep : Nat → Bool) (k : Nat) : (keptIx keep k).length ≤ k := by
  have := List.length_filter_le keep (List.range k)
  simpa [keptIx] using this
def KeptO (vss : List (List Value)) (L : List Nat) (B : Nat) (v : Value) (w : World) : Prop := w.ownsRow B 42 3 v L.length (L.map fun i => vss.getD i []).flatten
theorem KeptO.below {vss : List (List Value)} {L : List Nat} {B : Nat} {v : Value} {w w' : World} (h : KeptO vss L B v w) (hb : Below w.heap.size w w') : KeptO vss L B v w' := own_below h hb
def KeptF (keep : Nat → Bool) (n : Nat) (Fs : Nat → Nat → Prop) (i k : Nat) : Prop := ∃ h : i < (keptIx keep n).length, Fs ((keptIx keep n)[i]'h) k
theorem KeptO.slice {vss : List (List Value)} {L : List Nat} {B : Nat} {v : Value} {w : World} (h : KeptO vss L B v w) : ∃ a cap, v = .slice a L.length cap := by
  rcases h.2 with ⟨rfl, h0⟩ | ⟨g, cap, cur, rfl, _⟩
  · exact ⟨none, 0, by rw [h0]⟩
  · exact ⟨_, cap, rfl⟩
theorem kept_rowF {vss : List (List Value)} {Fs : Nat → Nat → Prop} {o v : Value} {xs : List RuleD} {w : World} {lo up B : Nat} {keep : Nat → Bool} (h1 : vss.length = xs.length) (h2 : ∀ vs ∈ vss, vs.length = 3) (hl : Lay o (Nw lo up) Fs)
    (hE : ∀ i (h : i < vss.length) (h' : i < xs.length), RuleG (Fs i) w vss[i] xs[i]) (hv : KeptO vss (keptIx keep xs.length) B v w) (hlo : lo ≤ up) (hB : up ≤ B) (hw : up ≤ w.heap.size) :
    RowF 3 42 RuleG (Nw lo w.heap.size) v ((keptIx keep xs.length).map fun i => xs.getD i default) w := by
  have hlt : ∀ i (h : i < (keptIx keep xs.length).length), (keptIx keep xs.length)[i] < xs.length := fun i h => keptIx_lt (List.getElem_mem h)
  have hLen : ((keptIx keep xs.length).map fun i => xs.getD i default).length = (keptIx keep xs.length).length := by simp
  refine ⟨(keptIx keep xs.length).map fun i => vss.getD i [], KeptF keep xs.length Fs, by simp, ?_, ?_, ⟨?_, ?_, ?_, ?_⟩, ?_⟩
  · intro vs hvs
    obtain ⟨i, hm, rfl⟩ := List.mem_map.1 hvs
    have hiv : i < vss.length := by have := keptIx_lt hm; omega
    have e : vss.getD i [] = vss[i] := by rw [List.getD_eq_getElem?_getD, List.getElem?_eq_getElem hiv]; rfl
    show (vss.getD i []).length = 3
    rw [e]
    exact h2 _ (List.getElem_mem hiv)
  · rw [hLen]
    refine ⟨hv.1, ?_⟩
    rcases hv.2 with h | ⟨g, cap, cur, e, hg, r⟩
    · exact .inl h
    · exact .inr ⟨g, cap, cur, e, Nat.zero_le _, r⟩
  · intro k hk
    have := World.ownsRow.lt hv k hk
    exact ⟨by omega, this.2⟩
  · intro k hk i hf
    obtain ⟨h, hf⟩ := hf
    have h3 := World.ownsRow.lt hv k hk
    have h4 := (hl.sub _ _ hf).2
    omega
  · intro i k hf
    obtain ⟨h, hf⟩ := hf
    have h4 := hl.sub _ _ hf
    exact ⟨h4.1, by have := h4.2; omega⟩
  · intro i j k hij hf hf2
    obtain ⟨h, hf⟩ := hf
    obtain ⟨h', hf2⟩ := hf2
    refine hl.dis _ _ k (fun e => hij ?_) hf hf2
    exact (List.getElem_inj (keptIx_nodup keep xs.length)).1 e
  · intro i h h'
    have hq : i < (keptIx keep xs.length).length := by rw [← hLen]; exact h'
    have h3 := hlt i hq
    have h5 : (keptIx keep xs.length)[i] < vss.length := by omega
    have e1 : ((keptIx keep xs.length).map fun i => vss.getD i [])[i]'h = vss[(keptIx keep xs.length)[i]] := by
      rw [List.getElem_map, List.getD_eq_getElem?_getD, List.getElem?_eq_getElem h5]; rfl
    have e2 : ((keptIx keep xs.length).map fun i => xs.getD i default)[i]'h' = xs[(keptIx keep xs.length)[i]] := by
      rw [List.getElem_map, List.getD_eq_getElem?_getD, List.getElem?_eq_getElem h3]; rfl
    rw [e1, e2]
    exact stabRuleG.up _ _ _ _ _ (hE _ h5 h3) (fun k hk => ⟨hq, hk⟩)

end Go.Proofs.YtkmkfpgaehgonaaGreatDoor

namespace Go.Proofs.YtkmkfpgaehgonaaGreatDoor
open Go.RowKit
set_option linter.unusedVariables false

/-- Within a round that began with mR: the rules below i are done. -/
structure RdI (g : List RuleD) (mR m : List Bool) (i : Nat) : Prop where
  snd : Snd (jsG g) g.length m
  sub : Sub mR m
  done : ∀ q, q < i → mR.getD q false = true → ∀ j ∈ jsG g q, m.getD j false = true
structure RdK (g : List RuleD) (mR m : List Bool) (i k : Nat) : Prop where
  base : RdI g mR m i
  got : ∀ q (h : q < (callsB g (i : Int)).length), q < k → m.getD (ruleAtI g (callsB g (i : Int))[q]).toNat false = true
structure RdT (g : List RuleD) (m : List Bool) (t : Nat) : Prop where
  snd : Snd (jsG g) g.length m
  cnt : t + 1 ≤ m.count true ∨ Cl (jsG g) m
theorem RdK.start {g : List RuleD} {mR m : List Bool} {i : Nat} (h : RdI g mR m i) : RdK g mR m i 0 := ⟨h, fun q _ hq => absurd hq (Nat.not_lt_zero _)⟩
theorem RdK.set {g : List RuleD} {mR m : List Bool} {i k : Nat} (hg : gramB g = true) (h : RdK g mR m i k) (hi : i < g.length) (hk : k < (callsB g (i : Int)).length) (hm : m.getD i false = true) : RdK g mR (m.set (ruleAtI g (callsB g (i : Int))[k]).toNat true) i (k + 1) := by
  have hj : (ruleAtI g (callsB g (i : Int))[k]).toNat ∈ jsG g i := by
    rw [jsG]
    exact List.mem_map_of_mem (List.getElem_mem hk)
  obtain ⟨h1, h2, h3⟩ := h.base.snd.set hm hj (jsG_lt hg hi hj)
  refine ⟨⟨h1, h.base.sub.trans h2, fun q hq hmq j hjq => h2 j (h.base.done q hq hmq j hjq)⟩, fun q hq hqk => ?_⟩
  by_cases e : q = k
  · subst e
    exact h3
  · exact h2 _ (h.got q hq (by omega))
theorem RdK.all {g : List RuleD} {mR m : List Bool} {i : Nat} (h : RdK g mR m i (callsB g (i : Int)).length) : RdI g mR m (i + 1) :=
  ⟨h.base.snd, h.base.sub, fun q hq hmq j hj => by
    by_cases e : q = i
    · subst e
      rw [jsG, List.mem_map] at hj
      obtain ⟨nm, hn, rfl⟩ := hj
      obtain ⟨x, hx, rfl⟩ := List.getElem_of_mem hn
      exact h.got x hx hx
    · exact h.base.done q (by omega) hmq j hj⟩
theorem RdK.off {g : List RuleD} {mR m : List Bool} {i k : Nat} (h : RdK g mR m i k) (hm : m.getD i false = false) : RdI g mR m (i + 1) :=
  ⟨h.base.snd, h.base.sub, fun q hq hmq j hj => by
    by_cases e : q = i
    · subst e
      have := h.base.sub q hmq
      rw [hm] at this
      cases this
    · exact h.base.done q (by omega) hmq j hj⟩
theorem RdT.start {g : List RuleD} (h : 0 < g.length) : RdT g ((List.replicate g.length false).set 0 true) 0 := ⟨(snd_first h).1, .inl (snd_first (js := jsG g) h).2⟩
theorem RdI.start {g : List RuleD} {m : List Bool} {t : Nat} (h : RdT g m t) : RdI g m m 0 := ⟨h.snd, Sub.refl m, fun q hq => absurd hq (Nat.not_lt_zero _)⟩
theorem RdI.fin {g : List RuleD} {mR m : List Bool} {t : Nat} (h : RdT g mR t) (h' : RdI g mR m g.length) : RdT g m (t + 1) :=
  ⟨h'.snd, round_more h.snd h'.snd h'.sub (fun i hi j hj => h'.done i (by
    rcases Nat.lt_or_ge i g.length with h1 | h1
    · exact h1
    · rw [List.getD_eq_getElem?_getD, List.getElem?_eq_none (by rw [h.snd.len]; exact h1)] at hi
      cases hi) hi j hj) h.cnt⟩
theorem RdT.fin {g : List RuleD} {m : List Bool} (h : RdT g m g.length) (q : Nat) : m.getD q false = keepT g q := round_end h.snd h.cnt q

theorem callsS_lenT : ∀ (ys : List SymD) (out : List ByteArray), (callsS out ys).length ≤ out.length + ys.length
  | [], out => by simp [callsS]
  | y :: ys, out => by
    rw [callsS]
    have h1 := callsS_lenT ys (if y.kind = 3 then putS out y.text else out)
    have h2 := putS_one15 out y.text
    rw [List.length_cons]
    split at h1 <;> rename_i hk
    · rw [if_pos hk]; omega
    · rw [if_neg hk]; omega
theorem callsA_lenT : ∀ (es : List (List SymD)) (out : List ByteArray), (callsA out es).length ≤ out.length + rowTot altTot es
  | [], out => by simp [callsA]
  | e :: es, out => by
    rw [callsA]
    have h1 := callsA_lenT es (callsS out e)
    have h2 := callsS_lenT e out
    have h3 : e.length ≤ altTot e := rowTot_len symTot e
    have h4 : rowTot altTot (e :: es) = (es.length + 1) + (altTot e + (es.map altTot).sum) := by simp [rowTot]
    have h5 : rowTot altTot es = es.length + (es.map altTot).sum := rfl
    omega
theorem callsB_lenT (g : List RuleD) (i : Int) : (callsB g i).length ≤ grammarTot g := by
  unfold callsB
  split
  · rename_i h
    have hlt : i.toNat < g.length := by omega
    have h1 := callsA_lenT (g.getD i.toNat default).alts []
    have e : g.getD i.toNat default = g[i.toNat] := by rw [List.getD_eq_getElem?_getD, List.getElem?_eq_getElem hlt]; rfl
    rw [e] at h1 ⊢
    have h2 := rowTot_mem ruleTot (List.getElem_mem hlt)
    have h3 : rowTot altTot g[i.toNat].alts ≤ ruleTot g[i.toNat] := by unfold ruleTot; omega
    have h4 : rowTot ruleTot g = grammarTot g := rfl
    simp only [List.length_nil] at h1
    omega
  · simp

end Go.Proofs.YtkmkfpgaehgonaaGreatDoor
