/- A region that draws its order, whose last operations write cells that its loads read: loads are taken first all the same, where the first writer waits for them. No program is named. -/
/- What an Alt may begin with, as the program tells it. -/
import Derived.Test.YtofpoiccghpliaaGreatDoorE18V
import Derived.Deep.RegionHeld3
namespace Go.Proofs.YtofpoiccghpliaaGreatDoor
section
variable {P : Program} {ops : Array Oper} {Q : Exit → Act → World → Prop} {md : Region.Mode} {S : World → Prop} {k : Nat}

/-- Whatever order is picked from here on, and S holds behind every operation that is carried out until number k has come up. -/
def wpAnyK (P : Program) (md : Region.Mode) (ops : Array Oper) (Q : Exit → Act → World → Prop) (S : World → Prop) (k : Nat) : Nat → Array Bool → Act → World → Prop
  | 0, listed, a, w => Region.ready md ops listed = [] ∧ Q .normal a w
  | fuel + 1, listed, a, w =>
    (Region.ready md ops listed = [] → Q .normal a w) ∧
    ∀ i ∈ Region.ready md ops listed, wpOp P ops Q i (fun a' w' => ((listed.setIfInBounds i true).getD k false = true ∨ S w') ∧ wpAnyK P md ops Q S k fuel (listed.setIfInBounds i true) a' w') a w

theorem wpAny_of_K : ∀ (fuel : Nat) (listed : Array Bool) (a : Act) (w : World), wpAnyK P md ops Q S k fuel listed a w → wpAny P md ops Q fuel listed a w
  | 0, _, _, _, h => h
  | fuel + 1, _, _, _, h => ⟨h.1, fun i hi => wpOp_mono (fun a' w' h' => wpAny_of_K fuel _ a' w' h'.2) (h.2 i hi)⟩

/-- What is listed has all listed that it waits for. -/
def ClosedK (md : Region.Mode) (ops : Array Oper) (listed : Array Bool) : Prop :=
  ∀ j oj, ops[j]? = some oj → listed.getD j false = true → ∀ e ∈ oj.after, Region.binds md e = true → listed.getD e.on false = true
def edgeK (md : Region.Mode) (ops : Array Oper) (x y : Nat) : Bool := match ops[x]? with
  | some o => o.after.any fun e => Region.binds md e && e.on == y
  | none => false
/-- Each waits for the next. -/
def pathK (md : Region.Mode) (ops : Array Oper) : List Nat → Bool
  | x :: y :: r => edgeK md ops x y && pathK md ops (y :: r)
  | _ => true
theorem ClosedK.edge {listed : Array Bool} (h : ClosedK md ops listed) {x y : Nat} (he : edgeK md ops x y = true) (hx : listed.getD x false = true) : listed.getD y false = true := by
  unfold edgeK at he
  cases ho : ops[x]? with
  | none => rw [ho] at he; cases he
  | some o =>
    rw [ho] at he
    obtain ⟨e, hm, hb⟩ := Array.any_eq_true'.1 he
    rw [Bool.and_eq_true, beq_iff_eq] at hb
    rw [← hb.2]
    exact h x o ho hx e hm hb.1
theorem ClosedK.path {listed : Array Bool} (h : ClosedK md ops listed) : ∀ (l : List Nat) (x i : Nat), pathK md ops (x :: l) = true → (x :: l).getLast? = some i → listed.getD x false = true → listed.getD i false = true
  | [], x, i, _, hl, hx => by cases hl; exact hx
  | y :: l, x, i, hp, hl, hx => by
    rw [pathK, Bool.and_eq_true] at hp
    refine ClosedK.path h l y i hp.2 ?_ (h.edge hp.1 hx)
    rw [← hl]
    simp
theorem getK_set {listed : Array Bool} {j i : Nat} : (listed.setIfInBounds j true).getD i false = if j = i ∧ i < listed.size then true else listed.getD i false := by
  simp only [Array.getD_eq_getD_getElem?, Array.getElem?_setIfInBounds]
  by_cases h : j = i
  · subst h
    by_cases h2 : j < listed.size
    · simp [h2]
    · simp [h2]
  · simp [h]
theorem ClosedK.set {listed : Array Bool} (h : ClosedK md ops listed) {j : Nat} (hj : j ∈ Region.ready md ops listed) : ClosedK md ops (listed.setIfInBounds j true) := by
  intro x ox hox hx e he hb
  have key : listed.getD e.on false = true → (listed.setIfInBounds j true).getD e.on false = true := fun h1 => by
    rw [getK_set]
    split
    · rfl
    · exact h1
  rw [getK_set] at hx
  split at hx
  · rename_i hjx
    obtain ⟨hjun, oj, hoj, hall⟩ := mem_ready.1 hj
    rw [hjx.1] at hoj
    rw [hox] at hoj
    cases hoj
    exact key (hall e he hb)
  · exact key (h x ox hox hx e he hb)
theorem ClosedK.start (n : Nat) : ClosedK md ops (Array.replicate n false) := fun j oj _ hj => by
  simp only [Array.getD_eq_getD_getElem?, Array.getElem?_replicate] at hj
  split at hj <;> cases hj
theorem unlisted_K {listed : Array Bool} {i : Nat} (hr : i ∈ Region.ready md ops listed) : listed.getD i false = false := by
  have h0 := (mem_ready.1 hr).1
  rcases Nat.lt_or_ge i listed.size with h' | h'
  · simp only [Array.getD_eq_getD_getElem?] at h0 ⊢
    rw [Array.getElem?_eq_getElem h'] at h0 ⊢
    simpa using h0
  · simp only [Array.getD_eq_getD_getElem?, Array.getElem?_eq_none h']
    rfl

/-- An operation taken first: T is what it asks of the world: S, where k waits for it; else nothing. -/
theorem wpAnyK_first {i : Nat} {oi : Oper} {v : Value} {T : World → Prop} (hi : ops[i]? = some oi) (hsel : ∀ (j : Nat) (o : Oper) cs b, ops[j]? = some o → o.op ≠ .select cs b)
    (hQ : ∀ c a w, Q (.panic c) (a.put oi.dst v) w → Q (.panic c) a w)
    (hki : k ≠ i) (hT : (∀ w, T w) ∨ (∀ w, S w → T w) ∧ ∃ l, pathK md ops (k :: l) = true ∧ (k :: l).getLast? = some i) :
    ∀ (fuel : Nat) (listed : Array Bool) (a : Act) (w : World), ClosedK md ops listed →
      (∀ j oj, ops[j]? = some oj → j ≠ i → listed.getD j true = false → (∀ e ∈ oj.after, Region.binds md e = true → e.on ≠ i) → oi.apart ops oj = true) →
      i ∈ Region.ready md ops listed → YieldsIf P ops T oi v a → T w → ((listed.setIfInBounds i true).getD k false = true ∨ S w) →
      wpAnyK P md ops Q S k fuel (listed.setIfInBounds i true) (a.put oi.dst v) w → wpAnyK P md ops Q S k (fuel + 1) listed a w := by
  intro fuel
  induction fuel with
  | zero =>
    intro listed a w _ _ hr hy hTw hS H
    refine ⟨fun h => (by rw [h] at hr; cases hr), fun j hj => ?_⟩
    by_cases hji : j = i
    · subst hji; exact hy.wpOp hi hTw ⟨hS, H⟩
    · have := ready_mono hj hji
      rw [H.1] at this
      cases this
  | succ fuel ih =>
    intro listed a w hcl hfree hr hy hTw hS H
    refine ⟨fun h => (by rw [h] at hr; cases hr), fun j hj => ?_⟩
    by_cases hji : j = i
    · subst hji; exact hy.wpOp hi hTw ⟨hS, H⟩
    · have h1 := H.2 j (ready_mono hj hji)
      obtain ⟨hjun, oj, hoj, hall⟩ := mem_ready.1 hj
      have hiun := unlisted_K hr
      have hnot : ∀ e ∈ oj.after, Region.binds md e = true → e.on ≠ i := fun e he hb heq => by
        have h1 := hall e he hb
        rw [heq] at h1
        rw [hiun] at h1
        cases h1
      have h2 := wpOp_putIf hoj (hfree j oj hoj hji hjun hnot) (fun cs b => hsel i oi cs b hi) (fun cs b => hsel j oj cs b hoj) hQ hy h1
      have hfree' : ∀ k ok, ops[k]? = some ok → k ≠ i → (listed.setIfInBounds j true).getD k true = false →
          (∀ e ∈ ok.after, Region.binds md e = true → e.on ≠ i) → oi.apart ops ok = true := fun k ok hk hki hun hno => by
        refine hfree k ok hk hki ?_ hno
        by_cases hjk : j = k
        · subst hjk; exact hjun
        · rw [getD_set_ne true hjk] at hun; exact hun
      have hcl' := hcl.set hj
      have hcomm : ((listed.setIfInBounds j true).setIfInBounds i true) = ((listed.setIfInBounds i true).setIfInBounds j true) := Array.setIfInBounds_comm _ _ hji
      refine wpOp_mono (fun a' w' h3 => ?_) h2
      have hor : ((listed.setIfInBounds j true).setIfInBounds i true).getD k false = true ∨ S w' := by rw [hcomm]; exact h3.2.1
      have hii : (listed.setIfInBounds j true).getD i false = false := by
        rw [getK_set, if_neg (fun h => hji h.1)]
        exact hiun
      have hTS : T w' ∧ ((listed.setIfInBounds j true).getD k false = true ∨ S w') := by
        have hor2 : (listed.setIfInBounds j true).getD k false = true ∨ S w' := by
          rcases hor with h4 | h4
          · rw [getK_set, if_neg (fun h => hki h.1.symm)] at h4
            exact .inl h4
          · exact .inr h4
        rcases hT with hT | ⟨hT, l, hp, hl⟩
        · exact ⟨hT w', hor2⟩
        · rcases hor2 with h4 | h4
          · have := hcl'.path l k i hp hl h4
            rw [hii] at this
            cases this
          · exact ⟨hT w' h4, .inr h4⟩
      refine ⟨hTS.2, ih (listed.setIfInBounds j true) a' w' hcl' hfree' (ready_mono hr (Ne.symm hji)) h3.1 hTS.1 hor ?_⟩
      rw [hcomm]
      exact h3.2.2

/-- Taken first: it asks S, and number k waits for it (l: who waits for whom, from k on). -/
theorem wpAnyK_take (l : List Nat) {i : Nat} {d : Option Tmp} {oi : Oper} {v : Value} {fuel : Nat} {listed : Array Bool} {a : Act} {w : World} (hcl : ClosedK md ops listed) (hi : ops[i]? = some oi)
    (hs : Region.noSelect ops = true) (hf : Region.free md ops listed i = true) (hr : (Region.ready md ops listed).contains i = true) (hp : pathK md ops (k :: l) = true) (hl : (k :: l).getLast? = some i) (hki : k ≠ i) (hd : oi.dst = d)
    (hQ : ∀ c a w, Q (.panic c) (a.put d v) w → Q (.panic c) a w) (hy : YieldsIf P ops S oi v a) (hS : S w)
    (h : ClosedK md ops (listed.setIfInBounds i true) → wpAnyK P md ops Q S k fuel (listed.setIfInBounds i true) (a.put d v) w) : wpAnyK P md ops Q S k (fuel + 1) listed a w := by
  subst hd
  have hr' : i ∈ Region.ready md ops listed := by simpa using hr
  exact wpAnyK_first hi (Region.noSelect_spec hs) hQ hki (.inr ⟨fun _ h => h, l, hp, hl⟩) fuel listed a w hcl (Region.free_spec hi hf) hr' hy hS (.inr hS) (h (hcl.set hr'))
/-- Taken first: it asks nothing of the world. -/
theorem wpAnyK_free {i : Nat} {d : Option Tmp} {oi : Oper} {v : Value} {fuel : Nat} {listed : Array Bool} {a : Act} {w : World} (hcl : ClosedK md ops listed) (hi : ops[i]? = some oi)
    (hs : Region.noSelect ops = true) (hf : Region.free md ops listed i = true) (hr : (Region.ready md ops listed).contains i = true) (hki : k ≠ i) (hd : oi.dst = d)
    (hQ : ∀ c a w, Q (.panic c) (a.put d v) w → Q (.panic c) a w) (hy : YieldsIf P ops (fun _ => True) oi v a) (hS : (listed.setIfInBounds i true).getD k false = true ∨ S w)
    (h : ClosedK md ops (listed.setIfInBounds i true) → wpAnyK P md ops Q S k fuel (listed.setIfInBounds i true) (a.put d v) w) : wpAnyK P md ops Q S k (fuel + 1) listed a w := by
  subst hd
  have hr' : i ∈ Region.ready md ops listed := by simpa using hr
  exact wpAnyK_first hi (Region.noSelect_spec hs) hQ hki (.inl fun _ => trivial) fuel listed a w hcl (Region.free_spec hi hf) hr' hy trivial hS (h (hcl.set hr'))
/-- One alone may come up: it is carried out, and S is shown anew behind it. -/
theorem wpAnyK_one {i : Nat} {o : Oper} {fuel : Nat} {listed : Array Bool} {a : Act} {w : World} (hcl : ClosedK md ops listed) (hr : Region.ready md ops listed = [i]) (ho : ops[i]? = some o)
    (h : ∀ K' : Act → World → Prop, Shut (∀ a w, S w → (ClosedK md ops (listed.setIfInBounds i true) → wpAnyK P md ops Q S k fuel (listed.setIfInBounds i true) a w) → K' a w) → if Region.wanted o (yielded ops a.tmps) = true then Oper.wp P o a w K' Q else K' (a.put o.dst undef) w) : wpAnyK P md ops Q S k (fuel + 1) listed a w :=
  ⟨fun h0 => (by rw [hr] at h0; cases h0), fun j hj => by
    have hj' := hj
    rw [hr, List.mem_singleton] at hj
    subst hj
    exact wpOp_step ho (fun K' hK => h K' (fun a w hS hW => hK a w ⟨.inr hS, hW (hcl.set hj')⟩))⟩
/-- One alone may come up, and number k has come up with it: nothing is to be shown behind it. -/
theorem wpAnyK_past {i : Nat} {o : Oper} {fuel : Nat} {listed : Array Bool} {a : Act} {w : World} (hcl : ClosedK md ops listed) (hr : Region.ready md ops listed = [i]) (ho : ops[i]? = some o) (hk : (listed.setIfInBounds i true).getD k false = true)
    (h : ∀ K' : Act → World → Prop, Shut (∀ a w, (ClosedK md ops (listed.setIfInBounds i true) → wpAnyK P md ops Q S k fuel (listed.setIfInBounds i true) a w) → K' a w) → if Region.wanted o (yielded ops a.tmps) = true then Oper.wp P o a w K' Q else K' (a.put o.dst undef) w) : wpAnyK P md ops Q S k (fuel + 1) listed a w :=
  ⟨fun h0 => (by rw [hr] at h0; cases h0), fun j hj => by
    have hj' := hj
    rw [hr, List.mem_singleton] at hj
    subst hj
    exact wpOp_step ho (fun K' hK => h K' (fun a w hW => hK a w ⟨.inl hk, hW (hcl.set hj')⟩))⟩
theorem wpAnyK_done {fuel : Nat} {listed : Array Bool} {a : Act} {w : World} (hr : Region.ready md ops listed = []) (h : Q .normal a w) : wpAnyK P md ops Q S k fuel listed a w := by
  cases fuel with
  | zero => exact ⟨hr, h⟩
  | succ n => exact ⟨fun _ => h, by rw [hr]; simp⟩
theorem wp_region_K {id : Nat} {a : Act} {w : World} (hm : P.follows .mixedOrders = true) (hS : S w.drew)
    (h : S w.drew → ClosedK .any ops (Array.replicate ops.size false) → wpAnyK P .any ops Q S k ops.size (Array.replicate ops.size false) a w.drew) : (Code.region id ops true).wp P Q a w :=
  wp_region_any hm (wpAny_of_K _ _ _ _ (h hS (ClosedK.start _)))
end
end Go.Proofs.YtofpoiccghpliaaGreatDoor

namespace Go.Proofs.YtofpoiccghpliaaGreatDoor
open Go.RowKit
set_option linter.unusedVariables false
set_option maxRecDepth 100000

section
variable {ops : Array Oper} {op : Oper} {a : Act} {w : World} {Q : Exit → Act → World → Prop} {K : Act → World → Prop} {S : World → Prop} {tb n i : Nat} {F p q : List Bool}
theorem wp_store18 (x y : Operand) (ho : op.op = .store 49 x y) (hx : a.eval x = .pointer (some ⟨tb, 0, none⟩)) (hy : a.eval y = .agg (flV18 p).toArray) (hT : TabF tb F w) (hF : F.length = 257) (hp : p.length = 257)
    (h : K (a.put op.dst undef) (putW18 w tb p)) : op.wp Tryz.prog a w K Q := by
  unfold Oper.wp execOp
  have := hT.store1 hF hp
  unfold bgV at this
  simp only [ho, hx, hy, Sem.run_bind, this, Result.andThen_ok]
  exact h
theorem yields_load1 (hw : Region.wanted op (yielded ops a.tmps) = true) (x : Operand) (ho : op.op = .load 49 x) (hx : a.eval x = .pointer (some ⟨tb, 0, none⟩)) (hS : ∀ w, S w → TabF tb p w) (hp : p.length = 257) : YieldsIf Tryz.prog ops S op (.agg (flV18 p).toArray) a :=
  .inl ⟨hw, fun w hw' => by
    unfold execOp
    have := (hS w hw').load1 hp
    unfold bgV at this
    simp only [ho, hx, Sem.run_bind, this, Result.andThen_ok, Sem.run_pure]⟩
theorem yields_load18 {o : Nat} (hw : Region.wanted op (yielded ops a.tmps) = true) (x : Operand) (ho : op.op = .load 49 x) (hx : a.eval x = .pointer (some ⟨tb, o, none⟩)) (hoi : o = 257 * i) (hS : ∀ w, S w → TabF tb F w) (hl : F.length = 257 * n) (hi : i < n) : YieldsIf Tryz.prog ops S op (.agg (flV18 (chk F i)).toArray) a :=
  .inl ⟨hw, fun w hw' => by
    subst hoi
    unfold execOp
    have := (hS w hw').load hl hi
    unfold bgV at this
    simp only [ho, hx, Sem.run_bind, this, Result.andThen_ok, Sem.run_pure]⟩
end
/-- What is asked of a Sym: it is one of a right grammar. -/
def SymR (g : List RuleD) (x : SymD) : Prop := (x.kind = 1 ∨ x.kind = 2 ∨ x.kind = 3 ∨ x.kind = 4) ∧ (x.kind = 1 → 1 ≤ x.text.size) ∧ (x.kind = 3 → 0 ≤ ruleAtI g x.text ∧ ruleAtI g x.text < (g.length : Int)) ∧ x.text.size ≤ 1048576

theorem cell_drew18 {w : World} {a : Addr} {v : Value} (h : w.cell? a = some v) : w.drew.cell? a = some v := h

set_option maxHeartbeats 3200000 in
theorem implAlt18_any (g : List RuleD) (ys : List SymD) (ga sa : Option Addr) (gc sc tb : Nat) (F : List Bool) (w : World) (hgl : g.length ≤ 1048576) (hyl : ys.length ≤ 1048576) (hg : RowC 3 RuleE w (.slice ga g.length gc) g) (hy : RowC 4 SymE w (.slice sa ys.length sc) ys) (hys : ∀ y ∈ ys, SymR g y) (hF : F.length = 257 * g.length) (hT : TabF tb F w) (hz : TzTab w) :
    Calls Tryz.prog 30 #[.agg #[.slice ga g.length gc], .agg #[.slice sa ys.length sc], .slice (some ⟨tb, 0, none⟩) g.length g.length] w fun e w' =>
      ∃ l, e = .returned (.agg (flV18 l).toArray) ∧ l.length = 257 ∧ l.getD 0 false = altN g (heads F g.length) ys ∧ Below w.heap.size w w' := by
  have b1 : ∀ (W : World) (o : Obj), Below W.heap.size W (W.alloc o) := fun W o => (Below.refl _ _).alloc (Nat.le_refl _) _
  have s1 : (w.alloc (.cells #[.slice ga g.length gc] 30)).heap.size = w.heap.size + 1 := by simp
  have s2 : ((w.alloc (.cells #[.slice ga g.length gc] 30)).alloc (.cells #[.slice sa ys.length sc] 63)).heap.size = w.heap.size + 1 + 1 := by simp
  have BW : Hid (Below w.heap.size w (((w.alloc (.cells #[.slice ga g.length gc] 30)).alloc (.cells #[.slice sa ys.length sc] 63)).alloc (.cells Tryz.zeroCells49 49))) :=
    ((b1 _ _).trans ((b1 _ _).mono (by rw [s1]; omega))).trans ((b1 _ _).mono (by rw [s2]; omega))
  have e0 := cell_keep (cell_keep (box_at w #[.slice ga g.length gc] 30 0 (.slice ga g.length gc) rfl) (b1 _ (.cells #[.slice sa ys.length sc] 63))) (b1 _ (.cells Tryz.zeroCells49 49))
  have y0 := cell_keep (box_at (w.alloc (.cells #[.slice ga g.length gc] 30)) #[.slice sa ys.length sc] 63 0 (.slice sa ys.length sc) rfl) (b1 _ (.cells Tryz.zeroCells49 49))
  have T6 : Hid (TabF (w.heap.size + 1 + 1) zL18 (((w.alloc (.cells #[.slice ga g.length gc] 30)).alloc (.cells #[.slice sa ys.length sc] 63)).alloc (.cells Tryz.zeroCells49 49))) := by
    have h := tab_new ((w.alloc (.cells #[.slice ga g.length gc] 30)).alloc (.cells #[.slice sa ys.length sc] 63)) zL18
    have hz := flZero18
    rw [Value.agg.injEq] at hz
    rw [s2, ← hz] at h
    exact h
  have HSt : Hid (∀ W, Below w.heap.size w W → RowC 3 RuleE W (.slice ga g.length gc) g ∧ RowC 4 SymE W (.slice sa ys.length sc) ys ∧ TabF tb F W ∧ TzTab W) := fun W hb => ⟨RowC.below RuleE_stable hg hb, RowC.below SymE_stable hy hb, hT.keep hb, hz.below hb⟩
  have HRow : Hid (RowC 4 SymE w (.slice sa ys.length sc) ys) := hy
  have HF : Hid (F.length = 257 * g.length) := hF
  have HR : Hid (zL18.length = 257) := zL18_len
  have HY : Hid (∀ y ∈ ys, SymR g y) := hys
  have HSy : Hid (∀ (x : SymD) (ar : Option Addr) (cr : Nat) W, RowC 3 RuleE W (.slice ga g.length gc) g → TabF tb F W → TzTab W → SymR g x → _) := fun x ar cr W h1 h2 h3 h4 => implSym18_any g x ga ar gc cr tb F W hgl h1 hF h2 h3 h4.1 h4.2.1 h4.2.2.1 h4.2.2.2
  have HTh : Hid (∀ (p q : List Bool) W, p.length = 257 → q.length = 257 → _) := fun p q W hp hq => implThen_any p q W hp hq
  rw [s1] at y0
  clear hg hT hz b1 s1 s2 hF hgl hy hys
  go_enter Tryz.func30, Tryz.ntmps30
  go_upto_region 1 with fail
  generalize (((w.alloc (.cells #[.slice ga g.length gc] 30)).alloc (.cells #[.slice sa ys.length sc] 63)).alloc (.cells Tryz.zeroCells49 49)) = w0 at *
  have hz := flZero18
  rw [Value.agg.injEq] at hz
  have T7 := tab_new w0 zL18
  rw [← hz] at T7
  clear hz
  have HO : Hid (oL18.length = 257) := oL18_len
  have HO0 : Hid (oL18.getD 0 false = true) := oL18_0
  have T7b := T7.put oL18
  have B7 : Below w0.heap.size w0 (putW18 (w0.alloc (.cells Tryz.zeroCells49 49)) w0.heap.size oL18) := below_put18 ((Below.refl _ _).alloc (Nat.le_refl _) _) (Nat.le_refl _)
  go_upto_region 2 with (first | (refine wpl_build1 rfl _ rfl rfl ?_) | (refine wpl_store1 rfl _ _ rfl rfl rfl T7 HR.out HO.out ?_))
  generalize putW18 (w0.alloc (.cells Tryz.zeroCells49 49)) w0.heap.size oL18 = w1 at *
  generalize oL18 = l0 at *
  generalize zL18 = z at *
  have y1 := cell_keep y0 B7
  have TA : Hid (TabF w0.heap.size l0 w1) := T7b
  have BA : Hid (Below w0.heap.size w0 w1) := B7
  have T6A : Hid (TabF (w.heap.size + 1 + 1) z w1) := T6.out.keep B7
  have y0c := y0
  clear T7 T7b B7 y0
  go_wp2_with fail
  go_loopw [14] (fun iv wr => ∃ (i : Nat) (l : List Bool), iv = .int .i64 i ∧ i ≤ ys.length ∧ l.length = 257 ∧ l.getD 0 false = (ys.take i).all (symN g (heads F g.length)) ∧ TabF w0.heap.size l wr ∧ Below w0.heap.size w0 wr) (fun iv _ => ys.length - (intOf iv).toNat)
  case atStart => exact ⟨0, l0, rfl, Nat.zero_le _, HO.out, HO0.out, TA.out, BA.out⟩
  case round =>
    clear TA BA T6A y1
    obtain ⟨i, l, rfl, hil, hl, hl0, ht, hb⟩ := hrel
    obtain ⟨wi, rfl⟩ : ∃ W, W = wr := ⟨wr, rfl⟩
    have HL : Hid (l.length = 257 ∧ l.getD 0 false = (ys.take i).all (symN g (heads F g.length))) := ⟨hl, hl0⟩
    have HT : Hid (TabF w0.heap.size l wi) := ht
    have HB : Hid (Below w0.heap.size w0 wi) := hb
    clear hl hl0 ht hb
    by_cases hlt : i < ys.length
    · obtain ⟨bs, os, vss, rfl, _, hcs, hEs⟩ := HRow.out.at hlt
      obtain ⟨rs, rfl, hxs⟩ := hEs
      obtain ⟨ar, cr, rfl⟩ := hxs.slice
      have BWi := BW.out.trans (HB.out.mono BW.out.size)
      have s0 := cell_keep (hcs 0 (by simp)) BWi
      have s1 := cell_keep (hcs 1 (by simp)) BWi
      have s2 := cell_keep (hcs 2 (by simp)) BWi
      have s3 := cell_keep (hcs 3 (by simp)) BWi
      simp only [List.getElem_cons_zero, List.getElem_cons_succ, Nat.add_zero] at s0 s1 s2 s3
      have HX : Hid (SymR g ys[i]) := HY.out _ (List.getElem_mem hlt)
      have HN : Hid (_ = _) := all_next18 (g := g) (m := heads F g.length) (a := ys) hlt
      have i4 : (i : Int) < (ys.length : Int) := by omega
      clear hcs hxs
      generalize ys[i] = x at *
      have HB2 : Hid (Below wi.heap.size wi (wi.alloc (.cells #[.int .i64 x.kind, .string x.text, .slice ar x.args.length cr, .string x.bind] 66))) := (Below.refl _ _).alloc (Nat.le_refl _) _
      have b0 := box_at wi #[.int .i64 x.kind, .string x.text, .slice ar x.args.length cr, .string x.bind] 66 0 (.int .i64 x.kind) rfl
      have b1 := box_at wi #[.int .i64 x.kind, .string x.text, .slice ar x.args.length cr, .string x.bind] 66 1 (.string x.text) rfl
      have b2 := box_at wi #[.int .i64 x.kind, .string x.text, .slice ar x.args.length cr, .string x.bind] 66 2 (.slice ar x.args.length cr) rfl
      have b3 := box_at wi #[.int .i64 x.kind, .string x.text, .slice ar x.args.length cr, .string x.bind] 66 3 (.string x.bind) rfl
      go_upto_region 5 with fail
      clear s0 s1 s2 s3
      have c0 := cell_keep (cell_keep e0 HB.out) HB2.out
      refine wp_region_K (k := 5) (S := fun V => TabF w0.heap.size l V ∧ V.cell? ⟨w.heap.size, 0, none⟩ = some (.slice ga g.length gc) ∧ V.cell? ⟨wi.heap.size, 0, none⟩ = some (.int .i64 x.kind) ∧ V.cell? ⟨wi.heap.size, 1, none⟩ = some (.string x.text) ∧ V.cell? ⟨wi.heap.size, 2, none⟩ = some (.slice ar x.args.length cr) ∧ V.cell? ⟨wi.heap.size, 3, none⟩ = some (.string x.bind)) (by kernel_rfl) ?_ (fun hHeld hcl => ?_)
      · exact ⟨HT.out.keep HB2.out.drew, c0, b0, b1, b2, b3⟩
      refine wpAnyK_take [0] (i := 0) (d := some 18) (by assumption) rfl (by kernel_rfl) (by kernel_rfl) (by kernel_rfl) (by kernel_rfl) (by kernel_rfl) (by decide) (by rfl) (fun _ _ _ h => h) (yields_load1 (by rfl) _ rfl rfl (fun V hV => hV.1) HL.out.1) (by assumption) (fun hcl0 => ?_)
      clear hcl
      simp only [Act.put, List.setIfInBounds_toArray, List.set_cons_zero, List.set_cons_succ]
      refine wpAnyK_take [4, 1] (i := 1) (d := some 19) (v := .agg #[.slice ga g.length gc]) (by assumption) rfl (by kernel_rfl) (by kernel_rfl) (by kernel_rfl) (by kernel_rfl) (by kernel_rfl) (by decide) (by rfl) (fun _ _ _ h => h) (Or.inl ⟨by rfl, ?_⟩) (by assumption) (fun hcl1 => ?_)
      · (intro V hSw; (try dsimp only at hSw); go_simp)
      clear hcl0
      simp only [Act.put, List.setIfInBounds_toArray, List.set_cons_zero, List.set_cons_succ]
      refine wpAnyK_take [4, 2] (i := 2) (d := some 20) (v := .agg #[.int .i64 x.kind, .string x.text, .slice ar x.args.length cr, .string x.bind]) (by assumption) rfl (by kernel_rfl) (by kernel_rfl) (by kernel_rfl) (by kernel_rfl) (by kernel_rfl) (by decide) (by rfl) (fun _ _ _ h => h) (Or.inl ⟨by rfl, ?_⟩) (by assumption) (fun hcl2 => ?_)
      · (intro V hSw; (try dsimp only at hSw); go_simp)
      clear hcl1
      simp only [Act.put, List.setIfInBounds_toArray, List.set_cons_zero, List.set_cons_succ]
      refine wpAnyK_free (i := 3) (d := some 21) (v := .slice (some ⟨tb, 0, none⟩) g.length g.length) (by assumption) rfl (by kernel_rfl) (by kernel_rfl) (by kernel_rfl) (by decide) (by rfl) (fun _ _ _ h => h) (Or.inl ⟨by rfl, ?_⟩) (.inr (by assumption)) (fun hcl3 => ?_)
      · (intro V hSw; (try dsimp only at hSw); go_simp)
      clear hcl2
      simp only [Act.put, List.setIfInBounds_toArray, List.set_cons_zero, List.set_cons_succ]
      refine wpAnyK_one (i := 4) (by assumption) (by kernel_rfl) rfl (fun K hK => ?_)
      go_simp
      go_at_call 45
      have BD : Hid (Below wi.heap.size wi (wi.alloc (.cells #[.int .i64 x.kind, .string x.text, .slice ar x.args.length cr, .string x.bind] 66)).drew) := HB2.out.drew
      have HD := HSt.out _ (BW.out.trans ((HB.out.trans (BD.out.mono HB.out.size)).mono BW.out.size))
      refine (HSy.out x ar cr _ HD.1 HD.2.2.1 HD.2.2.2 HX.out).mono ?_
      rintro e w4 ⟨q, rfl, hq, hq0, hb4⟩
      obtain ⟨t0, t1, t2, t3, t4, t5⟩ := hHeld
      have hS4 : TabF w0.heap.size l w4 ∧ w4.cell? ⟨w.heap.size, 0, none⟩ = some (.slice ga g.length gc) ∧ w4.cell? ⟨wi.heap.size, 0, none⟩ = some (.int .i64 x.kind) ∧ w4.cell? ⟨wi.heap.size, 1, none⟩ = some (.string x.text) ∧ w4.cell? ⟨wi.heap.size, 2, none⟩ = some (.slice ar x.args.length cr) ∧ w4.cell? ⟨wi.heap.size, 3, none⟩ = some (.string x.bind) :=
        ⟨t0.keep hb4, cell_keep t1 hb4, cell_keep t2 hb4, cell_keep t3 hb4, cell_keep t4 hb4, cell_keep t5 hb4⟩
      have HB4 : Hid (Below w0.heap.size w0 w4) := (HB.out.trans (BD.out.mono HB.out.size)).trans (hb4.mono (Nat.le_trans HB.out.size BD.out.size))
      have HQ : Hid (q.length = 257) := hq
      have HQ0 : Hid (q.getD 0 false = symN g (heads F g.length) x) := hq0
      clear hq hq0
      clear b0 b1 b2 b3 c0 t0 t1 t2 t3 t4 t5 hb4 HB2 BD HD HT HB
      go_simp
      refine hK.out _ _ hS4 (fun hcl4 => ?_)
      refine wpAnyK_past (i := 5) (by assumption) (by kernel_rfl) rfl (by kernel_rfl) (fun K hK => ?_)
      go_simp
      go_at_call 44
      refine (HTh.out l q _ HL.out.1 HQ.out).mono ?_
      rintro e w5 ⟨l5, rfl, hl5, h5, hb5⟩
      have T5 := hS4.1.keep hb5
      have HB5 := HB4.out.trans (hb5.mono HB4.out.size)
      have HV : Hid (l5.getD 0 false = (ys.take (i + 1)).all (symN g (heads F g.length))) := by rw [Hid, h5, HL.out.2, HQ0.out, HN.out]
      clear h5 hS4 hb5
      go_simp
      refine hK.out _ _ (fun hcl5 => ?_)
      refine wpAnyK_past (i := 6) (by assumption) (by kernel_rfl) rfl (by kernel_rfl) (fun K hK => ?_)
      rw [if_pos (by rfl)]
      refine wp_store18 _ _ rfl rfl rfl T5 HL.out.1 hl5 (hK.out _ _ (fun hcl6 => ?_))
      refine wpAnyK_done (by kernel_rfl) ?_
      clear hcl3 hcl4 hcl5 hcl6
      go_wp2
      go_roundw
      case rel => exact ⟨i + 1, l5, by go_num, by omega, hl5, HV.out, T5.put l5, below_put18 HB5 (Nat.le_refl _)⟩
      case measure => simp [intOf]; omega
    · obtain rfl : i = ys.length := by omega
      have i4 : ¬ ((ys.length : Int) < (ys.length : Int)) := by omega
      have T6Z := T6.out.keep HB.out
      go_wp2_with (first | (refine wpl_load1 rfl _ rfl rfl HT.out HL.out.1 ?_) | (refine wpl_store1 rfl _ _ rfl rfl rfl T6Z HR.out HL.out.1 ?_))
      refine ret18 rfl rfl rfl (T6Z.put l) HL.out.1 ?_
      have he : l.getD 0 false = altN g (heads F g.length) ys := by rw [HL.out.2, List.take_length]; rfl
      exact ⟨l, rfl, HL.out.1, he, below_put18 (BW.out.trans (HB.out.mono BW.out.size)) (by omega)⟩
end Go.Proofs.YtofpoiccghpliaaGreatDoor
