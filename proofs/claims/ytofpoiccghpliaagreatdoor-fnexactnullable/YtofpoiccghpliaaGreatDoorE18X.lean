/- What is kept by the types of rows: what lies below B, and every row whose type is none of some. -/
/- What one Alt brings is joined into its rule's flags: the closure that is kept in a variable. -/
import Derived.Test.YtofpoiccghpliaaGreatDoorRO
import Derived.Test.YtofpoiccghpliaaGreatDoorXKit2
import Derived.Test.YtofpoiccghpliaaGreatDoorE18W
import Derived.Deep.CutRange
namespace Go.Proofs.YtofpoiccghpliaaGreatDoor
open Go.RowKit
set_option linter.unusedVariables false

/-- What is kept: what lies below B, and every row whose type is none of ts. -/
structure FrT (ts : List TypeId) (B : Nat) (w w' : World) : Prop where
  bel : Below B w w'
  typ : ∀ (k : Nat) (c : Array Value) (t : TypeId) (fr : Nat × Nat), w.heap[k]? = some (.cells c t fr) → t ∉ ts → w'.heap[k]? = some (.cells c t fr)
section
variable {ts : List TypeId} {B B' : Nat} {w w' w1 w2 : World}
theorem FrT.refl (ts : List TypeId) (B : Nat) (w : World) : FrT ts B w w := ⟨Below.refl _ _, fun _ _ _ _ h _ => h⟩
theorem FrT.trans (h : FrT ts B w w1) (k : FrT ts B w1 w2) : FrT ts B w w2 :=
  ⟨h.bel.trans k.bel, fun b c t fr hb h1 => k.typ b c t fr (h.typ b c t fr hb h1) h1⟩
theorem FrT.below (h : Below w.heap.size w w') (hB : B ≤ w.heap.size) : FrT ts B w w' :=
  ⟨h.mono hB, fun k c t fr hk _ => (h.block k (Array.getElem?_eq_some_iff.1 hk).1).trans hk⟩
theorem FrT.base (h : FrT ts B w w') (hB : B' ≤ B) : FrT ts B' w w' := ⟨h.bel.mono hB, h.typ⟩
theorem FrT.wide {ts' : List TypeId} (h : FrT ts B w w') (ht : ∀ t ∈ ts, t ∈ ts') : FrT ts' B w w' := ⟨h.bel, fun k c t fr hk hn => h.typ k c t fr hk (fun hm => hn (ht t hm))⟩
/-- Behind a step that turns nothing of what lay in the first world. -/
theorem FrT.new (h : FrT ts B w w1) (k : Below w.heap.size w1 w2) (hB : B ≤ w.heap.size) : FrT ts B w w2 :=
  ⟨h.bel.trans (k.mono hB), fun b c t fr hb h1 => (k.block b (Array.getElem?_eq_some_iff.1 hb).1).trans (h.typ b c t fr hb h1)⟩
theorem own_frT {e : TypeId} {s n : Nat} {v : Value} {cs : List Value} (h : w.ownsRow B' e s v n cs) (hf : FrT ts B w w') (h1 : e ∉ ts) : w'.ownsRow B' e s v n cs := by
  refine ⟨h.1, ?_⟩
  rcases h.2 with hn | ⟨g, cap, cur, rfl, hB, hc, r⟩
  · exact .inl hn
  · exact .inr ⟨g, cap, cur, rfl, hB, hf.typ g cur e (0, 0) hc h1, r⟩
theorem ownZ_fr {v : Value} {ks : List Int} (h : OwnZ B' v ks w) (hf : FrT ts B w w') (ht : 3 ∉ ts) : OwnZ B' v ks w' := own_frT h hf ht
end

theorem setCell_self {w : World} {p j : Nat} {c : Array Value} {t : TypeId} {fr : Nat × Nat} (u : Value) (h : w.heap[p]? = some (.cells c t fr)) : (w.setCell ⟨p, j, none⟩ u).heap[p]? = some (.cells (c.setIfInBounds j u) t fr) := by
  simp [World.setCell, Array.getElem?_modify, h]
theorem setCell_other {w : World} {p j k : Nat} (u : Value) (h : k ≠ p) : (w.setCell ⟨p, j, none⟩ u).heap[k]? = w.heap[k]? := by
  simp only [World.setCell]
  rw [Array.getElem?_modify, if_neg (fun e => h e.symm)]
theorem grown_setCell (w : World) (p j : Nat) (u : Value) : w.grownBy (w.setCell ⟨p, j, none⟩ u) (some p) :=
  ⟨rfl, rfl, rfl, by simp [World.setCell], fun k _ hk => setCell_other u (fun e => hk (by rw [e]))⟩
theorem own_offT {B : Nat} {e : TypeId} {s n : Nat} {v : Value} {cs : List Value} {w : World} {k : Nat} {c : Array Value} {t : TypeId} {fr : Nat × Nat} (h : w.ownsRow B e s v n cs) (hk : w.heap[k]? = some (.cells c t fr)) (hne : e ≠ t) : v.ownBlock ≠ some k := by
  rcases h.2 with ⟨rfl, _⟩ | ⟨g, cap, cur, rfl, _, hc, _⟩
  · intro e; cases e
  · intro eq
    obtain rfl : g = k := Option.some.inj eq
    rw [hk] at hc
    cases hc
    exact hne rfl
/-- A cell of a row of one of the types written: what is of another type stays. -/
theorem fr_set {ts : List TypeId} {B : Nat} {w : World} {p j : Nat} {c : Array Value} {t : TypeId} {fr : Nat × Nat} (u : Value) (h : w.heap[p]? = some (.cells c t fr)) (ht : t ∈ ts) (hB : B ≤ p) : FrT ts B w (w.setCell ⟨p, j, none⟩ u) := by
  refine ⟨(Below.refl _ _).setCell hB u, fun k c' t' fr' hk h1 => ?_⟩
  have : k ≠ p := fun e => by
    subst e
    rw [h] at hk
    cases hk
    exact h1 ht
  rw [setCell_other u this]
  exact hk

theorem run_cell {w : World} {p j : Nat} {c : Array Value} {t : TypeId} {fr : Nat × Nat} {u : Value} (h : w.heap[p]? = some (.cells c t fr)) (hj : c[j]? = some u) : w.cell? ⟨p, j, none⟩ = some u := by
  rw [cell_of_row _ _ j _ _ _ h]
  exact hj
theorem run_frozen {w : World} {p j : Nat} {c : Array Value} {t : TypeId} (h : w.heap[p]? = some (.cells c t (0, 0))) : w.frozen? ⟨p, j, none⟩ = false := by
  simp [World.frozen?, h]
/-- An append to a row of one of the types: what is of another type stays. -/
theorem fr_grown {ts : List TypeId} {B : Nat} {w w' : World} {e : TypeId} {s n : Nat} {v : Value} {cs : List Value} (h : w.ownsRow B e s v n cs) (hg : w.grownBy w' v.ownBlock) (ht : e ∈ ts) (hB : B ≤ w.heap.size) : FrT ts B w w' := by
  refine ⟨(Below.refl _ _).grown hg hB (fun k hk => (h.lt k hk).1), fun k c t fr hk hn => ?_⟩
  have hlt := (Array.getElem?_eq_some_iff.1 hk).1
  rw [hg.block k hlt (fun e' => own_offT h hk (fun e2 => hn (e2 ▸ ht)) e'.symm)]
  exact hk

end Go.Proofs.YtofpoiccghpliaaGreatDoor

namespace Go.Proofs.YtofpoiccghpliaaGreatDoor
open Go.RowKit
set_option linter.unusedVariables false
set_option maxRecDepth 100000

section
variable {P : Program} {ops : Array Oper} {Q : Exit → Act → World → Prop} {md : Region.Mode} {S : World → Prop} {k : Nat}
/-- Two may come up: each is carried out. -/
theorem wpAnyK_two {i j : Nat} {oi oj : Oper} {fuel : Nat} {listed : Array Bool} {a : Act} {w : World} (hcl : ClosedK md ops listed) (hr : Region.ready md ops listed = [i, j]) (hi : ops[i]? = some oi) (hj : ops[j]? = some oj)
    (h1 : ∀ K' : Act → World → Prop, Shut (∀ a w, S w → (ClosedK md ops (listed.setIfInBounds i true) → wpAnyK P md ops Q S k fuel (listed.setIfInBounds i true) a w) → K' a w) → if Region.wanted oi (yielded ops a.tmps) = true then Oper.wp P oi a w K' Q else K' (a.put oi.dst undef) w)
    (h2 : ∀ K' : Act → World → Prop, Shut (∀ a w, S w → (ClosedK md ops (listed.setIfInBounds j true) → wpAnyK P md ops Q S k fuel (listed.setIfInBounds j true) a w) → K' a w) → if Region.wanted oj (yielded ops a.tmps) = true then Oper.wp P oj a w K' Q else K' (a.put oj.dst undef) w) : wpAnyK P md ops Q S k (fuel + 1) listed a w :=
  ⟨fun h0 => (by rw [hr] at h0; cases h0), fun q hq => by
    have hq' := hq
    rw [hr, List.mem_cons, List.mem_singleton] at hq
    rcases hq with rfl | rfl
    · exact wpOp_step hi (fun K' hK => h1 K' (fun a w hS hW => hK a w ⟨.inr hS, hW (hcl.set hq')⟩))
    · exact wpOp_step hj (fun K' hK => h2 K' (fun a w hS hW => hK a w ⟨.inr hS, hW (hcl.set hq')⟩))⟩
end
section
variable {ops : Array Oper} {rest : List Oper} {op : Oper} {a : Act} {w : World} {Q : Exit → Act → World → Prop} {S : World → Prop} {tb n i : Nat} {F p q : List Bool}
theorem yields_neq18 (hw : Region.wanted op (yielded ops a.tmps) = true) (x y : Operand) (k : TypeId) (ho : op.op = .binOp .neq 49 x y k) (hx : a.eval x = .agg (flV18 p).toArray) (hy : a.eval y = .agg (flV18 q).toArray) (hp : p.length = 257) (hq : q.length = 257) : YieldsIf Tryz.prog ops S op (.bool (!(p == q))) a :=
  .inl ⟨hw, fun w hw' => by
    unfold execOp
    simp only [ho, hx, hy, Sem.run_bind, run_eqGuard_agg (P := Tryz.prog) w .neq 49 x y _ _ Tryz.eqGuardType49, Result.andThen_ok, run_neq_struct (P := Tryz.prog) w, eqBg18 9996 p q hp hq w, Sem.run_pure]⟩
theorem wpl_store18 {o : Nat} (hgd : op.guard = none) (x y : Operand) (ho : op.op = .store 49 x y) (hx : a.eval x = .pointer (some ⟨tb, o, none⟩)) (hoi : o = 257 * i) (hy : a.eval y = .agg (flV18 p).toArray) (hT : TabF tb F w) (hl : F.length = 257 * n) (hi : i < n) (hp : p.length = 257)
    (h : wpList Tryz.prog ops Q rest (a.put op.dst undef) (putW18 w tb (putK F i p))) : wpList Tryz.prog ops Q (op :: rest) a w :=
  wpList_plain hgd fun K hK => by
    subst hoi
    unfold Oper.wp execOp
    have := hT.store hl hi hp
    unfold bgV at this
    simp only [ho, hx, hy, Sem.run_bind, this, Result.andThen_ok]
    exact hK _ _ h
end

theorem new_tab18 (w : World) : TabF w.heap.size zL18 (w.alloc (.cells Tryz.zeroCells49 49)) := by
  have hz := flZero18
  rw [Value.agg.injEq] at hz
  rw [hz]
  exact tab_new w zL18

set_option maxHeartbeats 6400000 in
theorem implJoin18_any (g : List RuleD) (ys : List SymD) (ga sa : Option Addr) (gc sc tb R G C r : Nat) (F : List Bool) (ch : Bool) (w : World) (hgl : g.length ≤ 1048576) (hyl : ys.length ≤ 1048576) (hr : r < g.length) (hg : RowC 3 RuleE w (.slice ga g.length gc) g) (hy : RowC 4 SymE w (.slice sa ys.length sc) ys) (hys : ∀ y ∈ ys, SymR g y) (hF : F.length = 257 * g.length) (hT : TabF tb F w) (hz : TzTab w)
    (hR : w.heap[R]? = some (.cells #[.slice (some ⟨tb, 0, none⟩) g.length g.length] 45 (0, 0))) (hG : w.heap[G]? = some (.cells #[.slice ga g.length gc] 30 (0, 0))) (hC : w.heap[C]? = some (.cells #[.bool ch] 4 (0, 0))) (hRC : R ≠ C) (hTC : tb ≠ C) :
    Calls Tryz.prog 28 #[.int .i64 (r : Int), .agg #[.slice sa ys.length sc], .pointer (some ⟨R, 0, none⟩), .pointer (some ⟨G, 0, none⟩), .pointer (some ⟨C, 0, none⟩)] w fun e w' =>
      e = .returned (.tuple #[]) ∧ Kp (fun q => q = tb ∨ q = C) w w' ∧ ∃ c, c.length = 257 ∧ c.getD 0 false = altN g (heads F g.length) ys ∧ TabF tb (stepK F r c) w' ∧ w'.heap[C]? = some (.cells #[.bool (ch || !(orL (chk F r) c == chk F r))] 4 (0, 0)) := by
  have b1 : ∀ (W : World) (o : Obj), Below W.heap.size W (W.alloc o) := fun W o => (Below.refl _ _).alloc (Nat.le_refl _) _
  have BW : Hid (Below w.heap.size w (w.alloc (.cells #[.slice sa ys.length sc] 63))) := b1 _ _
  have a0 := box_at w #[.slice sa ys.length sc] 63 0 (.slice sa ys.length sc) rfl
  have hRl : R < w.heap.size := (Array.getElem?_eq_some_iff.1 hR).1
  have hCl : C < w.heap.size := (Array.getElem?_eq_some_iff.1 hC).1
  have r0 := cell_keep (run_cell (j := 0) (u := .slice (some ⟨tb, 0, none⟩) g.length g.length) hR rfl) (b1 w (.cells #[.slice sa ys.length sc] 63))
  have g0 := cell_keep (run_cell (j := 0) (u := .slice ga g.length gc) hG rfl) (b1 w (.cells #[.slice sa ys.length sc] 63))
  have HC : Hid ((w.alloc (.cells #[.slice sa ys.length sc] 63)).heap[C]? = some (.cells #[.bool ch] 4 (0, 0))) := (BW.out.block C hCl).trans hC
  have TB : Hid (TabF tb F (w.alloc (.cells #[.slice sa ys.length sc] 63))) := hT.keep BW.out
  have HTb : Hid (tb < w.heap.size) := hT.lt
  have HSt : Hid (∀ W, Below w.heap.size w W → RowC 3 RuleE W (.slice ga g.length gc) g ∧ RowC 4 SymE W (.slice sa ys.length sc) ys ∧ TabF tb F W ∧ TzTab W) := fun W hb => ⟨RowC.below RuleE_stable hg hb, RowC.below SymE_stable hy hb, hT.keep hb, hz.below hb⟩
  have HF : Hid (F.length = 257 * g.length) := hF
  have HK : Hid ((chk F r).length = 257) := chk_len hF hr
  have HAl : Hid (∀ W, RowC 3 RuleE W (.slice ga g.length gc) g → RowC 4 SymE W (.slice sa ys.length sc) ys → TabF tb F W → TzTab W → _) := fun W h1 h2 h3 h4 => implAlt18_any g ys ga sa gc sc tb F W hgl hyl h1 h2 hys hF h3 h4
  have HJ : Hid (∀ (p q : List Bool) W, p.length = 257 → q.length = 257 → _) := fun p q W hp hq => implJoined_any p q W hp hq
  have hrz : (r : Int) < (g.length : Int) := by omega
  have HRl : Hid (r < g.length) := hr
  clear hg hy hT hz b1 hF hgl hyl hys hR hG hC hr
  go_enter Tryz.func28, Tryz.ntmps28
  go_upto_region 1 with fail
  have HSz : Hid (w.heap.size < (w.alloc (.cells #[.slice sa ys.length sc] 63)).heap.size) := by rw [Hid]; simp
  generalize (w.alloc (.cells #[.slice sa ys.length sc] 63)) = w0 at *
  go_cut [7] from 8 (fun s7 wx => ∃ (b7 : Nat) (c : List Bool), s7 = .pointer (some ⟨b7, 0, none⟩) ∧ w.heap.size < b7 ∧ c.length = 257 ∧ c.getD 0 false = altN g (heads F g.length) ys ∧ TabF b7 (orL (chk F r) c) wx ∧ Below w0.heap.size w0 wx)
  case first =>
    refine wp_region_K (k := 8) (S := fun V => V.cell? ⟨R, 0, none⟩ = some (.slice (some ⟨tb, 0, none⟩) g.length g.length) ∧ V.cell? ⟨G, 0, none⟩ = some (.slice ga g.length gc) ∧ V.cell? ⟨w.heap.size, 0, none⟩ = some (.slice sa ys.length sc) ∧ TabF tb F V) (by kernel_rfl) ?_ (fun hHeld hcl => ?_)
    · exact ⟨r0, g0, a0, TB.out⟩
    clear r0 g0 a0
    refine wpAnyK_take [3, 2, 0] (i := 0) (d := some 8) (v := ?v0) (by assumption) rfl (by kernel_rfl) (by kernel_rfl) (by kernel_rfl) (by kernel_rfl) (by kernel_rfl) (by decide) (by rfl) (fun _ _ _ h => h) ?h0 (by assumption) (fun hcl0 => ?r0)
    case h0 => (refine Or.inl ⟨by rfl, ?_⟩; intro V hSw; (try dsimp only at hSw); go_simp; first | done | with_reducible rfl)
    case' r0 => (clear hcl; simp only [Act.put, List.setIfInBounds_toArray, List.set_cons_zero, List.set_cons_succ])
    refine wpAnyK_free (i := 1) (d := some 9) (v := ?v1) (by assumption) rfl (by kernel_rfl) (by kernel_rfl) (by kernel_rfl) (by decide) (by rfl) (fun _ _ _ h => h) ?h1 (.inr (by assumption)) (fun hcl1 => ?r1)
    case h1 => (refine Or.inl ⟨by rfl, ?_⟩; intro V hSw; (try dsimp only at hSw); go_simp; first | done | with_reducible rfl)
    case' r1 => (clear hcl0; simp only [Act.put, List.setIfInBounds_toArray, List.set_cons_zero, List.set_cons_succ])
    refine wpAnyK_free (i := 2) (d := some 10) (v := ?v2) (by assumption) rfl (by kernel_rfl) (by kernel_rfl) (by kernel_rfl) (by decide) (by rfl) (fun _ _ _ h => h) ?h2 (.inr (by assumption)) (fun hcl2 => ?r2)
    case h2 => (refine Or.inl ⟨by rfl, ?_⟩; intro V hSw; (try dsimp only at hSw); go_simp; first | done | with_reducible rfl)
    case' r2 => (clear hcl1; simp only [Act.put, List.setIfInBounds_toArray, List.set_cons_zero, List.set_cons_succ])
    refine wpAnyK_take [3] (i := 3) (d := some 11) (v := .agg (flV18 (chk F r)).toArray) (by assumption) rfl (by kernel_rfl) (by kernel_rfl) (by kernel_rfl) (by kernel_rfl) (by kernel_rfl) (by decide) (by rfl) (fun _ _ _ h => h) ?h3 (by assumption) (fun hcl3 => ?r3)
    case h3 => exact yields_load18 (by rfl) _ rfl rfl (by omega) (fun V hV => hV.2.2.2) HF.out HRl.out
    case' r3 => (clear hcl2; simp only [Act.put, List.setIfInBounds_toArray, List.set_cons_zero, List.set_cons_succ])
    refine wpAnyK_take [7, 4] (i := 4) (d := some 12) (v := ?v4) (by assumption) rfl (by kernel_rfl) (by kernel_rfl) (by kernel_rfl) (by kernel_rfl) (by kernel_rfl) (by decide) (by rfl) (fun _ _ _ h => h) ?h4 (by assumption) (fun hcl4 => ?r4)
    case h4 => (refine Or.inl ⟨by rfl, ?_⟩; intro V hSw; (try dsimp only at hSw); go_simp; first | done | with_reducible rfl)
    case' r4 => (clear hcl3; simp only [Act.put, List.setIfInBounds_toArray, List.set_cons_zero, List.set_cons_succ])
    refine wpAnyK_take [7, 5] (i := 5) (d := some 13) (v := ?v5) (by assumption) rfl (by kernel_rfl) (by kernel_rfl) (by kernel_rfl) (by kernel_rfl) (by kernel_rfl) (by decide) (by rfl) (fun _ _ _ h => h) ?h5 (by assumption) (fun hcl5 => ?r5)
    case h5 => (refine Or.inl ⟨by rfl, ?_⟩; intro V hSw; (try dsimp only at hSw); go_simp; first | done | with_reducible rfl)
    case' r5 => (clear hcl4; simp only [Act.put, List.setIfInBounds_toArray, List.set_cons_zero, List.set_cons_succ])
    refine wpAnyK_take [7, 6] (i := 6) (d := some 14) (v := ?v6) (by assumption) rfl (by kernel_rfl) (by kernel_rfl) (by kernel_rfl) (by kernel_rfl) (by kernel_rfl) (by decide) (by rfl) (fun _ _ _ h => h) ?h6 (by assumption) (fun hcl6 => ?r6)
    case h6 => (refine Or.inl ⟨by rfl, ?_⟩; intro V hSw; (try dsimp only at hSw); go_simp; first | done | with_reducible rfl)
    case' r6 => (clear hcl5; simp only [Act.put, List.setIfInBounds_toArray, List.set_cons_zero, List.set_cons_succ])
    have BD : Hid (Below w0.heap.size w0 w0.drew) := (Below.refl w0.heap.size w0).drew
    generalize w0.drew = wd at *
    refine wpAnyK_two (i := 7) (j := 9) (by assumption) (by kernel_rfl) rfl rfl (fun K hK => ?_) (fun K hK => ?_)
    · -- the Alt ahead of the new variable
      go_simp
      go_at_call 30
      have HD := HSt.out _ (BW.out.trans (BD.out.mono BW.out.size))
      refine (HAl.out _ HD.1 HD.2.1 HD.2.2.1 HD.2.2.2).mono ?_
      rintro e w4 ⟨c, rfl, hc, hc0, hb4⟩
      have hS4 : w4.cell? ⟨R, 0, none⟩ = some (.slice (some ⟨tb, 0, none⟩) g.length g.length) ∧ w4.cell? ⟨G, 0, none⟩ = some (.slice ga g.length gc) ∧ w4.cell? ⟨w.heap.size, 0, none⟩ = some (.slice sa ys.length sc) ∧ TabF tb F w4 := ⟨cell_keep hHeld.1 hb4, cell_keep hHeld.2.1 hb4, cell_keep hHeld.2.2.1 hb4, hHeld.2.2.2.keep hb4⟩
      have HB4 : Hid (Below w0.heap.size w0 w4) := BD.out.trans (hb4.mono BD.out.size)
      have HCc : Hid (c.length = 257 ∧ c.getD 0 false = altN g (heads F g.length) ys) := ⟨hc, hc0⟩
      have HO : Hid ((orL (chk F r) c).length = 257) := (orL_len (HK.out.trans hc.symm)).trans HK.out
      clear hc hc0 hHeld hb4 BD HD
      go_simp
      refine hK.out _ _ hS4 (fun hcl7 => ?_)
      refine wpAnyK_two (i := 8) (j := 9) (by assumption) (by kernel_rfl) rfl rfl (fun K hK => ?_) (fun K hK => ?_)
      · -- joined ahead of the new variable
        go_simp
        go_at_call 29
        refine (HJ.out (chk F r) c _ HK.out HCc.out.1).mono ?_
        rintro e w5 ⟨rfl, hb5⟩
        have hS5 : w5.cell? ⟨R, 0, none⟩ = some (.slice (some ⟨tb, 0, none⟩) g.length g.length) ∧ w5.cell? ⟨G, 0, none⟩ = some (.slice ga g.length gc) ∧ w5.cell? ⟨w.heap.size, 0, none⟩ = some (.slice sa ys.length sc) ∧ TabF tb F w5 := ⟨cell_keep hS4.1 hb5, cell_keep hS4.2.1 hb5, cell_keep hS4.2.2.1 hb5, hS4.2.2.2.keep hb5⟩
        have HB5 : Hid (Below w0.heap.size w0 w5) := HB4.out.trans (hb5.mono HB4.out.size)
        clear hb5 hS4
        go_simp
        refine hK.out _ _ hS5 (fun hcl8 => ?_)
        clear hS5
        refine wpAnyK_past (i := 9) (by assumption) (by kernel_rfl) rfl (by kernel_rfl) (fun K hK => ?_)
        go_simp
        refine hK.out _ _ (fun hcl9 => ?_)
        have T9 := new_tab18 w5
        have B9 : Below w0.heap.size w0 (w5.alloc (.cells Tryz.zeroCells49 49)) := HB5.out.alloc HB5.out.size _
        refine wpAnyK_past (i := 10) (by assumption) (by kernel_rfl) rfl (by kernel_rfl) (fun K hK => ?_)
        rw [if_pos (by rfl)]
        refine wp_store18 _ _ rfl rfl rfl T9 zL18_len HO.out (hK.out _ _ (fun hcl10 => ?_))
        refine wpAnyK_done (by kernel_rfl) ?_
        have HE : Hid (TabF w5.heap.size (orL (chk F r) c) (putW18 _ w5.heap.size (orL (chk F r) c)) ∧ w.heap.size < w5.heap.size ∧ Below w0.heap.size w0 (putW18 _ w5.heap.size (orL (chk F r) c))) := ⟨T9.put _, (Nat.lt_of_lt_of_le HSz.out HB5.out.size), below_put18 B9 HB5.out.size⟩
        go_wp2
        go_meet
        case rel => exact ⟨w5.heap.size, c, rfl, HE.out.2.1, HCc.out.1, HCc.out.2, HE.out.1, HE.out.2.2⟩
      · -- the new variable ahead of joined
        go_simp
        have B9 : Hid (Below w0.heap.size w0 (w4.alloc (.cells Tryz.zeroCells49 49))) := HB4.out.alloc HB4.out.size _
        have bb : Below w4.heap.size w4 (w4.alloc (.cells Tryz.zeroCells49 49)) := (Below.refl _ _).alloc (Nat.le_refl _) _
        have hS9 : (w4.alloc (.cells Tryz.zeroCells49 49)).cell? ⟨R, 0, none⟩ = some (.slice (some ⟨tb, 0, none⟩) g.length g.length) ∧ (w4.alloc (.cells Tryz.zeroCells49 49)).cell? ⟨G, 0, none⟩ = some (.slice ga g.length gc) ∧ (w4.alloc (.cells Tryz.zeroCells49 49)).cell? ⟨w.heap.size, 0, none⟩ = some (.slice sa ys.length sc) ∧ TabF tb F (w4.alloc (.cells Tryz.zeroCells49 49)) := ⟨cell_keep hS4.1 bb, cell_keep hS4.2.1 bb, cell_keep hS4.2.2.1 bb, hS4.2.2.2.keep bb⟩
        have T9 : Hid (TabF w4.heap.size zL18 (w4.alloc (.cells Tryz.zeroCells49 49))) := new_tab18 w4
        refine hK.out _ _ hS9 (fun hcl9 => ?_)
        clear bb hS9 hS4
        refine wpAnyK_past (i := 8) (by assumption) (by kernel_rfl) rfl (by kernel_rfl) (fun K hK => ?_)
        go_simp
        go_at_call 29
        refine (HJ.out (chk F r) c _ HK.out HCc.out.1).mono ?_
        rintro e w5 ⟨rfl, hb5⟩
        have HB5 : Hid (Below w0.heap.size w0 w5) := B9.out.trans (hb5.mono B9.out.size)
        have T5 := T9.out.keep hb5
        clear hb5
        go_simp
        refine hK.out _ _ (fun hcl8 => ?_)
        refine wpAnyK_past (i := 10) (by assumption) (by kernel_rfl) rfl (by kernel_rfl) (fun K hK => ?_)
        rw [if_pos (by rfl)]
        refine wp_store18 _ _ rfl rfl rfl T5 zL18_len HO.out (hK.out _ _ (fun hcl10 => ?_))
        refine wpAnyK_done (by kernel_rfl) ?_
        have HE : Hid (TabF w4.heap.size (orL (chk F r) c) (putW18 _ w4.heap.size (orL (chk F r) c)) ∧ w.heap.size < w4.heap.size ∧ Below w0.heap.size w0 (putW18 _ w4.heap.size (orL (chk F r) c))) := ⟨T5.put _, (Nat.lt_of_lt_of_le HSz.out HB4.out.size), below_put18 HB5.out HB4.out.size⟩
        go_wp2
        go_meet
        case rel => exact ⟨w4.heap.size, c, rfl, HE.out.2.1, HCc.out.1, HCc.out.2, HE.out.1, HE.out.2.2⟩
    · -- the new variable first
      go_simp
      have B9 : Hid (Below w0.heap.size w0 (wd.alloc (.cells Tryz.zeroCells49 49))) := BD.out.alloc BD.out.size _
      have bb : Below wd.heap.size wd (wd.alloc (.cells Tryz.zeroCells49 49)) := (Below.refl _ _).alloc (Nat.le_refl _) _
      have hS9 : (wd.alloc (.cells Tryz.zeroCells49 49)).cell? ⟨R, 0, none⟩ = some (.slice (some ⟨tb, 0, none⟩) g.length g.length) ∧ (wd.alloc (.cells Tryz.zeroCells49 49)).cell? ⟨G, 0, none⟩ = some (.slice ga g.length gc) ∧ (wd.alloc (.cells Tryz.zeroCells49 49)).cell? ⟨w.heap.size, 0, none⟩ = some (.slice sa ys.length sc) ∧ TabF tb F (wd.alloc (.cells Tryz.zeroCells49 49)) := ⟨cell_keep hHeld.1 bb, cell_keep hHeld.2.1 bb, cell_keep hHeld.2.2.1 bb, hHeld.2.2.2.keep bb⟩
      have T9 : Hid (TabF wd.heap.size zL18 (wd.alloc (.cells Tryz.zeroCells49 49))) := new_tab18 wd
      refine hK.out _ _ hS9 (fun hcl9 => ?_)
      clear bb hHeld
      refine wpAnyK_one (i := 7) (by assumption) (by kernel_rfl) rfl (fun K hK => ?_)
      go_simp
      go_at_call 30
      have HD := HSt.out _ (BW.out.trans (B9.out.mono BW.out.size))
      refine (HAl.out _ HD.1 HD.2.1 HD.2.2.1 HD.2.2.2).mono ?_
      rintro e w4 ⟨c, rfl, hc, hc0, hb4⟩
      have hS4 : w4.cell? ⟨R, 0, none⟩ = some (.slice (some ⟨tb, 0, none⟩) g.length g.length) ∧ w4.cell? ⟨G, 0, none⟩ = some (.slice ga g.length gc) ∧ w4.cell? ⟨w.heap.size, 0, none⟩ = some (.slice sa ys.length sc) ∧ TabF tb F w4 := ⟨cell_keep hS9.1 hb4, cell_keep hS9.2.1 hb4, cell_keep hS9.2.2.1 hb4, hS9.2.2.2.keep hb4⟩
      have HB4 : Hid (Below w0.heap.size w0 w4) := B9.out.trans (hb4.mono B9.out.size)
      have HCc : Hid (c.length = 257 ∧ c.getD 0 false = altN g (heads F g.length) ys) := ⟨hc, hc0⟩
      have HO : Hid ((orL (chk F r) c).length = 257) := (orL_len (HK.out.trans hc.symm)).trans HK.out
      have T4 : Hid (TabF wd.heap.size zL18 w4) := T9.out.keep hb4
      clear hc hc0 hS9 hb4 B9 HD T9
      go_simp
      refine hK.out _ _ hS4 (fun hcl7 => ?_)
      clear hS4
      refine wpAnyK_past (i := 8) (by assumption) (by kernel_rfl) rfl (by kernel_rfl) (fun K hK => ?_)
      go_simp
      go_at_call 29
      refine (HJ.out (chk F r) c _ HK.out HCc.out.1).mono ?_
      rintro e w5 ⟨rfl, hb5⟩
      have HB5 : Hid (Below w0.heap.size w0 w5) := HB4.out.trans (hb5.mono HB4.out.size)
      have T5 := T4.out.keep hb5
      clear hb5
      go_simp
      refine hK.out _ _ (fun hcl8 => ?_)
      refine wpAnyK_past (i := 10) (by assumption) (by kernel_rfl) rfl (by kernel_rfl) (fun K hK => ?_)
      rw [if_pos (by rfl)]
      refine wp_store18 _ _ rfl rfl rfl T5 zL18_len HO.out (hK.out _ _ (fun hcl10 => ?_))
      refine wpAnyK_done (by kernel_rfl) ?_
      have HE : Hid (TabF wd.heap.size (orL (chk F r) c) (putW18 _ wd.heap.size (orL (chk F r) c)) ∧ w.heap.size < wd.heap.size ∧ Below w0.heap.size w0 (putW18 _ wd.heap.size (orL (chk F r) c))) := ⟨T5.put _, (Nat.lt_of_lt_of_le HSz.out BD.out.size), below_put18 HB5.out BD.out.size⟩
      go_wp2
      go_meet
      case rel => exact ⟨wd.heap.size, c, rfl, HE.out.2.1, HCc.out.1, HCc.out.2, HE.out.1, HE.out.2.2⟩
  case rest =>
    obtain ⟨b7, c, rfl, hlt, hc, hc0, t7, hb⟩ := hcut
    have HCc : Hid (c.length = 257 ∧ c.getD 0 false = altN g (heads F g.length) ys) := ⟨hc, hc0⟩
    have HO : Hid ((orL (chk F r) c).length = 257) := (orL_len (HK.out.trans hc.symm)).trans HK.out
    have T7 : Hid (TabF b7 (orL (chk F r) c) wc.drew) := t7
    have TBc : Hid (TabF tb F wc.drew) := TB.out.keep hb.drew
    have hC1 : wc.drew.heap[C]? = some (.cells #[.bool ch] 4 (0, 0)) := (hb.drew.block C (Nat.lt_trans hCl HSz.out)).trans HC.out
    have BC : Hid (Below w.heap.size w wc.drew) := BW.out.trans (hb.drew.mono (Nat.le_of_lt HSz.out))
    have r1 := cell_keep r0 hb.drew
    have c1 := run_cell (j := 0) (u := .bool ch) hC1 rfl
    have f1 := run_frozen (j := 0) hC1
    have HC1 : Hid (wc.drew.heap[C]? = some (.cells #[.bool ch] 4 (0, 0))) := hC1
    have HLt : Hid (w.heap.size < b7) := hlt
    clear hb hc hc0 t7 hC1 a0 r0 g0 HC TB hlt
    -- what is behind the store of the flag 'changed'
    have HA : Hid (∀ x : Bool, x = (ch || !(orL (chk F r) c == chk F r)) → (wc.drew.setCell ⟨C, 0, none⟩ (.bool x)).cell? ⟨R, 0, none⟩ = some (.slice (some ⟨tb, 0, none⟩) g.length g.length) ∧ TabF b7 (orL (chk F r) c) (wc.drew.setCell ⟨C, 0, none⟩ (.bool x)) ∧ TabF tb F (wc.drew.setCell ⟨C, 0, none⟩ (.bool x)) ∧ (∀ G : List Bool, Kp (fun q => q = tb ∨ q = C) w (putW18 (wc.drew.setCell ⟨C, 0, none⟩ (.bool x)) tb G) ∧ (putW18 (wc.drew.setCell ⟨C, 0, none⟩ (.bool x)) tb G).heap[C]? = some (.cells #[.bool (ch || !(orL (chk F r) c == chk F r))] 4 (0, 0)))) := fun x hx => by
      have k : Kp (fun q => q = C) wc.drew (wc.drew.setCell ⟨C, 0, none⟩ (.bool x)) := Kp.store rfl
      have t := TBc.out.kp k (fun e => hTC e)
      refine ⟨?_, T7.out.kp k (by have := HLt.out; omega), t, fun G => ⟨?_, ?_⟩⟩
      · exact (World.cell?_of_block (setCell_other (p := C) (j := 0) (.bool x) hRC)).trans r1
      · exact ((Kp.below BC.out).trans (k.up (fun j hj => .inr hj))).trans (Kp.put (.inl rfl))
      · unfold putW18
        rw [setRow_other _ _ _ _ (fun e => hTC e.symm), setCell_self (j := 0) (.bool x) HC1.out, ← hx]
        simp
    cases ch with
    | false =>
      go_wp2_with fail
      refine wp_region_K (k := 9) (S := fun V => V.cell? ⟨C, 0, none⟩ = some (.bool false) ∧ V.cell? ⟨R, 0, none⟩ = some (.slice (some ⟨tb, 0, none⟩) g.length g.length) ∧ TabF tb F V ∧ TabF b7 (orL (chk F r) c) V) (by kernel_rfl) ?_ (fun hHeld hcl => ?_)
      · exact ⟨c1, r1, TBc.out, T7.out⟩
      generalize wc.drew = wd at *
      refine wpAnyK_take [8, 1, 0] (i := 0) (d := some 17) (v := ?fv0) (by assumption) rfl (by kernel_rfl) (by kernel_rfl) (by kernel_rfl) (by kernel_rfl) (by kernel_rfl) (by decide) (by rfl) (fun _ _ _ h => h) ?fh0 (by assumption) (fun hcl0 => ?fr0)
      case fh0 => (refine Or.inl ⟨by rfl, ?_⟩; intro V hSw; (try dsimp only at hSw); go_simp; first | done | with_reducible rfl)
      case' fr0 => (clear hcl; simp only [Act.put, List.setIfInBounds_toArray, List.set_cons_zero, List.set_cons_succ])
      refine wpAnyK_free (i := 1) (d := some 18) (v := ?fv1) (by assumption) rfl (by kernel_rfl) (by kernel_rfl) (by kernel_rfl) (by decide) (by rfl) (fun _ _ _ h => h) ?fh1 (.inr (by assumption)) (fun hcl1 => ?fr1)
      case fh1 => (refine Or.inl ⟨by rfl, ?_⟩; intro V hSw; (try dsimp only at hSw); go_simp; first | done | with_reducible rfl)
      case' fr1 => (clear hcl0; simp only [Act.put, List.setIfInBounds_toArray, List.set_cons_zero, List.set_cons_succ])
      refine wpAnyK_take [8, 7, 2] (i := 2) (d := some 19) (v := .agg (flV18 (orL (chk F r) c)).toArray) (by assumption) rfl (by kernel_rfl) (by kernel_rfl) (by kernel_rfl) (by kernel_rfl) (by kernel_rfl) (by decide) (by rfl) (fun _ _ _ h => h) ?fh2 (by assumption) (fun hcl2 => ?fr2)
      case fh2 => exact yields_load1 (by rfl) _ rfl rfl (fun V hV => hV.2.2.2) HO.out
      case' fr2 => (clear hcl1; simp only [Act.put, List.setIfInBounds_toArray, List.set_cons_zero, List.set_cons_succ])
      refine wpAnyK_take [8, 7, 6, 5, 3] (i := 3) (d := some 20) (v := ?fv3) (by assumption) rfl (by kernel_rfl) (by kernel_rfl) (by kernel_rfl) (by kernel_rfl) (by kernel_rfl) (by decide) (by rfl) (fun _ _ _ h => h) ?fh3 (by assumption) (fun hcl3 => ?fr3)
      case fh3 => (refine Or.inl ⟨by rfl, ?_⟩; intro V hSw; (try dsimp only at hSw); go_simp; first | done | with_reducible rfl)
      case' fr3 => (clear hcl2; simp only [Act.put, List.setIfInBounds_toArray, List.set_cons_zero, List.set_cons_succ])
      refine wpAnyK_free (i := 4) (d := some 21) (v := ?fv4) (by assumption) rfl (by kernel_rfl) (by kernel_rfl) (by kernel_rfl) (by decide) (by rfl) (fun _ _ _ h => h) ?fh4 (.inr (by assumption)) (fun hcl4 => ?fr4)
      case fh4 => (refine Or.inl ⟨by rfl, ?_⟩; intro V hSw; (try dsimp only at hSw); go_simp; first | done | with_reducible rfl)
      case' fr4 => (clear hcl3; simp only [Act.put, List.setIfInBounds_toArray, List.set_cons_zero, List.set_cons_succ])
      refine wpAnyK_free (i := 5) (d := some 22) (v := ?fv5) (by assumption) rfl (by kernel_rfl) (by kernel_rfl) (by kernel_rfl) (by decide) (by rfl) (fun _ _ _ h => h) ?fh5 (.inr (by assumption)) (fun hcl5 => ?fr5)
      case fh5 => (refine Or.inl ⟨by rfl, ?_⟩; intro V hSw; (try dsimp only at hSw); go_simp; first | done | with_reducible rfl)
      case' fr5 => (clear hcl4; simp only [Act.put, List.setIfInBounds_toArray, List.set_cons_zero, List.set_cons_succ])
      refine wpAnyK_take [8, 7, 6] (i := 6) (d := some 23) (v := .agg (flV18 (chk F r)).toArray) (by assumption) rfl (by kernel_rfl) (by kernel_rfl) (by kernel_rfl) (by kernel_rfl) (by kernel_rfl) (by decide) (by rfl) (fun _ _ _ h => h) ?fh6 (by assumption) (fun hcl6 => ?fr6)
      case fh6 => exact yields_load18 (by rfl) _ rfl rfl (by omega) (fun V hV => hV.2.2.1) HF.out HRl.out
      case' fr6 => (clear hcl5; simp only [Act.put, List.setIfInBounds_toArray, List.set_cons_zero, List.set_cons_succ])
      refine wpAnyK_free (i := 7) (d := some 24) (v := .bool (!(orL (chk F r) c == chk F r))) (by assumption) rfl (by kernel_rfl) (by kernel_rfl) (by kernel_rfl) (by decide) (by rfl) (fun _ _ _ h => h) ?fh7 (.inr (by assumption)) (fun hcl7 => ?fr7)
      case fh7 => exact yields_neq18 (by rfl) _ _ _ rfl rfl rfl HO.out HK.out
      case' fr7 => (clear hcl6; simp only [Act.put, List.setIfInBounds_toArray, List.set_cons_zero, List.set_cons_succ])
      refine wpAnyK_free (i := 8) (d := some 25) (v := ?fv8) (by assumption) rfl (by kernel_rfl) (by kernel_rfl) (by kernel_rfl) (by decide) (by rfl) (fun _ _ _ h => h) ?fh8 (.inr (by assumption)) (fun hcl8 => ?fr8)
      case fh8 => (refine Or.inl ⟨by rfl, ?_⟩; intro V hSw; (try dsimp only at hSw); go_simp; first | done | with_reducible rfl)
      case' fr8 => (clear hcl7; simp only [Act.put, List.setIfInBounds_toArray, List.set_cons_zero, List.set_cons_succ])
      clear hHeld
      refine wpAnyK_past (i := 9) (by assumption) (by kernel_rfl) rfl (by kernel_rfl) (fun K hK => ?_)
      go_simp
      refine hK.out _ _ (fun hcl9 => ?_)
      refine wpAnyK_done (by kernel_rfl) ?_
      clear hcl8 hcl9 c1 f1
      have h := HA.out (!(orL (chk F r) c == chk F r)) rfl
      obtain ⟨h1, h2, h3, h4⟩ := h
      have HT2 := h2
      have HT3 := h3
      have H4 : Hid (∀ G : List Bool, _) := h4
      clear h2 h3 h4 HA T7 TBc HC1 r1
      go_wp2_with (first | (refine wpl_load1 rfl _ rfl rfl HT2 HO.out ?_) | (refine wpl_store18 rfl _ _ rfl rfl (by omega) rfl HT3 HF.out HRl.out HO.out ?_))
      go_end0
      exact ⟨rfl, (H4.out _).1, c, HCc.out.1, HCc.out.2, HT3.put _, (H4.out _).2⟩
    | true =>
      go_wp2_with fail
      refine wp_region_K (k := 9) (S := fun V => V.cell? ⟨C, 0, none⟩ = some (.bool true) ∧ V.cell? ⟨R, 0, none⟩ = some (.slice (some ⟨tb, 0, none⟩) g.length g.length) ∧ TabF tb F V ∧ TabF b7 (orL (chk F r) c) V) (by kernel_rfl) ?_ (fun hHeld hcl => ?_)
      · exact ⟨c1, r1, TBc.out, T7.out⟩
      generalize wc.drew = wd at *
      refine wpAnyK_take [8, 1, 0] (i := 0) (d := some 17) (v := ?tv0) (by assumption) rfl (by kernel_rfl) (by kernel_rfl) (by kernel_rfl) (by kernel_rfl) (by kernel_rfl) (by decide) (by rfl) (fun _ _ _ h => h) ?th0 (by assumption) (fun hcl0 => ?tr0)
      case th0 => (refine Or.inl ⟨by rfl, ?_⟩; intro V hSw; (try dsimp only at hSw); go_simp; first | done | with_reducible rfl)
      case' tr0 => (clear hcl; simp only [Act.put, List.setIfInBounds_toArray, List.set_cons_zero, List.set_cons_succ])
      refine wpAnyK_free (i := 1) (d := some 18) (v := ?tv1) (by assumption) rfl (by kernel_rfl) (by kernel_rfl) (by kernel_rfl) (by decide) (by rfl) (fun _ _ _ h => h) ?th1 (.inr (by assumption)) (fun hcl1 => ?tr1)
      case th1 => (refine Or.inl ⟨by rfl, ?_⟩; intro V hSw; (try dsimp only at hSw); go_simp; first | done | with_reducible rfl)
      case' tr1 => (clear hcl0; simp only [Act.put, List.setIfInBounds_toArray, List.set_cons_zero, List.set_cons_succ])
      refine wpAnyK_free (i := 2) (d := some 19) (v := undef) (by assumption) rfl (by kernel_rfl) (by kernel_rfl) (by kernel_rfl) (by decide) (by rfl) (fun _ _ _ h => h) ?th2 (.inr (by assumption)) (fun hcl2 => ?tr2)
      case th2 => exact Or.inr ⟨by rfl, rfl⟩
      case' tr2 => (clear hcl1; simp only [Act.put, List.setIfInBounds_toArray, List.set_cons_zero, List.set_cons_succ])
      refine wpAnyK_free (i := 3) (d := some 20) (v := undef) (by assumption) rfl (by kernel_rfl) (by kernel_rfl) (by kernel_rfl) (by decide) (by rfl) (fun _ _ _ h => h) ?th3 (.inr (by assumption)) (fun hcl3 => ?tr3)
      case th3 => exact Or.inr ⟨by rfl, rfl⟩
      case' tr3 => (clear hcl2; simp only [Act.put, List.setIfInBounds_toArray, List.set_cons_zero, List.set_cons_succ])
      refine wpAnyK_free (i := 4) (d := some 21) (v := undef) (by assumption) rfl (by kernel_rfl) (by kernel_rfl) (by kernel_rfl) (by decide) (by rfl) (fun _ _ _ h => h) ?th4 (.inr (by assumption)) (fun hcl4 => ?tr4)
      case th4 => exact Or.inr ⟨by rfl, rfl⟩
      case' tr4 => (clear hcl3; simp only [Act.put, List.setIfInBounds_toArray, List.set_cons_zero, List.set_cons_succ])
      refine wpAnyK_free (i := 5) (d := some 22) (v := undef) (by assumption) rfl (by kernel_rfl) (by kernel_rfl) (by kernel_rfl) (by decide) (by rfl) (fun _ _ _ h => h) ?th5 (.inr (by assumption)) (fun hcl5 => ?tr5)
      case th5 => exact Or.inr ⟨by rfl, rfl⟩
      case' tr5 => (clear hcl4; simp only [Act.put, List.setIfInBounds_toArray, List.set_cons_zero, List.set_cons_succ])
      refine wpAnyK_free (i := 6) (d := some 23) (v := undef) (by assumption) rfl (by kernel_rfl) (by kernel_rfl) (by kernel_rfl) (by decide) (by rfl) (fun _ _ _ h => h) ?th6 (.inr (by assumption)) (fun hcl6 => ?tr6)
      case th6 => exact Or.inr ⟨by rfl, rfl⟩
      case' tr6 => (clear hcl5; simp only [Act.put, List.setIfInBounds_toArray, List.set_cons_zero, List.set_cons_succ])
      refine wpAnyK_free (i := 7) (d := some 24) (v := undef) (by assumption) rfl (by kernel_rfl) (by kernel_rfl) (by kernel_rfl) (by decide) (by rfl) (fun _ _ _ h => h) ?th7 (.inr (by assumption)) (fun hcl7 => ?tr7)
      case th7 => exact Or.inr ⟨by rfl, rfl⟩
      case' tr7 => (clear hcl6; simp only [Act.put, List.setIfInBounds_toArray, List.set_cons_zero, List.set_cons_succ])
      refine wpAnyK_free (i := 8) (d := some 25) (v := ?tv8) (by assumption) rfl (by kernel_rfl) (by kernel_rfl) (by kernel_rfl) (by decide) (by rfl) (fun _ _ _ h => h) ?th8 (.inr (by assumption)) (fun hcl8 => ?tr8)
      case th8 => (refine Or.inl ⟨by rfl, ?_⟩; intro V hSw; (try dsimp only at hSw); go_simp; first | done | with_reducible rfl)
      case' tr8 => (clear hcl7; simp only [Act.put, List.setIfInBounds_toArray, List.set_cons_zero, List.set_cons_succ])
      clear hHeld
      refine wpAnyK_past (i := 9) (by assumption) (by kernel_rfl) rfl (by kernel_rfl) (fun K hK => ?_)
      go_simp
      refine hK.out _ _ (fun hcl9 => ?_)
      refine wpAnyK_done (by kernel_rfl) ?_
      clear hcl8 hcl9 c1 f1
      have h := HA.out (true) rfl
      obtain ⟨h1, h2, h3, h4⟩ := h
      have HT2 := h2
      have HT3 := h3
      have H4 : Hid (∀ G : List Bool, _) := h4
      clear h2 h3 h4 HA T7 TBc HC1 r1
      go_wp2_with (first | (refine wpl_load1 rfl _ rfl rfl HT2 HO.out ?_) | (refine wpl_store18 rfl _ _ rfl rfl (by omega) rfl HT3 HF.out HRl.out HO.out ?_))
      go_end0
      exact ⟨rfl, (H4.out _).1, c, HCc.out.1, HCc.out.2, HT3.put _, (H4.out _).2⟩
end Go.Proofs.YtofpoiccghpliaaGreatDoor
