/- The program's renameCalls: the calls of one name in a row of syms that is turned where it lies. -/
/- What is kept by the types of rows: what lies below B, and every row whose type is none of some. -/
/- What hangs on none of some blocks; rows whose elements do. No program is named. -/
/- Rows that a call builds out of new memory alone, one element behind the other. No program is named. -/
import Derived.Test.YtnfekjpchenfpaaGreatDoorGData
import Derived.Test.YtnfekjpchenfpaaGreatDoorEnvSet
import Derived.Test.YtnfekjpchenfpaaGreatDoorSortS
import Derived.Test.YtnfekjpchenfpaaGreatDoorXPure
import Derived.Test.YtnfekjpchenfpaaGreatDoorXKit
import Derived.Deep.AppendLies
import Derived.Laws.AppendOwnNone
namespace Go.Proofs.YtnfekjpchenfpaaGreatDoor
open Go.RowKit
set_option linter.unusedVariables false

def renY (f t : ByteArray) (y : SymD) : SymD := if y.kind = 3 ∧ y.text = f then { y with text := t } else y
def renA (f t : ByteArray) (a : List SymD) : List SymD := a.map (renY f t)
/-- The first k are renamed. -/
def renTo {α : Type} (g : α → α) (xs : List α) (k : Nat) : List α := (xs.take k).map g ++ xs.drop k
theorem renTo_zero {α : Type} (g : α → α) (xs : List α) : renTo g xs 0 = xs := rfl
theorem renTo_all {α : Type} (g : α → α) (xs : List α) : renTo g xs xs.length = xs.map g := by
  rw [renTo, List.take_length, List.drop_length, List.append_nil]
theorem renTo_len {α : Type} (g : α → α) (xs : List α) (k : Nat) : (renTo g xs k).length = xs.length := by
  rw [renTo, List.length_append, List.length_map, ← List.length_append, List.take_append_drop]
theorem renTo_at {α : Type} (g : α → α) (xs : List α) (k : Nat) (h : k < xs.length) (h' : k < (renTo g xs k).length) : (renTo g xs k)[k] = xs[k] := by
  have hl : ((xs.take k).map g).length = k := by simp; omega
  have e : (renTo g xs k)[k]? = some xs[k] := by
    unfold renTo
    rw [List.getElem?_append_right (by omega), hl, Nat.sub_self, List.getElem?_drop, Nat.add_zero, List.getElem?_eq_getElem h]
  rw [List.getElem?_eq_getElem h'] at e
  exact Option.some.inj e
theorem renTo_next {α : Type} (g : α → α) (xs : List α) (k : Nat) (h : k < xs.length) : (renTo g xs k).set k (g xs[k]) = renTo g xs (k + 1) := by
  have hl : ((xs.take k).map g).length = k := by simp; omega
  rw [renTo, renTo, List.set_append_right _ _ (by omega), hl, Nat.sub_self, List.drop_eq_getElem_cons h, List.set_cons_zero, List.take_succ_eq_append_getElem h, List.map_append, List.append_assoc]
  rfl

set_option maxHeartbeats 3200000 in
set_option maxRecDepth 100000 in
theorem renameCalls_any (F : Nat → Prop) (v : Value) (a : List SymD) (f t : ByteArray) (w : World) (hl : a.length ≤ 1048576) (ht : t.size ≤ 1048576) (h : RowF 4 61 SymF F v a w) :
    Calls Tryz.prog 32 #[v, .string f, .string t] w fun e w' => e = .returned (.tuple #[]) ∧ RowF 4 61 SymF F v (renA f t a) w' ∧ Kp F w w' := by
  have H0 : Hid (RowF 4 61 SymF F v (renTo (renY f t) a 0) w) := h
  have HC : Hid (∀ W, _) := fun W => cloneS t W ht
  obtain ⟨p, cap, rfl⟩ := h.slice
  clear h
  go_enter Tryz.func32, Tryz.ntmps32
  go_wp2
  go_loopw [10] (fun iv wr => ∃ k : Nat, iv = .int .i64 k ∧ k ≤ a.length ∧ RowF 4 61 SymF F (.slice p a.length cap) (renTo (renY f t) a k) wr ∧ Kp F w wr) (fun iv _ => a.length - (intOf iv).toNat)
  case atStart => exact ⟨0, rfl, Nat.zero_le _, H0.out, Kp.refl⟩
  case round =>
    clear H0
    obtain ⟨k, rfl, hk, hrow, hkp⟩ := hrel
    have HK : Hid (Kp F w wr) := hkp
    have HR : Hid (RowF 4 61 SymF F (.slice p a.length cap) (renTo (renY f t) a k) wr) := hrow
    clear hrow hkp
    by_cases hlt : k < a.length
    · have hlr : k < (renTo (renY f t) a k).length := by rw [renTo_len]; exact hlt
      obtain ⟨g, cp, vs, Fi, ev, hFg, hng, hvl, hE, hsub, hcell, hturn, hput⟩ := HR.out.focus stabSym hlr
      rw [renTo_at _ _ _ hlt] at hE
      obtain ⟨av, rfl, hav⟩ := hE
      rw [renTo_len] at ev
      cases ev
      obtain ⟨aa, ac, rfl⟩ := hav.slice
      have n0 : wr.cell? ⟨g, k * 4, none⟩ = some (.int .i64 a[k].kind) := (hcell wr Ag.refl 0 (by simp)).1
      have n1 : wr.cell? ⟨g, k * 4 + 1, none⟩ = some (.string a[k].text) := (hcell wr Ag.refl 1 (by simp)).1
      have n2 : wr.cell? ⟨g, k * 4 + 2, none⟩ = some (.slice aa a[k].args.length ac) := (hcell wr Ag.refl 2 (by simp)).1
      have n3 : wr.cell? ⟨g, k * 4 + 3, none⟩ = some (.string a[k].bind) := (hcell wr Ag.refl 3 (by simp)).1
      have i4 : (k : Int) < (a.length : Int) := by omega
      have HNx : Hid ((renTo (renY f t) a k).set k (renY f t a[k]) = renTo (renY f t) a (k + 1)) := renTo_next _ _ _ hlt
      have BX : Hid (Below wr.heap.size wr (wr.alloc (.cells #[.int .i64 a[k].kind, .string a[k].text, .slice aa a[k].args.length ac, .string a[k].bind] 61))) := (Below.refl _ _).alloc (Nat.le_refl _) _
      have HSame : Hid ((renTo (renY f t) a k).set k a[k] = renTo (renY f t) a k) := by
        rw [Hid, ← renTo_at (renY f t) a k hlt hlr, List.set_getElem_self]
      clear hcell hturn hput hsub hvl hng hav
      by_cases h3 : a[k].kind = 3
      · by_cases htx : a[k].text = f
        · have HY : Hid (renY f t a[k] = { a[k] with text := t }) := if_pos ⟨h3, htx⟩
          have hq : (f.toList == f.toList) = true := by simp
          rw [htx] at n1 BX
          rw [h3] at n0 BX
          clear h3 htx
          go_wp2_with fail
          refine (HC.out _).mono ?_
          rintro e w2 ⟨rfl, hb2⟩
          have B2 : Hid (Below wr.heap.size wr w2) := BX.out.trans (hb2.mono BX.out.size)
          obtain ⟨g2, cp2, vs2, Fi2, ev2, hFg2, _, _, hE2, _, hcell2, _, hput2⟩ := (HR.out.below stabSym B2.out).focus stabSym hlr
          rw [renTo_at _ _ _ hlt] at hE2
          obtain ⟨av2, rfl, hav2⟩ := hE2
          rw [renTo_len] at ev2
          cases ev2
          obtain ⟨m1, f1⟩ : w2.cell? ⟨g, k * 4 + 1, none⟩ = some (.string a[k].text) ∧ w2.frozen? ⟨g, k * 4 + 1, none⟩ = false := hcell2 w2 Ag.refl 1 (by simp)
          have HR3 : Hid (_) := hput2 1 (.string t) { a[k] with text := t } (by omega) (fun W hW => ⟨av2, rfl, hav2.ag stabExpr hW⟩)
          have K3 : Hid (Kp F w (w2.setCell ⟨g, k * 4 + 1, none⟩ (.string t))) := (HK.out.trans (Kp.below B2.out)).trans (Kp.store hFg)
          clear hb2 hcell2 hput2 hav2
          go_wp2
          go_roundw
          case rel => exact ⟨k + 1, by go_num, by omega, by rw [← HNx.out, HY.out]; exact HR3.out, K3.out⟩
          case measure => simp [intOf]; omega
        · have HY : Hid (renY f t a[k] = a[k]) := if_neg (fun h => htx h.2)
          have hq : (a[k].text.toList == f.toList) = false := by
            rw [beq_eq_false_iff_ne]
            exact fun e => htx (by
              have h1 : a[k].text.data.toList = f.data.toList := by rw [← ByteArray.toList_eq, ← ByteArray.toList_eq, e]
              exact ByteArray.ext (Array.toList_inj.1 h1))
          have HRx : Hid (RowF 4 61 SymF F (.slice (some ⟨g, 0, none⟩) a.length cap) (renTo (renY f t) a (k + 1)) (wr.alloc (.cells #[.int .i64 a[k].kind, .string a[k].text, .slice aa a[k].args.length ac, .string a[k].bind] 61))) := by
            rw [Hid, ← HNx.out, HY.out, HSame.out]
            exact HR.out.below stabSym BX.out
          have K3 : Hid (Kp F w (wr.alloc (.cells #[.int .i64 a[k].kind, .string a[k].text, .slice aa a[k].args.length ac, .string a[k].bind] 61))) := HK.out.trans (Kp.below BX.out)
          rw [h3] at n0 BX HRx K3
          clear h3 htx HY
          go_wp2
          go_roundw
          case rel => exact ⟨k + 1, by go_num, by omega, HRx.out, K3.out⟩
          case measure => simp [intOf]; omega
      · have HY : Hid (renY f t a[k] = a[k]) := if_neg (fun h => h3 h.1)
        have hq : (a[k].kind == 3) = false := beq_eq_false_iff_ne.2 h3
        have HRx : Hid (RowF 4 61 SymF F (.slice (some ⟨g, 0, none⟩) a.length cap) (renTo (renY f t) a (k + 1)) (wr.alloc (.cells #[.int .i64 a[k].kind, .string a[k].text, .slice aa a[k].args.length ac, .string a[k].bind] 61))) := by
          rw [Hid, ← HNx.out, HY.out, HSame.out]
          exact HR.out.below stabSym BX.out
        have K3 : Hid (Kp F w (wr.alloc (.cells #[.int .i64 a[k].kind, .string a[k].text, .slice aa a[k].args.length ac, .string a[k].bind] 61))) := HK.out.trans (Kp.below BX.out)
        clear h3 HY
        go_wp2
        go_roundw
        case rel => exact ⟨k + 1, by go_num, by omega, HRx.out, K3.out⟩
        case measure => simp [intOf]; omega
    · obtain rfl : k = a.length := by omega
      have i4 : ¬ (a.length : Int) < (a.length : Int) := by omega
      have HRf : Hid (RowF 4 61 SymF F (.slice p a.length cap) (renA f t a) wr) := by
        have h := HR.out
        rwa [renTo_all] at h
      go_wp2
      go_end0
      exact ⟨rfl, HRf.out, HK.out⟩

end Go.Proofs.YtnfekjpchenfpaaGreatDoor

namespace Go.Proofs.YtnfekjpchenfpaaGreatDoor
open Go.RowKit
set_option linter.unusedVariables false

/-- What is kept: what lies below B, and every row whose type is none of ts. -/
structure FrT (ts : List TypeId) (B : Nat) (w w' : World) : Prop where
  bel : Below B w w'
  typ : ∀ (k : Nat) (c : Array Value) (t : TypeId) (fr : Nat × Nat), w.heap[k]? = some (.cells c t fr) → t ∉ ts → w'.heap[k]? = some (.cells c t fr)
section
variable {ts : List TypeId} {B B' : Nat} {w w' w1 w2 : World}
theorem FrT.refl (ts : List TypeId) (B : Nat) (w : World) : FrT ts B w w := ⟨Below.refl _ _, fun _ _ _ _ h _ => h⟩
theorem FrT.trans (h : FrT ts B w w1) (k : FrT ts B w1 w2) : FrT ts B w w2 :=
  ⟨h.bel.trans k.bel, fun b c t fr hb h1 => k.typ b c t fr (h.typ b c t fr hb h1) h1⟩
theorem FrT.below (h : Below w.heap.size w w') (hB : B ≤ w.heap.size) : FrT ts B w w' :=
  ⟨h.mono hB, fun k c t fr hk _ => (h.block k (Array.getElem?_eq_some_iff.1 hk).1).trans hk⟩
theorem FrT.base (h : FrT ts B w w') (hB : B' ≤ B) : FrT ts B' w w' := ⟨h.bel.mono hB, h.typ⟩
theorem FrT.wide {ts' : List TypeId} (h : FrT ts B w w') (ht : ∀ t ∈ ts, t ∈ ts') : FrT ts' B w w' := ⟨h.bel, fun k c t fr hk hn => h.typ k c t fr hk (fun hm => hn (ht t hm))⟩
/-- Behind a step that turns nothing of what lay in the first world. -/
theorem FrT.new (h : FrT ts B w w1) (k : Below w.heap.size w1 w2) (hB : B ≤ w.heap.size) : FrT ts B w w2 :=
  ⟨h.bel.trans (k.mono hB), fun b c t fr hb h1 => (k.block b (Array.getElem?_eq_some_iff.1 hb).1).trans (h.typ b c t fr hb h1)⟩
theorem own_frT {e : TypeId} {s n : Nat} {v : Value} {cs : List Value} (h : w.ownsRow B' e s v n cs) (hf : FrT ts B w w') (h1 : e ∉ ts) : w'.ownsRow B' e s v n cs := by
  refine ⟨h.1, ?_⟩
  rcases h.2 with hn | ⟨g, cap, cur, rfl, hB, hc, r⟩
  · exact .inl hn
  · exact .inr ⟨g, cap, cur, rfl, hB, hf.typ g cur e (0, 0) hc h1, r⟩
theorem ownZ_fr {v : Value} {ks : List Int} (h : OwnZ B' v ks w) (hf : FrT ts B w w') (ht : 3 ∉ ts) : OwnZ B' v ks w' := own_frT h hf ht
end

theorem setCell_self {w : World} {p j : Nat} {c : Array Value} {t : TypeId} {fr : Nat × Nat} (u : Value) (h : w.heap[p]? = some (.cells c t fr)) : (w.setCell ⟨p, j, none⟩ u).heap[p]? = some (.cells (c.setIfInBounds j u) t fr) := by
  simp [World.setCell, Array.getElem?_modify, h]
theorem setCell_other {w : World} {p j k : Nat} (u : Value) (h : k ≠ p) : (w.setCell ⟨p, j, none⟩ u).heap[k]? = w.heap[k]? := by
  simp only [World.setCell]
  rw [Array.getElem?_modify, if_neg (fun e => h e.symm)]
theorem grown_setCell (w : World) (p j : Nat) (u : Value) : w.grownBy (w.setCell ⟨p, j, none⟩ u) (some p) :=
  ⟨rfl, rfl, rfl, by simp [World.setCell], fun k _ hk => setCell_other u (fun e => hk (by rw [e]))⟩
theorem own_offT {B : Nat} {e : TypeId} {s n : Nat} {v : Value} {cs : List Value} {w : World} {k : Nat} {c : Array Value} {t : TypeId} {fr : Nat × Nat} (h : w.ownsRow B e s v n cs) (hk : w.heap[k]? = some (.cells c t fr)) (hne : e ≠ t) : v.ownBlock ≠ some k := by
  rcases h.2 with ⟨rfl, _⟩ | ⟨g, cap, cur, rfl, _, hc, _⟩
  · intro e; cases e
  · intro eq
    obtain rfl : g = k := Option.some.inj eq
    rw [hk] at hc
    cases hc
    exact hne rfl
/-- A cell of a row of one of the types written: what is of another type stays. -/
theorem fr_set {ts : List TypeId} {B : Nat} {w : World} {p j : Nat} {c : Array Value} {t : TypeId} {fr : Nat × Nat} (u : Value) (h : w.heap[p]? = some (.cells c t fr)) (ht : t ∈ ts) (hB : B ≤ p) : FrT ts B w (w.setCell ⟨p, j, none⟩ u) := by
  refine ⟨(Below.refl _ _).setCell hB u, fun k c' t' fr' hk h1 => ?_⟩
  have : k ≠ p := fun e => by
    subst e
    rw [h] at hk
    cases hk
    exact h1 ht
  rw [setCell_other u this]
  exact hk

theorem run_cell {w : World} {p j : Nat} {c : Array Value} {t : TypeId} {fr : Nat × Nat} {u : Value} (h : w.heap[p]? = some (.cells c t fr)) (hj : c[j]? = some u) : w.cell? ⟨p, j, none⟩ = some u := by
  rw [cell_of_row _ _ j _ _ _ h]
  exact hj
theorem run_frozen {w : World} {p j : Nat} {c : Array Value} {t : TypeId} (h : w.heap[p]? = some (.cells c t (0, 0))) : w.frozen? ⟨p, j, none⟩ = false := by
  simp [World.frozen?, h]
/-- An append to a row of one of the types: what is of another type stays. -/
theorem fr_grown {ts : List TypeId} {B : Nat} {w w' : World} {e : TypeId} {s n : Nat} {v : Value} {cs : List Value} (h : w.ownsRow B e s v n cs) (hg : w.grownBy w' v.ownBlock) (ht : e ∈ ts) (hB : B ≤ w.heap.size) : FrT ts B w w' := by
  refine ⟨(Below.refl _ _).grown hg hB (fun k hk => (h.lt k hk).1), fun k c t fr hk hn => ?_⟩
  have hlt := (Array.getElem?_eq_some_iff.1 hk).1
  rw [hg.block k hlt (fun e' => own_offT h hk (fun e2 => hn (e2 ▸ ht)) e'.symm)]
  exact hk

end Go.Proofs.YtnfekjpchenfpaaGreatDoor

namespace Go.Proofs.YtnfekjpchenfpaaGreatDoor
open Go.RowKit
set_option linter.unusedVariables false
variable {α : Type}

/-- What is told of a world is told of every world that has its blocks but those of A. -/
def Held (A : Nat → Prop) (w : World) (P : World → Prop) : Prop := ∀ W : World, w.heap.size ≤ W.heap.size → (∀ k, k < w.heap.size → ¬ A k → W.heap[k]? = w.heap[k]?) → P W
/-- Of what was there only blocks of A turned. -/
structure FrA (A : Nat → Prop) (w w' : World) : Prop where
  size : w.heap.size ≤ w'.heap.size
  block : ∀ k, k < w.heap.size → ¬ A k → w'.heap[k]? = w.heap[k]?
section
variable {A A' : Nat → Prop} {B : Nat} {w w' w1 w2 : World} {P Q : World → Prop}
theorem Held.here (h : Held A w P) : P w := h w (Nat.le_refl _) (fun _ _ _ => rfl)
theorem Held.imp (h : Held A w P) (hi : ∀ W, P W → Q W) : Held A w Q := fun W h1 h2 => hi W (h W h1 h2)
theorem Held.and (h : Held A w P) (k : Held A w Q) : Held A w fun W => P W ∧ Q W := fun W h1 h2 => ⟨h W h1 h2, k W h1 h2⟩
theorem Held.pure {p : Prop} (h : p) : Held A w fun _ => p := fun _ _ _ => h
theorem Held.away (h : Held A w P) (hA : ∀ k, k < w.heap.size → A' k → A k) : Held A' w P := fun W h1 h2 => h W h1 (fun k hk ha => h2 k hk (fun ha' => ha (hA k hk ha')))
theorem Held.fr (h : Held A w P) (hf : FrA A w w') : Held A w' P := fun W h1 h2 => h W (Nat.le_trans hf.size h1) (fun k hk ha => (h2 k (Nat.lt_of_lt_of_le hk hf.size) ha).trans (hf.block k hk ha))
/-- Behind a step by which only A turned, with other blocks to come. -/
theorem Held.go (h : Held A w P) (hf : FrA A w w') (hA : ∀ k, k < w.heap.size → A' k → A k) : Held A' w' P := fun W h1 h2 => h W (Nat.le_trans hf.size h1) (fun k hk ha => (h2 k (Nat.lt_of_lt_of_le hk hf.size) (fun ha' => ha (hA k hk ha'))).trans (hf.block k hk ha))
theorem Held.of_fresh (h : Fresh B w P) (hA : ∀ k, A k → k < B) : Held A w P := fun W h1 h2 => h W h1 (fun k hk hlt => h2 k hlt (fun ha => by have := hA k ha; omega))
theorem FrA.refl (A : Nat → Prop) (w : World) : FrA A w w := ⟨Nat.le_refl _, fun _ _ _ => rfl⟩
theorem FrA.trans (h : FrA A w w1) (k : FrA A' w1 w2) (hA : ∀ k, k < w.heap.size → A' k → A k) : FrA A w w2 :=
  ⟨Nat.le_trans h.size k.size, fun b hb ha => (k.block b (Nat.lt_of_lt_of_le hb h.size) (fun ha' => ha (hA b hb ha'))).trans (h.block b hb ha)⟩
theorem FrA.wide (h : FrA A w w') (hA : ∀ k, k < w.heap.size → A k → A' k) : FrA A' w w' := ⟨h.size, fun k hk ha => h.block k hk (fun ha' => ha (hA k hk ha'))⟩
theorem FrA.below (h : Below w.heap.size w w') : FrA A w w' := ⟨h.size, fun k hk _ => h.block k hk⟩
theorem FrA.set {p j : Nat} (u : Value) (hp : A p) : FrA A w (w.setCell ⟨p, j, none⟩ u) := ⟨by simp [World.setCell], fun k _ ha => setCell_other u (fun e => ha (e ▸ hp))⟩
theorem FrA.grown {r : Option Nat} (hg : w.grownBy w' r) (hr : ∀ k, r = some k → A k) : FrA A w w' := ⟨hg.size, fun k hk ha => hg.block k hk (fun e => ha (hr k e.symm))⟩
end

/-- An element whose reach is held. -/
def HE (A : Nat → Prop) (E : World → List Value → α → Prop) (w : World) (vs : List Value) (x : α) : Prop := Held A w fun W => E W vs x
/-- A list that the call owns, what its elements reach held. -/
abbrev RowH (sz : Nat) (T : TypeId) (E : World → List Value → α → Prop) (A : Nat → Prop) (B : Nat) (v : Value) (xs : List α) (w : World) : Prop := RowO sz T (HE A E) B v xs w
section
variable {sz : Nat} {T : TypeId} {E : World → List Value → α → Prop} {A A' : Nat → Prop} {B : Nat} {v : Value} {xs : List α} {w w' : World}
theorem RowH.rowC (h : RowH sz T E A B v xs w) : RowC sz E w v xs := by
  obtain ⟨a, cap, rfl, hcap, hh⟩ := RowO.row h
  refine ⟨a, cap, rfl, hcap, fun h0 => ?_⟩
  obtain ⟨b, off, rfl, hlt, hc⟩ := hh h0
  exact ⟨b, off, rfl, hlt, fun i hi => (hc i hi).imp fun vs h => ⟨h.1, h.2.1, h.2.2.here⟩⟩
/-- Behind a step by which only A turned, and not the row. -/
theorem RowH.go (h : RowH sz T E A B v xs w) (hf : FrA A w w') (hA : ∀ k, k < w.heap.size → A' k → A k) (hv : ∀ k, v.ownBlock = some k → w'.heap[k]? = w.heap[k]?) : RowH sz T E A' B v xs w' := by
  obtain ⟨vss, h1, h2, h3, h4⟩ := h
  refine ⟨vss, h1, h2, ⟨h3.1, ?_⟩, fun i hi hi' => Held.go (h4 i hi hi') hf hA⟩
  rcases h3.2 with hn | ⟨g, cap, cur, rfl, hB, hc, r⟩
  · exact .inl hn
  · exact .inr ⟨g, cap, cur, rfl, hB, (hv g rfl).trans hc, r⟩
theorem RowH.below (h : RowH sz T E A B v xs w) (hb : Below w.heap.size w w') : RowH sz T E A B v xs w' :=
  RowH.go h (FrA.below hb) (fun _ _ ha => ha) (fun k hk => hb.block k (RowO.lt h k hk).2)
/-- The list itself is held, if its row is none of A. -/
theorem RowH.held (h : RowH sz T E A B v xs w) (hv : ∀ k, v.ownBlock = some k → ¬ A k) : Held A w fun W => RowC sz E W v xs := by
  intro W hW hbl
  obtain ⟨vss, h1, h2, h3, h4⟩ := h
  have h3' : W.ownsRow B T sz v xs.length vss.flatten := by
    refine ⟨h3.1, ?_⟩
    rcases h3.2 with hn | ⟨g, cap, cur, rfl, hB, hc, r⟩
    · exact .inl hn
    · exact .inr ⟨g, cap, cur, rfl, hB, (hbl g (Array.getElem?_eq_some_iff.1 hc).1 (hv g rfl)).trans hc, r⟩
  exact RowO.row (sz := sz) (T := T) (E := E) (B := B) ⟨vss, h1, h2, h3', fun i hi hi' => h4 i hi hi' W hW hbl⟩
theorem RowH.nil : RowH sz T E A B (.slice none 0 0) ([] : List α) w := RowO.nil
/-- One more element, appended: out of what wpList_append_lies tells. -/
theorem RowH.snoc (h : RowH sz T E A B v xs w) : ∃ cs, w.ownsRow B T sz v xs.length cs ∧ ∀ (g cap : Nat) (w1 w2 : World) (vs : List Value) (x : α), vs.length = sz → FrA A w w1 → w2.ownsRow B T sz (.slice (some ⟨g, 0, none⟩) (xs.length + 1) cap) (xs.length + 1) (cs ++ vs) → w1.grownBy w2 v.ownBlock → (∀ k, v.ownBlock = some k → A k) → (∀ k, k < w.heap.size → A' k → A k) → Held A' w2 (fun W => E W vs x) → RowH sz T E A' B (.slice (some ⟨g, 0, none⟩) (xs ++ [x]).length cap) (xs ++ [x]) w2 := by
  obtain ⟨vss, h1, h2, h3, h4⟩ := h
  refine ⟨vss.flatten, h3, fun g cap w1 w2 vs x hl hf ho2 hg hvA hA hx => ?_⟩
  have hfr : FrA A w w2 := hf.trans (FrA.grown hg hvA) (fun _ _ ha => ha)
  have e : (xs ++ [x]).length = xs.length + 1 := by simp
  rw [e]
  refine ⟨vss ++ [vs], by simp [h1], fun u hu => ?_, by rw [e]; simpa using ho2, fun i hi hi' => ?_⟩
  · rcases List.mem_append.1 hu with hu | hu
    · exact h2 u hu
    · rw [List.mem_singleton.1 hu]; exact hl
  · by_cases hlt : i < vss.length
    · rw [List.getElem_append_left hlt, List.getElem_append_left (by omega)]
      exact Held.go (h4 i hlt (by omega)) hfr hA
    · have e : i = vss.length := by simp at hi; omega
      subst e
      rw [List.getElem_append_right (Nat.le_refl _), List.getElem_append_right (by omega)]
      simp only [Nat.sub_self, h1]
      exact hx
end

end Go.Proofs.YtnfekjpchenfpaaGreatDoor

namespace Go.Proofs.YtnfekjpchenfpaaGreatDoor
open Go.RowKit
set_option linter.unusedVariables false
variable {α : Type}

/-- The blocks below B, and the row's own. -/
def Own0 (B : Nat) (v : Value) : Nat → Prop := fun k => k < B ∨ v.ownBlock = some k
section
variable {sz : Nat} {T : TypeId} {E : World → List Value → α → Prop} {A A' : Nat → Prop} {B : Nat} {v : Value} {xs : List α} {w w' : World}
theorem RowH.add (h : RowH sz T E A B v xs w) (hvA : ∀ k, v.ownBlock = some k → A k) : ∃ cs, w.ownsRow B T sz v xs.length cs ∧ ∀ (g cap : Nat) (w2 : World) (vs : List Value) (x : α) (A' : Nat → Prop), vs.length = sz → Held A w (fun W => E W vs x) → w2.ownsRow B T sz (.slice (some ⟨g, 0, none⟩) (xs.length + 1) cap) (xs.length + 1) (cs ++ vs) → w.grownBy w2 v.ownBlock → (∀ k, k < w.heap.size → A' k → A k) → RowH sz T E A' B (.slice (some ⟨g, 0, none⟩) (xs.length + 1) cap) (xs ++ [x]) w2 := by
  obtain ⟨vss, h1, h2, h3, h4⟩ := h
  refine ⟨vss.flatten, h3, fun g cap w2 vs x A' hl hx ho2 hg hA => ?_⟩
  have hfr : FrA A w w2 := FrA.grown hg hvA
  have e : (xs ++ [x]).length = xs.length + 1 := by simp
  refine ⟨vss ++ [vs], by simp [h1], fun u hu => ?_, by rw [e]; simpa using ho2, fun i hi hi' => ?_⟩
  · rcases List.mem_append.1 hu with hu | hu
    · exact h2 u hu
    · rw [List.mem_singleton.1 hu]; exact hl
  · by_cases hlt : i < vss.length
    · rw [List.getElem_append_left hlt, List.getElem_append_left (by omega)]
      exact Held.go (h4 i hlt (by omega)) hfr hA
    · have e : i = vss.length := by simp at hi; omega
      subst e
      rw [List.getElem_append_right (Nat.le_refl _), List.getElem_append_right (by omega)]
      simp only [Nat.sub_self, h1]
      exact Held.go hx hfr hA
theorem own_next {g n c H B : Nat} (hat : v.ownBlock = some g ∨ g = H) (hH : w.heap.size = H) : ∀ k, k < w.heap.size → Own0 B (.slice (some ⟨g, 0, none⟩) n c) k → Own0 B v k := fun k hk h => by
  rcases h with h | h
  · exact .inl h
  · have e : g = k := Option.some.inj h
    rcases hat with h2 | h2
    · exact .inr (by rw [← e]; exact h2)
    · omega
theorem own0_lt (h : RowH sz T E A B v xs w) (hB : B ≤ w.heap.size) : ∀ k, Own0 B v k → k < w.heap.size := fun k hk => by
  rcases hk with hk | hk
  · omega
  · exact (RowO.lt h k hk).2
/-- A list that is built of new memory alone. -/
theorem RowH.fresh (h : RowH sz T E (Own0 B v) B v xs w) : Fresh B w fun W => RowC sz E W v xs := by
  have h2 : RowH sz T E (fun k => k < B) B v xs w := RowH.go h (FrA.refl _ _) (fun k _ hk => .inl hk) (fun _ _ => rfl)
  have h3 := RowH.held h2 (fun k hk hlt => by have := (RowO.lt h k hk).1; omega)
  exact fun W h4 h5 => h3 W h4 (fun k hk hn => h5 k (Nat.le_of_not_lt hn) hk)
theorem RowH.made0 (w : World) : RowH sz T E (Own0 w.heap.size (.slice (some ⟨w.heap.size, 0, none⟩) 0 0)) w.heap.size (.slice (some ⟨w.heap.size, 0, none⟩) 0 0) ([] : List α) (w.alloc (.cells #[] T)) := RowO.made (Nat.le_refl _)
theorem Held.fresh0 {P : World → Prop} {b : Nat} (h : Fresh b w P) (hA : ∀ k, A k → k < b) : Held A w P := Held.of_fresh h hA
end
/-- Nodes of an expression, as cells of a row. -/
def NodE (w : World) (vs : List Value) (x : NodeD) : Prop := ∃ kv : Value, vs = [.int .i64 x.op, .int .i64 x.num, .string x.name, kv] ∧ IRow w kv x.kids
theorem nRow_ofC {w : World} {v : Value} {ns : List NodeD} (h : RowC 4 NodE w v ns) : NRow w v ns := by
  obtain ⟨a, cap, rfl, hcap, hh⟩ := h
  refine ⟨a, cap, rfl, hcap, fun h0 => ?_⟩
  obtain ⟨b, off, rfl, hlt, hc⟩ := hh h0
  refine ⟨b, off, rfl, hlt, fun i hi => ?_⟩
  obtain ⟨vs, h1, h2, kv, rfl, hz⟩ := hc i hi
  exact ⟨kv, h2 0 (by simp), h2 1 (by simp), h2 2 (by simp), h2 3 (by simp), hz⟩
/-- A whole list of numbers appended to one that the call owns; nil or not. -/
theorem append_intsF {P : Program} {w : World} {ops : Array Oper} {rest : List Oper} {o : Oper} {a : Act} {Q : Exit → Act → World → Prop} (hgd : o.guard = none) (s x : Operand) (t : TypeId)
    (ho : o.op = .call { callee := .builtin .append, args := #[s, x], argTypes := #[t, t] })
    (base : Nat) (e : TypeId) (i : TypeInfo) (z : Value) (ht : P.underlying t = some (.slice e)) (hi : P.info? e = some i) (hz : i.zero = some z)
    (hsize : i.size = 1) (hby : i.bytes = 8) (hzs : z.cells.size = 1)
    (v : Value) (n : Nat) (xs : List Value) (hs : a.eval s = v) (hown : w.ownsRow base e 1 v n xs) (ps : List Int) (pa : Option Addr) (c : Nat) (hx : a.eval x = .slice pa ps.length c) (hp : IRow w (.slice pa ps.length c) ps)
    (hl : n + ps.length ≤ 4194304) (hbase : base ≤ w.heap.size)
    (h : ∀ v' w', w'.ownsRow base e 1 v' (n + ps.length) (xs ++ zv ps) → w.grownBy w' v.ownBlock → wpList P ops Q rest (a.put o.dst v') w') : wpList P ops Q (o :: rest) a w := by
  obtain ⟨pa', c', e1, hcap, hh⟩ := hp
  cases e1
  cases pa with
  | none =>
    have h0 : ps.length = 0 := by
      rcases Nat.eq_zero_or_pos ps.length with h | h
      · exact h
      · obtain ⟨_, _, e, _⟩ := hh h
        cases e
    obtain rfl : ps = [] := List.length_eq_zero_iff.1 h0
    obtain rfl := hcap rfl
    refine wpList_append_own_none hgd s x t ho base e i 1 ht hi v n xs hs hown hx (h v w ?_ (World.grownBy.refl _ _))
    simpa [zv] using hown
  | some ad =>
    refine wpList_append_own w hgd s x t ho base e i z 1 8 ht hi hz hsize hby hzs (by decide) v n xs hs hown ad ps.length c (zv ps) hx (by rw [zv_len, Nat.mul_one]) (fun j u hj => ?_) (fun u hu => ?_) (by unfold maxLen; omega) (by omega) hbase (fun v' w' h1 h2 _ => h v' w' h1 h2)
    · have hj2 : j < ps.length := by
        have := (List.getElem?_eq_some_iff.1 hj).1
        rwa [zv_len] at this
      obtain ⟨b, off, e, _, hc⟩ := hh (by omega)
      cases e
      have e2 : (zv ps)[j]? = some (.int .i64 ps[j]) := by simp [zv, hj2]
      rw [e2] at hj
      rw [← Option.some.inj hj, Addr.add_lit]
      exact hc j hj2
    · obtain ⟨s, _, rfl⟩ := List.mem_map.1 hu
      rfl
/-- A whole list of texts appended to one that the call owns; nil or not: as one step of a region that draws. -/
theorem step_append_textsF {P : Program} {w : World} {ops : Array Oper} {o : Oper} {a : Act} {K : Act → World → Prop} {Q : Exit → Act → World → Prop} {E : Prop} (hgd : o.guard = none) (s x : Operand) (t : TypeId)
    (ho : o.op = .call { callee := .builtin .append, args := #[s, x], argTypes := #[t, t] })
    (base : Nat) (e : TypeId) (i : TypeInfo) (z : Value) (ht : P.underlying t = some (.slice e)) (hi : P.info? e = some i) (hz : i.zero = some z)
    (hsize : i.size = 1) (hby : i.bytes = 16) (hzs : z.cells.size = 1)
    (v : Value) (n : Nat) (xs : List Value) (hs : a.eval s = v) (hown : w.ownsRow base e 1 v n xs) (ps : List ByteArray) (pa : Option Addr) (c : Nat) (hx : a.eval x = .slice pa ps.length c) (hp : SRow w (.slice pa ps.length c) ps)
    (hl : n + ps.length ≤ 4194304) (hbase : base ≤ w.heap.size)
    (h : ∀ v' w', w'.ownsRow base e 1 v' (n + ps.length) (xs ++ sb ps) → w.grownBy w' v.ownBlock → K (a.put o.dst v') w') : if Region.wanted o (yielded ops a.tmps) = true then Oper.wp P o a w K Q else E := by
  have hw : Region.wanted o (yielded ops a.tmps) = true := by simp [Region.wanted, hgd]
  rw [if_pos hw]
  obtain ⟨pa', c', e1, hcap, hh⟩ := hp
  cases e1
  cases pa with
  | none =>
    have h0 : ps.length = 0 := by
      rcases Nat.eq_zero_or_pos ps.length with h | h
      · exact h
      · obtain ⟨_, _, e, _⟩ := hh h
        cases e
    obtain rfl : ps = [] := List.length_eq_zero_iff.1 h0
    obtain rfl := hcap rfl
    have hrun := run_append_owned_none (P := P) (w := w) base t o.type e i 1 ht hi v n xs hown
    have hx' : a.eval x = .slice none 0 0 := hx
    unfold Oper.wp
    simp [execOp, ho, resolve, invoke, builtin, hs, hx', hrun, Result.andThen]
    exact h v w (by simpa [sb] using hown) (World.grownBy.refl _ _)
  | some ad =>
    refine wp_append_own w s x t ho base e i z 1 16 ht hi hz hsize hby hzs (by decide) v n xs hs hown ad ps.length c (sb ps) hx (by rw [sb_len, Nat.mul_one]) (fun j u hj => ?_) (fun u hu => ?_) (by unfold maxLen; omega) (by omega) hbase (fun v' w' h1 h2 _ => h v' w' h1 h2)
    · have hj2 : j < ps.length := by
        have := (List.getElem?_eq_some_iff.1 hj).1
        rwa [sb_len] at this
      obtain ⟨b, off, e, _, hc⟩ := hh (by omega)
      cases e
      rw [sb_at ps j hj2] at hj
      rw [← Option.some.inj hj, Addr.add_lit]
      exact hc j hj2
    · obtain ⟨s, _, rfl⟩ := List.mem_map.1 hu
      rfl
theorem own_fresh {B : Nat} {e : TypeId} {s n : Nat} {v : Value} {cs : List Value} {w : World} (h : w.ownsRow B e s v n cs) : Fresh B w fun V => V.ownsRow B e s v n cs := fun V h1 h2 => by
  refine ⟨h.1, ?_⟩
  rcases h.2 with hn | ⟨g, cap, cur, rfl, hB, hc, r⟩
  · exact .inl hn
  · exact .inr ⟨g, cap, cur, rfl, hB, (h2 g hB (Array.getElem?_eq_some_iff.1 hc).1).trans hc, r⟩
theorem IRow.nilv (w : World) : IRow w (.slice none 0 0) [] := ⟨none, 0, rfl, fun _ => rfl, fun h => absurd h (by simp)⟩

end Go.Proofs.YtnfekjpchenfpaaGreatDoor
