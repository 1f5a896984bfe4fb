/- The laws' own helpers on expressions: how great they are, copied. -/
/- What is kept by the types of rows: what lies below B, and every row whose type is none of some. -/
/- The specification's reader behind its pointer: is, sign, want, kind, down, up. -/
/- The specification's reader: sign, want, down, up. -/
import Derived.Test.YtipkbkhnaekceaaXOk
import Derived.Test.YtipkbkhnaekceaaRO
import Derived.Test.YtipkbkhnaekceaaXPure
import Derived.Handy
import Derived.OwnWalk
import Derived.Laws.OwnMore
import Derived.Deep.QuietTactic
import Derived.BigQuiet
namespace Go.Proofs.Ytipkbkhnaekceaa
open Go.RowKit

/-- Numbers that the call owns. -/
def zv (ks : List Int) : List Value := ks.map (.int .i64 ·)
theorem zv_len (ks : List Int) : (zv ks).length = ks.length := by simp [zv]
def OwnZ (B : Nat) (v : Value) (ks : List Int) (w : World) : Prop := w.ownsRow B 3 1 v ks.length (zv ks)
theorem OwnZ.row {B : Nat} {v : Value} {ks : List Int} {w : World} (h : OwnZ B v ks w) : IRow w v ks := by
  rcases h.2 with ⟨rfl, hz⟩ | ⟨g, cap, cur, rfl, hB, hc, hle, hm, hs, ht⟩
  · exact ⟨none, 0, by rw [hz], fun _ => rfl, fun h0 => by omega⟩
  · refine ⟨some ⟨g, 0, none⟩, cap, rfl, fun h => (by cases h), fun _ => ⟨g, 0, rfl, (Array.getElem?_eq_some_iff.1 hc).1, fun i hi => ?_⟩⟩
    have := World.ownsRow.cells h (g := g) rfl i (.int .i64 ks[i]) (by simp [zv, hi])
    rwa [Addr.add_lit] at this
theorem OwnZ.below {B : Nat} {v : Value} {ks : List Int} {w w' : World} (h : OwnZ B v ks w) (hb : Below w.heap.size w w') : OwnZ B v ks w' := own_below h hb
theorem OwnZ.base {B B' : Nat} {v : Value} {ks : List Int} {w : World} (h : OwnZ B v ks w) (hB : B' ≤ B) : OwnZ B' v ks w := by
  refine ⟨h.1, ?_⟩
  rcases h.2 with h | ⟨g, cap, cur, e, hg, r⟩
  · exact .inl h
  · exact .inr ⟨g, cap, cur, e, Nat.le_trans hB hg, r⟩
theorem Try.infoInt5 : (Try.prog.info? 3).map (fun i => (i.zero, i.size, i.bytes)) = some (some (.int .i64 0), 1, 8) := by kernel_rfl

end Go.Proofs.Ytipkbkhnaekceaa

namespace Go.Proofs.Ytipkbkhnaekceaa
open Go.RowKit
set_option linter.unusedVariables false

/-- What is kept: what lies below B, and every row whose type is none of ts. -/
structure FrT (ts : List TypeId) (B : Nat) (w w' : World) : Prop where
  bel : Below B w w'
  typ : ∀ (k : Nat) (c : Array Value) (t : TypeId) (fr : Nat × Nat), w.heap[k]? = some (.cells c t fr) → t ∉ ts → w'.heap[k]? = some (.cells c t fr)
section
variable {ts : List TypeId} {B B' : Nat} {w w' w1 w2 : World}
theorem FrT.refl (ts : List TypeId) (B : Nat) (w : World) : FrT ts B w w := ⟨Below.refl _ _, fun _ _ _ _ h _ => h⟩
theorem FrT.trans (h : FrT ts B w w1) (k : FrT ts B w1 w2) : FrT ts B w w2 :=
  ⟨h.bel.trans k.bel, fun b c t fr hb h1 => k.typ b c t fr (h.typ b c t fr hb h1) h1⟩
theorem FrT.below (h : Below w.heap.size w w') (hB : B ≤ w.heap.size) : FrT ts B w w' :=
  ⟨h.mono hB, fun k c t fr hk _ => (h.block k (Array.getElem?_eq_some_iff.1 hk).1).trans hk⟩
theorem FrT.base (h : FrT ts B w w') (hB : B' ≤ B) : FrT ts B' w w' := ⟨h.bel.mono hB, h.typ⟩
theorem FrT.wide {ts' : List TypeId} (h : FrT ts B w w') (ht : ∀ t ∈ ts, t ∈ ts') : FrT ts' B w w' := ⟨h.bel, fun k c t fr hk hn => h.typ k c t fr hk (fun hm => hn (ht t hm))⟩
/-- Behind a step that turns nothing of what lay in the first world. -/
theorem FrT.new (h : FrT ts B w w1) (k : Below w.heap.size w1 w2) (hB : B ≤ w.heap.size) : FrT ts B w w2 :=
  ⟨h.bel.trans (k.mono hB), fun b c t fr hb h1 => (k.block b (Array.getElem?_eq_some_iff.1 hb).1).trans (h.typ b c t fr hb h1)⟩
theorem own_frT {e : TypeId} {s n : Nat} {v : Value} {cs : List Value} (h : w.ownsRow B' e s v n cs) (hf : FrT ts B w w') (h1 : e ∉ ts) : w'.ownsRow B' e s v n cs := by
  refine ⟨h.1, ?_⟩
  rcases h.2 with hn | ⟨g, cap, cur, rfl, hB, hc, r⟩
  · exact .inl hn
  · exact .inr ⟨g, cap, cur, rfl, hB, hf.typ g cur e (0, 0) hc h1, r⟩
theorem ownZ_fr {v : Value} {ks : List Int} (h : OwnZ B' v ks w) (hf : FrT ts B w w') (ht : 3 ∉ ts) : OwnZ B' v ks w' := own_frT h hf ht
end

theorem setCell_self {w : World} {p j : Nat} {c : Array Value} {t : TypeId} {fr : Nat × Nat} (u : Value) (h : w.heap[p]? = some (.cells c t fr)) : (w.setCell ⟨p, j, none⟩ u).heap[p]? = some (.cells (c.setIfInBounds j u) t fr) := by
  simp [World.setCell, Array.getElem?_modify, h]
theorem setCell_other {w : World} {p j k : Nat} (u : Value) (h : k ≠ p) : (w.setCell ⟨p, j, none⟩ u).heap[k]? = w.heap[k]? := by
  simp only [World.setCell]
  rw [Array.getElem?_modify, if_neg (fun e => h e.symm)]
theorem grown_setCell (w : World) (p j : Nat) (u : Value) : w.grownBy (w.setCell ⟨p, j, none⟩ u) (some p) :=
  ⟨rfl, rfl, rfl, by simp [World.setCell], fun k _ hk => setCell_other u (fun e => hk (by rw [e]))⟩
theorem own_offT {B : Nat} {e : TypeId} {s n : Nat} {v : Value} {cs : List Value} {w : World} {k : Nat} {c : Array Value} {t : TypeId} {fr : Nat × Nat} (h : w.ownsRow B e s v n cs) (hk : w.heap[k]? = some (.cells c t fr)) (hne : e ≠ t) : v.ownBlock ≠ some k := by
  rcases h.2 with ⟨rfl, _⟩ | ⟨g, cap, cur, rfl, _, hc, _⟩
  · intro e; cases e
  · intro eq
    obtain rfl : g = k := Option.some.inj eq
    rw [hk] at hc
    cases hc
    exact hne rfl
/-- A cell of a row of one of the types written: what is of another type stays. -/
theorem fr_set {ts : List TypeId} {B : Nat} {w : World} {p j : Nat} {c : Array Value} {t : TypeId} {fr : Nat × Nat} (u : Value) (h : w.heap[p]? = some (.cells c t fr)) (ht : t ∈ ts) (hB : B ≤ p) : FrT ts B w (w.setCell ⟨p, j, none⟩ u) := by
  refine ⟨(Below.refl _ _).setCell hB u, fun k c' t' fr' hk h1 => ?_⟩
  have : k ≠ p := fun e => by
    subst e
    rw [h] at hk
    cases hk
    exact h1 ht
  rw [setCell_other u this]
  exact hk

theorem run_cell {w : World} {p j : Nat} {c : Array Value} {t : TypeId} {fr : Nat × Nat} {u : Value} (h : w.heap[p]? = some (.cells c t fr)) (hj : c[j]? = some u) : w.cell? ⟨p, j, none⟩ = some u := by
  rw [cell_of_row _ _ j _ _ _ h]
  exact hj
theorem run_frozen {w : World} {p j : Nat} {c : Array Value} {t : TypeId} (h : w.heap[p]? = some (.cells c t (0, 0))) : w.frozen? ⟨p, j, none⟩ = false := by
  simp [World.frozen?, h]
/-- An append to a row of one of the types: what is of another type stays. -/
theorem fr_grown {ts : List TypeId} {B : Nat} {w w' : World} {e : TypeId} {s n : Nat} {v : Value} {cs : List Value} (h : w.ownsRow B e s v n cs) (hg : w.grownBy w' v.ownBlock) (ht : e ∈ ts) (hB : B ≤ w.heap.size) : FrT ts B w w' := by
  refine ⟨(Below.refl _ _).grown hg hB (fun k hk => (h.lt k hk).1), fun k c t fr hk hn => ?_⟩
  have hlt := (Array.getElem?_eq_some_iff.1 hk).1
  rw [hg.block k hlt (fun e' => own_offT h hk (fun e2 => hn (e2 ▸ ht)) e'.symm)]
  exact hk

end Go.Proofs.Ytipkbkhnaekceaa

namespace Go.Proofs.Ytipkbkhnaekceaa
open Go.RowKit
set_option linter.unusedVariables false

def rdC (lv ov : Value) (r : RdD) : Array Value := #[lv, .int .i64 r.at_, .int .i64 r.deep, .bool r.bad, ov]
def RdB (p : Nat) (lv ov : Value) (r : RdD) (w : World) : Prop := w.heap[p]? = some (.cells (rdC lv ov r) 101 (0, 0))
abbrev FrR (B : Nat) (w w' : World) : Prop := FrT [101] B w w'
theorem tokV_stable : StableE TokV := fun _ _ _ _ h _ => h
theorem isT_bad {tk : List TokD} {r : RdD} {s : ByteArray} (h : r.bad = true) : isT tk r s = false := by rw [isT, h]; rfl
theorem isT_end {tk : List TokD} {r : RdD} {s : ByteArray} (h : tk.length ≤ r.at_) : isT tk r s = false := by rw [isT, List.getElem?_eq_none h]; simp
theorem isT_at {tk : List TokD} {r : RdD} {s : ByteArray} (hb : r.bad = false) (h : r.at_ < tk.length) : isT tk r s = (decide (tk[r.at_].kind = 5) && decide (tk[r.at_].text = s)) := by rw [isT, hb, List.getElem?_eq_getElem h]; rfl

set_option maxHeartbeats 3200000 in
set_option maxRecDepth 100000 in
theorem is_any (p : Nat) (lv ov : Value) (tk : List TokD) (r : RdD) (s : ByteArray) (w : World) (hl : tk.length ≤ 1048576) (h : RdB p lv ov r w) (ht : RowC 2 TokV w lv tk) :
    Calls Try.prog 65 #[.pointer (some ⟨p, 0, none⟩), .string s] w fun e w' => e = .returned (.bool (isT tk r s)) ∧ ∃ q, w' = w.drewN q := by
  obtain ⟨a, cap, rfl⟩ := ht.slice
  have e0 : w.cell? ⟨p, 0, none⟩ = some (.slice a tk.length cap) := run_cell h rfl
  have e1 : w.cell? ⟨p, 1, none⟩ = some (.int .i64 r.at_) := run_cell h rfl
  have e3 : w.cell? ⟨p, 3, none⟩ = some (.bool r.bad) := run_cell h rfl
  clear h
  cases hb : r.bad with
  | true =>
    have HV : Hid (isT tk r s = false) := isT_bad hb
    rw [hb] at e3
    clear hb
    go_enter Try.func65, Try.ntmps65
    go_wp2_with fail
    go_quiet (fail)
    go_wp2
    go_ret
    rw [HV.out]
    exact ⟨rfl, _, rfl⟩
  | false =>
    rw [hb] at e3
    by_cases hlt : r.at_ < tk.length
    · have HV : Hid (_ = _) := isT_at (s := s) hb hlt
      obtain ⟨b, off, vs, rfl, _, hc, hE⟩ := ht.at hlt
      obtain rfl : vs = [.int .i64 tk[r.at_].kind, .string tk[r.at_].text] := hE
      have t0 : w.cell? ⟨b, off + r.at_ * 2, none⟩ = some (.int .i64 tk[r.at_].kind) := hc 0 (by simp)
      have t1 : w.cell? ⟨b, off + r.at_ * 2 + 1, none⟩ = some (.string tk[r.at_].text) := hc 1 (by simp)
      have i1 : (r.at_ : Int) < (tk.length : Int) := by omega
      have d1 : decide ((r.at_ : Int) < (tk.length : Int)) = true := decide_eq_true i1
      clear hc hb ht
      generalize tk[r.at_].kind = kd at *
      generalize tk[r.at_].text = tx at *
      generalize r.at_ = ra at *
      by_cases h5 : kd = 5
      · have q5 : (kd == 5) = true := by rw [beq_iff_eq]; exact h5
        rw [decide_eq_true h5, Bool.true_and] at HV
        clear h5
        by_cases hs : tx = s
        · have qs := beq_yes hs
          rw [decide_eq_true hs] at HV
          clear hs
          go_enter Try.func65, Try.ntmps65
          go_wp2_with fail
          go_quiet (fail)
          go_wp2
          go_ret
          rw [HV.out]
          exact ⟨by first | rfl | (rw [qs]; rfl), _, rfl⟩
        · have qs := beq_no hs
          rw [decide_eq_false hs] at HV
          clear hs
          go_enter Try.func65, Try.ntmps65
          go_wp2_with fail
          go_quiet (fail)
          go_wp2
          go_ret
          rw [HV.out]
          exact ⟨by first | rfl | (rw [qs]; rfl), _, rfl⟩
      · have q5 : (kd == 5) = false := by rw [beq_eq_false_iff_ne]; exact h5
        rw [decide_eq_false h5, Bool.false_and] at HV
        clear h5
        go_enter Try.func65, Try.ntmps65
        go_wp2_with fail
        go_quiet (fail)
        go_wp2
        go_ret
        rw [HV.out]
        exact ⟨rfl, _, rfl⟩
    · have HV : Hid (isT tk r s = false) := isT_end (by omega)
      have d1 : decide ((r.at_ : Int) < (tk.length : Int)) = false := decide_eq_false (by omega)
      clear hb
      go_enter Try.func65, Try.ntmps65
      go_wp2_with fail
      go_quiet (fail)
      go_wp2
      go_ret
      rw [HV.out]
      exact ⟨rfl, _, rfl⟩

end Go.Proofs.Ytipkbkhnaekceaa

namespace Go.Proofs.Ytipkbkhnaekceaa
open Go.RowKit
set_option linter.unusedVariables false

def signR (tk : List TokD) (r : RdD) (s : ByteArray) : RdD := if isT tk r s = true then onR r else r
theorem rdb_lt {p : Nat} {lv ov : Value} {r : RdD} {w : World} (h : RdB p lv ov r w) : p < w.heap.size := (Array.getElem?_eq_some_iff.1 h).1
theorem rdb_drew {p : Nat} {lv ov : Value} {r : RdD} {w : World} (h : RdB p lv ov r w) (q : Nat) : RdB p lv ov r (w.drewN q) := h
theorem frR_drew {B p : Nat} {lv ov : Value} {r : RdD} {w : World} (h : RdB p lv ov r w) (hB : B ≤ p) (q : Nat) : FrR B w (w.drewN q) := FrT.below (bel_drewN (Below.refl _ _) q) (Nat.le_trans hB (Nat.le_of_lt (rdb_lt h)))
/-- A field of the reader's written. -/
theorem rdb_set {B p j : Nat} {lv ov u : Value} {r r' : RdD} {w : World} (h : RdB p lv ov r w) (hB : B ≤ p) (hc : (rdC lv ov r).setIfInBounds j u = rdC lv ov r') : RdB p lv ov r' (w.setCell ⟨p, j, none⟩ u) ∧ FrR B w (w.setCell ⟨p, j, none⟩ u) :=
  ⟨by rw [RdB, setCell_self u h, hc], fr_set u h (by simp) hB⟩

set_option maxHeartbeats 1600000 in
set_option maxRecDepth 100000 in
theorem sign_any {B : Nat} (p : Nat) (lv ov : Value) (tk : List TokD) (r : RdD) (s : ByteArray) (w : World) (hB : B ≤ p) (hl : tk.length ≤ 1048576) (h : RdB p lv ov r w) (ht : RowC 2 TokV w lv tk) :
    Calls Try.prog 50 #[.pointer (some ⟨p, 0, none⟩), .string s] w fun e w' => e = .returned (.bool (isT tk r s)) ∧ RdB p lv ov (signR tk r s) w' ∧ FrR B w w' := by
  have H : Hid (RdB p lv ov r w) := h
  have HI : Hid (∀ _ : Unit, _) := fun _ => is_any p lv ov tk r s w hl h ht
  have hat : isT tk r s = true → r.at_ < 1048576 := fun e => by
    rcases Nat.lt_or_ge r.at_ tk.length with h | h
    · omega
    · rw [isT_end h] at e; cases e
  cases hi : isT tk r s with
  | true =>
    have hat2 := hat hi
    have HS : Hid (signR tk r s = onR r) := by rw [Hid, signR, if_pos hi]
    rw [hi] at HI
    clear hat hi
    have wa : IntKind.i64.wrap ((r.at_ : Int) + 1) = (r.at_ : Int) + 1 := by rw [IntKind.wrap_i64]; omega
    go_enter Try.func50, Try.ntmps50
    go_wp2_with fail
    refine (HI.out ()).mono ?_
    rintro e wq ⟨rfl, q, rfl⟩
    have e1 : (w.drewN q).cell? ⟨p, 1, none⟩ = some (.int .i64 r.at_) := run_cell (rdb_drew H.out q) rfl
    have z1 : (w.drewN q).frozen? ⟨p, 1, none⟩ = false := run_frozen (rdb_drew H.out q)
    have R := rdb_set (B := B) (j := 1) (u := .int .i64 ((r.at_ : Int) + 1)) (r' := onR r) (rdb_drew H.out q) hB rfl
    have HR1 : Hid (RdB p lv ov (onR r) ((w.drewN q).setCell ⟨p, 1, none⟩ (.int .i64 ((r.at_ : Int) + 1)))) := R.1
    have HR2 : Hid (FrR B w ((w.drewN q).setCell ⟨p, 1, none⟩ (.int .i64 ((r.at_ : Int) + 1)))) := (frR_drew H.out hB q).trans R.2
    clear R
    go_wp2
    go_ret
    rw [HS.out]
    exact ⟨rfl, HR1.out, HR2.out⟩
  | false =>
    have HS : Hid (signR tk r s = r) := by rw [Hid, signR, if_neg (by rw [hi]; decide)]
    rw [hi] at HI
    clear hat hi
    go_enter Try.func50, Try.ntmps50
    go_wp2_with fail
    refine (HI.out ()).mono ?_
    rintro e wq ⟨rfl, q, rfl⟩
    go_wp2
    go_ret
    rw [HS.out]
    exact ⟨rfl, rdb_drew H.out q, frR_drew H.out hB q⟩

set_option maxHeartbeats 1600000 in
theorem want_any {B : Nat} (p : Nat) (lv ov : Value) (tk : List TokD) (r : RdD) (s : ByteArray) (w : World) (hB : B ≤ p) (hl : tk.length ≤ 1048576) (h : RdB p lv ov r w) (ht : RowC 2 TokV w lv tk) :
    Calls Try.prog 51 #[.pointer (some ⟨p, 0, none⟩), .string s] w fun e w' => e = .returned (.tuple #[]) ∧ RdB p lv ov (wantR tk r s) w' ∧ FrR B w w' := by
  have HI : Hid (∀ _ : Unit, _) := fun _ => sign_any (B := B) p lv ov tk r s w hB hl h ht
  cases hi : isT tk r s with
  | true =>
    have HS : Hid (wantR tk r s = onR r) := by rw [Hid, wantR, if_pos hi]
    have HQ : Hid (signR tk r s = onR r) := by rw [Hid, signR, if_pos hi]
    rw [hi, HQ.out] at HI
    clear hi
    go_enter Try.func51, Try.ntmps51
    go_wp2_with fail
    refine (HI.out ()).mono ?_
    rintro e w1 ⟨rfl, h1, h2⟩
    have H1 : Hid (RdB p lv ov (onR r) w1) := h1
    have H2 : Hid (FrR B w w1) := h2
    clear h1 h2
    go_wp2
    go_end0
    rw [HS.out]
    exact ⟨rfl, H1.out, H2.out⟩
  | false =>
    have HS : Hid (wantR tk r s = badR r) := by rw [Hid, wantR, if_neg (by rw [hi]; decide)]
    have HQ : Hid (signR tk r s = r) := by rw [Hid, signR, if_neg (by rw [hi]; decide)]
    rw [hi, HQ.out] at HI
    clear hi
    go_enter Try.func51, Try.ntmps51
    go_wp2_with fail
    refine (HI.out ()).mono ?_
    rintro e w1 ⟨rfl, h1, h2⟩
    have e3 : w1.cell? ⟨p, 3, none⟩ = some (.bool r.bad) := run_cell h1 rfl
    have z3 : w1.frozen? ⟨p, 3, none⟩ = false := run_frozen h1
    have R := rdb_set (B := B) (j := 3) (u := .bool true) (r' := badR r) h1 hB rfl
    have H1 : Hid (RdB p lv ov (badR r) (w1.setCell ⟨p, 3, none⟩ (.bool true))) := R.1
    have H2 : Hid (FrR B w (w1.setCell ⟨p, 3, none⟩ (.bool true))) := h2.trans R.2
    clear R h1 h2
    go_wp2
    go_end0
    rw [HS.out]
    exact ⟨rfl, H1.out, H2.out⟩

set_option maxHeartbeats 1600000 in
theorem down_any {B : Nat} (p : Nat) (lv ov : Value) (r : RdD) (w : World) (hB : B ≤ p) (hd0 : -1000000 ≤ r.deep) (hd1 : r.deep ≤ 1000000) (h : RdB p lv ov r w) :
    Calls Try.prog 66 #[.pointer (some ⟨p, 0, none⟩)] w fun e w' => e = .returned (.tuple #[]) ∧ RdB p lv ov (downR r) w' ∧ FrR B w w' := by
  have wa : IntKind.i64.wrap (r.deep + 1) = r.deep + 1 := by rw [IntKind.wrap_i64]; omega
  have e2 : w.cell? ⟨p, 2, none⟩ = some (.int .i64 r.deep) := run_cell h rfl
  have z2 : w.frozen? ⟨p, 2, none⟩ = false := run_frozen h
  have R := rdb_set (B := B) (j := 2) (u := .int .i64 (r.deep + 1)) (r' := { r with deep := r.deep + 1 }) h hB rfl
  have f2 : (w.setCell ⟨p, 2, none⟩ (.int .i64 (r.deep + 1))).cell? ⟨p, 2, none⟩ = some (.int .i64 (r.deep + 1)) := run_cell R.1 rfl
  have f3 : (w.setCell ⟨p, 2, none⟩ (.int .i64 (r.deep + 1))).cell? ⟨p, 3, none⟩ = some (.bool r.bad) := run_cell R.1 rfl
  have y3 : (w.setCell ⟨p, 2, none⟩ (.int .i64 (r.deep + 1))).frozen? ⟨p, 3, none⟩ = false := run_frozen R.1
  have R2 := rdb_set (B := B) (j := 3) (u := .bool true) (r' := { r with deep := r.deep + 1, bad := true }) R.1 hB rfl
  have H1 : Hid (RdB p lv ov { r with deep := r.deep + 1 } (w.setCell ⟨p, 2, none⟩ (.int .i64 (r.deep + 1)))) := R.1
  have H2 : Hid (FrR B w (w.setCell ⟨p, 2, none⟩ (.int .i64 (r.deep + 1)))) := R.2
  have H3 : Hid (RdB p lv ov { r with deep := r.deep + 1, bad := true } ((w.setCell ⟨p, 2, none⟩ (.int .i64 (r.deep + 1))).setCell ⟨p, 3, none⟩ (.bool true))) := R2.1
  have H4 : Hid (FrR B w ((w.setCell ⟨p, 2, none⟩ (.int .i64 (r.deep + 1))).setCell ⟨p, 3, none⟩ (.bool true))) := R.2.trans R2.2
  clear R R2 h
  by_cases h20 : 20 < r.deep + 1
  · have HV : Hid (downR r = { r with deep := r.deep + 1, bad := true }) := by rw [Hid, downR, decide_eq_true h20, Bool.or_true]
    go_enter Try.func66, Try.ntmps66
    go_wp2
    go_end0
    rw [HV.out]
    exact ⟨rfl, H3.out, H4.out⟩
  · have HV : Hid (downR r = { r with deep := r.deep + 1 }) := by rw [Hid, downR, decide_eq_false h20, Bool.or_false]
    have d20 : decide (20 < r.deep + 1) = false := decide_eq_false h20
    go_enter Try.func66, Try.ntmps66
    go_wp2
    go_end0
    rw [HV.out]
    exact ⟨rfl, H1.out, H2.out⟩
set_option maxHeartbeats 800000 in
theorem up_any {B : Nat} (p : Nat) (lv ov : Value) (r : RdD) (w : World) (hB : B ≤ p) (hd0 : -1000000 ≤ r.deep) (hd1 : r.deep ≤ 1000000) (h : RdB p lv ov r w) :
    Calls Try.prog 68 #[.pointer (some ⟨p, 0, none⟩)] w fun e w' => e = .returned (.tuple #[]) ∧ RdB p lv ov (upR r) w' ∧ FrR B w w' := by
  have wa : IntKind.i64.wrap (r.deep - 1) = r.deep - 1 := by rw [IntKind.wrap_i64]; omega
  have e2 : w.cell? ⟨p, 2, none⟩ = some (.int .i64 r.deep) := run_cell h rfl
  have z2 : w.frozen? ⟨p, 2, none⟩ = false := run_frozen h
  have R := rdb_set (B := B) (j := 2) (u := .int .i64 (r.deep - 1)) (r' := upR r) h hB rfl
  have H1 : Hid (RdB p lv ov (upR r) (w.setCell ⟨p, 2, none⟩ (.int .i64 (r.deep - 1)))) := R.1
  have H2 : Hid (FrR B w (w.setCell ⟨p, 2, none⟩ (.int .i64 (r.deep - 1)))) := R.2
  clear R h
  go_enter Try.func68, Try.ntmps68
  go_wp2
  go_end0
  exact ⟨rfl, H1.out, H2.out⟩

end Go.Proofs.Ytipkbkhnaekceaa
