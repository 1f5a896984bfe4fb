/- The specification's reader: sign, want, down, up. -/
import Derived.Test.YtllfmobjkppnaaaGreatS11M
namespace Go.Proofs.YtllfmobjkppnaaaGreat
open Go.RowKit
set_option linter.unusedVariables false

def signR (tk : List TokD) (r : RdD) (s : ByteArray) : RdD := if isT tk r s = true then onR r else r
theorem rdb_lt {p : Nat} {lv ov : Value} {r : RdD} {w : World} (h : RdB p lv ov r w) : p < w.heap.size := (Array.getElem?_eq_some_iff.1 h).1
theorem rdb_drew {p : Nat} {lv ov : Value} {r : RdD} {w : World} (h : RdB p lv ov r w) (q : Nat) : RdB p lv ov r (w.drewN q) := h
theorem frR_drew {B p : Nat} {lv ov : Value} {r : RdD} {w : World} (h : RdB p lv ov r w) (hB : B ≤ p) (q : Nat) : FrR B w (w.drewN q) := FrT.below (bel_drewN (Below.refl _ _) q) (Nat.le_trans hB (Nat.le_of_lt (rdb_lt h)))
/-- A field of the reader's written. -/
theorem rdb_set {B p j : Nat} {lv ov u : Value} {r r' : RdD} {w : World} (h : RdB p lv ov r w) (hB : B ≤ p) (hc : (rdC lv ov r).setIfInBounds j u = rdC lv ov r') : RdB p lv ov r' (w.setCell ⟨p, j, none⟩ u) ∧ FrR B w (w.setCell ⟨p, j, none⟩ u) :=
  ⟨by rw [RdB, setCell_self u h, hc], fr_set u h (by simp) hB⟩

set_option maxHeartbeats 1600000 in
set_option maxRecDepth 100000 in
theorem sign_any {B : Nat} (p : Nat) (lv ov : Value) (tk : List TokD) (r : RdD) (s : ByteArray) (w : World) (hB : B ≤ p) (hl : tk.length ≤ 1048576) (h : RdB p lv ov r w) (ht : RowC 2 TokV w lv tk) :
    Calls Tryz.prog 37 #[.pointer (some ⟨p, 0, none⟩), .string s] w fun e w' => e = .returned (.bool (isT tk r s)) ∧ RdB p lv ov (signR tk r s) w' ∧ FrR B w w' := by
  have H : Hid (RdB p lv ov r w) := h
  have HI : Hid (∀ _ : Unit, _) := fun _ => is_any p lv ov tk r s w hl h ht
  have hat : isT tk r s = true → r.at_ < 1048576 := fun e => by
    rcases Nat.lt_or_ge r.at_ tk.length with h | h
    · omega
    · rw [isT_end h] at e; cases e
  cases hi : isT tk r s with
  | true =>
    have hat2 := hat hi
    have HS : Hid (signR tk r s = onR r) := by rw [Hid, signR, if_pos hi]
    rw [hi] at HI
    clear hat hi
    have wa : IntKind.i64.wrap ((r.at_ : Int) + 1) = (r.at_ : Int) + 1 := by rw [IntKind.wrap_i64]; omega
    go_enter Tryz.func37, Tryz.ntmps37
    go_wp2_with fail
    refine (HI.out ()).mono ?_
    rintro e wq ⟨rfl, q, rfl⟩
    have e1 : (w.drewN q).cell? ⟨p, 1, none⟩ = some (.int .i64 r.at_) := run_cell (rdb_drew H.out q) rfl
    have z1 : (w.drewN q).frozen? ⟨p, 1, none⟩ = false := run_frozen (rdb_drew H.out q)
    have R := rdb_set (B := B) (j := 1) (u := .int .i64 ((r.at_ : Int) + 1)) (r' := onR r) (rdb_drew H.out q) hB rfl
    have HR1 : Hid (RdB p lv ov (onR r) ((w.drewN q).setCell ⟨p, 1, none⟩ (.int .i64 ((r.at_ : Int) + 1)))) := R.1
    have HR2 : Hid (FrR B w ((w.drewN q).setCell ⟨p, 1, none⟩ (.int .i64 ((r.at_ : Int) + 1)))) := (frR_drew H.out hB q).trans R.2
    clear R
    go_wp2
    go_ret
    rw [HS.out]
    exact ⟨rfl, HR1.out, HR2.out⟩
  | false =>
    have HS : Hid (signR tk r s = r) := by rw [Hid, signR, if_neg (by rw [hi]; decide)]
    rw [hi] at HI
    clear hat hi
    go_enter Tryz.func37, Tryz.ntmps37
    go_wp2_with fail
    refine (HI.out ()).mono ?_
    rintro e wq ⟨rfl, q, rfl⟩
    go_wp2
    go_ret
    rw [HS.out]
    exact ⟨rfl, rdb_drew H.out q, frR_drew H.out hB q⟩

set_option maxHeartbeats 1600000 in
theorem want_any {B : Nat} (p : Nat) (lv ov : Value) (tk : List TokD) (r : RdD) (s : ByteArray) (w : World) (hB : B ≤ p) (hl : tk.length ≤ 1048576) (h : RdB p lv ov r w) (ht : RowC 2 TokV w lv tk) :
    Calls Tryz.prog 38 #[.pointer (some ⟨p, 0, none⟩), .string s] w fun e w' => e = .returned (.tuple #[]) ∧ RdB p lv ov (wantR tk r s) w' ∧ FrR B w w' := by
  have HI : Hid (∀ _ : Unit, _) := fun _ => sign_any (B := B) p lv ov tk r s w hB hl h ht
  cases hi : isT tk r s with
  | true =>
    have HS : Hid (wantR tk r s = onR r) := by rw [Hid, wantR, if_pos hi]
    have HQ : Hid (signR tk r s = onR r) := by rw [Hid, signR, if_pos hi]
    rw [hi, HQ.out] at HI
    clear hi
    go_enter Tryz.func38, Tryz.ntmps38
    go_wp2_with fail
    refine (HI.out ()).mono ?_
    rintro e w1 ⟨rfl, h1, h2⟩
    have H1 : Hid (RdB p lv ov (onR r) w1) := h1
    have H2 : Hid (FrR B w w1) := h2
    clear h1 h2
    go_wp2
    go_end0
    rw [HS.out]
    exact ⟨rfl, H1.out, H2.out⟩
  | false =>
    have HS : Hid (wantR tk r s = badR r) := by rw [Hid, wantR, if_neg (by rw [hi]; decide)]
    have HQ : Hid (signR tk r s = r) := by rw [Hid, signR, if_neg (by rw [hi]; decide)]
    rw [hi, HQ.out] at HI
    clear hi
    go_enter Tryz.func38, Tryz.ntmps38
    go_wp2_with fail
    refine (HI.out ()).mono ?_
    rintro e w1 ⟨rfl, h1, h2⟩
    have e3 : w1.cell? ⟨p, 3, none⟩ = some (.bool r.bad) := run_cell h1 rfl
    have z3 : w1.frozen? ⟨p, 3, none⟩ = false := run_frozen h1
    have R := rdb_set (B := B) (j := 3) (u := .bool true) (r' := badR r) h1 hB rfl
    have H1 : Hid (RdB p lv ov (badR r) (w1.setCell ⟨p, 3, none⟩ (.bool true))) := R.1
    have H2 : Hid (FrR B w (w1.setCell ⟨p, 3, none⟩ (.bool true))) := h2.trans R.2
    clear R h1 h2
    go_wp2
    go_end0
    rw [HS.out]
    exact ⟨rfl, H1.out, H2.out⟩

set_option maxHeartbeats 1600000 in
theorem down_any {B : Nat} (p : Nat) (lv ov : Value) (r : RdD) (w : World) (hB : B ≤ p) (hd0 : -1000000 ≤ r.deep) (hd1 : r.deep ≤ 1000000) (h : RdB p lv ov r w) :
    Calls Tryz.prog 62 #[.pointer (some ⟨p, 0, none⟩)] w fun e w' => e = .returned (.tuple #[]) ∧ RdB p lv ov (downR r) w' ∧ FrR B w w' := by
  have wa : IntKind.i64.wrap (r.deep + 1) = r.deep + 1 := by rw [IntKind.wrap_i64]; omega
  have e2 : w.cell? ⟨p, 2, none⟩ = some (.int .i64 r.deep) := run_cell h rfl
  have z2 : w.frozen? ⟨p, 2, none⟩ = false := run_frozen h
  have R := rdb_set (B := B) (j := 2) (u := .int .i64 (r.deep + 1)) (r' := { r with deep := r.deep + 1 }) h hB rfl
  have f2 : (w.setCell ⟨p, 2, none⟩ (.int .i64 (r.deep + 1))).cell? ⟨p, 2, none⟩ = some (.int .i64 (r.deep + 1)) := run_cell R.1 rfl
  have f3 : (w.setCell ⟨p, 2, none⟩ (.int .i64 (r.deep + 1))).cell? ⟨p, 3, none⟩ = some (.bool r.bad) := run_cell R.1 rfl
  have y3 : (w.setCell ⟨p, 2, none⟩ (.int .i64 (r.deep + 1))).frozen? ⟨p, 3, none⟩ = false := run_frozen R.1
  have R2 := rdb_set (B := B) (j := 3) (u := .bool true) (r' := { r with deep := r.deep + 1, bad := true }) R.1 hB rfl
  have H1 : Hid (RdB p lv ov { r with deep := r.deep + 1 } (w.setCell ⟨p, 2, none⟩ (.int .i64 (r.deep + 1)))) := R.1
  have H2 : Hid (FrR B w (w.setCell ⟨p, 2, none⟩ (.int .i64 (r.deep + 1)))) := R.2
  have H3 : Hid (RdB p lv ov { r with deep := r.deep + 1, bad := true } ((w.setCell ⟨p, 2, none⟩ (.int .i64 (r.deep + 1))).setCell ⟨p, 3, none⟩ (.bool true))) := R2.1
  have H4 : Hid (FrR B w ((w.setCell ⟨p, 2, none⟩ (.int .i64 (r.deep + 1))).setCell ⟨p, 3, none⟩ (.bool true))) := R.2.trans R2.2
  clear R R2 h
  by_cases h20 : 20 < r.deep + 1
  · have HV : Hid (downR r = { r with deep := r.deep + 1, bad := true }) := by rw [Hid, downR, decide_eq_true h20, Bool.or_true]
    go_enter Tryz.func62, Tryz.ntmps62
    go_wp2
    go_end0
    rw [HV.out]
    exact ⟨rfl, H3.out, H4.out⟩
  · have HV : Hid (downR r = { r with deep := r.deep + 1 }) := by rw [Hid, downR, decide_eq_false h20, Bool.or_false]
    have d20 : decide (20 < r.deep + 1) = false := decide_eq_false h20
    go_enter Tryz.func62, Tryz.ntmps62
    go_wp2
    go_end0
    rw [HV.out]
    exact ⟨rfl, H1.out, H2.out⟩
set_option maxHeartbeats 800000 in
theorem up_any {B : Nat} (p : Nat) (lv ov : Value) (r : RdD) (w : World) (hB : B ≤ p) (hd0 : -1000000 ≤ r.deep) (hd1 : r.deep ≤ 1000000) (h : RdB p lv ov r w) :
    Calls Tryz.prog 64 #[.pointer (some ⟨p, 0, none⟩)] w fun e w' => e = .returned (.tuple #[]) ∧ RdB p lv ov (upR r) w' ∧ FrR B w w' := by
  have wa : IntKind.i64.wrap (r.deep - 1) = r.deep - 1 := by rw [IntKind.wrap_i64]; omega
  have e2 : w.cell? ⟨p, 2, none⟩ = some (.int .i64 r.deep) := run_cell h rfl
  have z2 : w.frozen? ⟨p, 2, none⟩ = false := run_frozen h
  have R := rdb_set (B := B) (j := 2) (u := .int .i64 (r.deep - 1)) (r' := upR r) h hB rfl
  have H1 : Hid (RdB p lv ov (upR r) (w.setCell ⟨p, 2, none⟩ (.int .i64 (r.deep - 1)))) := R.1
  have H2 : Hid (FrR B w (w.setCell ⟨p, 2, none⟩ (.int .i64 (r.deep - 1)))) := R.2
  clear R h
  go_enter Tryz.func64, Tryz.ntmps64
  go_wp2
  go_end0
  exact ⟨rfl, H1.out, H2.out⟩

end Go.Proofs.YtllfmobjkppnaaaGreat
