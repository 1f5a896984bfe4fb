/- The specification's reader: kind. -/
import Derived.Test.YtipkbkhnaekceaaS11N
namespace Go.Proofs.Ytipkbkhnaekceaa
open Go.RowKit
set_option linter.unusedVariables false

theorem kindR_bad {tk : List TokD} {r : RdD} {k : Int} (h : r.bad = true) : kindR tk r k = none := by rw [kindR, if_pos h]
theorem kindR_end {tk : List TokD} {r : RdD} {k : Int} (hb : r.bad = false) (h : tk.length ≤ r.at_) : kindR tk r k = none := by rw [kindR, if_neg (by rw [hb]; decide), List.getElem?_eq_none h]
theorem kindR_at {tk : List TokD} {r : RdD} {k : Int} (hb : r.bad = false) (h : r.at_ < tk.length) : kindR tk r k = if tk[r.at_].kind = k then some tk[r.at_].text else none := by rw [kindR, if_neg (by rw [hb]; decide), List.getElem?_eq_getElem h]
def kindT (tk : List TokD) (r : RdD) (k : Int) : RdD := if (kindR tk r k).isSome = true then onR r else r

set_option maxHeartbeats 3200000 in
set_option maxRecDepth 100000 in
theorem kind11_any {B : Nat} (p : Nat) (lv ov : Value) (tk : List TokD) (r : RdD) (k : Int) (w : World) (hB : B ≤ p) (hl : tk.length ≤ 1048576) (h : RdB p lv ov r w) (ht : RowC 2 TokV w lv tk) (hlo : ∀ b o n c, lv = .slice (some ⟨b, o, none⟩) n c → b < B) :
    Calls Try.prog 49 #[.pointer (some ⟨p, 0, none⟩), .int .i64 k] w fun e w' => e = .returned (.tuple #[.string ((kindR tk r k).getD em), .bool (kindR tk r k).isSome]) ∧ RdB p lv ov (kindT tk r k) w' ∧ FrR B w w' := by
  have H : Hid (RdB p lv ov r w) := h
  obtain ⟨a, cap, rfl⟩ := ht.slice
  have e0 : w.cell? ⟨p, 0, none⟩ = some (.slice a tk.length cap) := run_cell h rfl
  have e1 : w.cell? ⟨p, 1, none⟩ = some (.int .i64 r.at_) := run_cell h rfl
  have e3 : w.cell? ⟨p, 3, none⟩ = some (.bool r.bad) := run_cell h rfl
  clear h
  cases hb : r.bad with
  | true =>
    have HV : Hid (kindR tk r k = none) := kindR_bad hb
    have HT : Hid (kindT tk r k = r) := by rw [Hid, kindT, HV.out]; rfl
    rw [hb] at e3
    clear hb
    go_enter Try.func49, Try.ntmps49
    go_wp2_with fail
    go_quiet (fail)
    go_wp2
    go_ret2
    rw [HV.out, HT.out]
    exact ⟨rfl, rdb_drew H.out _, frR_drew H.out hB _⟩
  | false =>
    rw [hb] at e3
    by_cases hlt : r.at_ < tk.length
    · have HK : Hid (_ = _) := kindR_at (k := k) hb hlt
      obtain ⟨b, off, vs, rfl, _, hc, hE⟩ := ht.at hlt
      obtain rfl : vs = [.int .i64 tk[r.at_].kind, .string tk[r.at_].text] := hE
      have hbB := hlo b off tk.length cap rfl
      have t0 : w.cell? ⟨b, off + r.at_ * 2, none⟩ = some (.int .i64 tk[r.at_].kind) := hc 0 (by simp)
      have t1 : w.cell? ⟨b, off + r.at_ * 2 + 1, none⟩ = some (.string tk[r.at_].text) := hc 1 (by simp)
      have i1 : (r.at_ : Int) < (tk.length : Int) := by omega
      have d1 : decide ((tk.length : Int) ≤ (r.at_ : Int)) = false := decide_eq_false (by omega)
      clear hc hb ht hlo
      by_cases hk : tk[r.at_].kind = k
      · have HV : Hid (kindR tk r k = some tk[r.at_].text) := by rw [Hid, HK.out, if_pos hk]
        have HT : Hid (kindT tk r k = onR r) := by rw [Hid, kindT, HV.out]; rfl
        have qk : (tk[r.at_].kind != k) = false := by rw [hk]; simp
        have wa : IntKind.i64.wrap ((r.at_ : Int) + 1) = (r.at_ : Int) + 1 := by rw [IntKind.wrap_i64]; omega
        have wb : IntKind.i64.wrap ((r.at_ : Int) + 1 - 1) = (r.at_ : Int) := by rw [IntKind.wrap_i64]; omega
        clear hk HK
        generalize tk[r.at_].kind = kd at *
        generalize tk[r.at_].text = tx at *
        go_enter Try.func49, Try.ntmps49
        go_wp2_with fail
        go_quiet (fail)
        have f1 : (w.drewN nq).cell? ⟨p, 1, none⟩ = some (.int .i64 r.at_) := run_cell (rdb_drew H.out nq) rfl
        have z1 : (w.drewN nq).frozen? ⟨p, 1, none⟩ = false := run_frozen (rdb_drew H.out nq)
        have R := rdb_set (B := B) (j := 1) (u := .int .i64 ((r.at_ : Int) + 1)) (r' := onR r) (rdb_drew H.out nq) hB rfl
        have HR1 : Hid (RdB p (.slice (some ⟨b, off, none⟩) tk.length cap) ov (onR r) ((w.drewN nq).setCell ⟨p, 1, none⟩ (.int .i64 ((r.at_ : Int) + 1)))) := R.1
        have HR2 : Hid (FrR B w ((w.drewN nq).setCell ⟨p, 1, none⟩ (.int .i64 ((r.at_ : Int) + 1)))) := (frR_drew H.out hB nq).trans R.2
        have g0 : ((w.drewN nq).setCell ⟨p, 1, none⟩ (.int .i64 ((r.at_ : Int) + 1))).cell? ⟨p, 0, none⟩ = some (.slice (some ⟨b, off, none⟩) tk.length cap) := run_cell R.1 rfl
        have g1 : ((w.drewN nq).setCell ⟨p, 1, none⟩ (.int .i64 ((r.at_ : Int) + 1))).cell? ⟨p, 1, none⟩ = some (.int .i64 ((r.at_ : Int) + 1)) := run_cell R.1 rfl
        have g2 : ((w.drewN nq).setCell ⟨p, 1, none⟩ (.int .i64 ((r.at_ : Int) + 1))).cell? ⟨b, off + r.at_ * 2 + 1, none⟩ = some (.string tx) := (World.cell?_of_block (setCell_other (w := w.drewN nq) (k := b) _ (by omega))).trans t1
        clear R
        go_wp2_with fail
        generalize (w.drewN nq).setCell ⟨p, 1, none⟩ (.int .i64 ((r.at_ : Int) + 1)) = W1 at *
        go_quiet (fail)
        go_wp2
        go_ret2
        rw [HV.out, HT.out]
        exact ⟨rfl, rdb_drew HR1.out _, HR2.out.trans (frR_drew HR1.out hB _)⟩
      · have HV : Hid (kindR tk r k = none) := by rw [Hid, HK.out, if_neg hk]
        have HT : Hid (kindT tk r k = r) := by rw [Hid, kindT, HV.out]; rfl
        have qk : (tk[r.at_].kind != k) = true := by simp [hk]
        clear hk HK
        generalize tk[r.at_].kind = kd at *
        generalize tk[r.at_].text = tx at *
        go_enter Try.func49, Try.ntmps49
        go_wp2_with fail
        go_quiet (fail)
        go_wp2
        go_ret2
        rw [HV.out, HT.out]
        exact ⟨rfl, rdb_drew H.out _, frR_drew H.out hB _⟩
    · have HV : Hid (kindR tk r k = none) := kindR_end hb (by omega)
      have HT : Hid (kindT tk r k = r) := by rw [Hid, kindT, HV.out]; rfl
      have d1 : decide ((tk.length : Int) ≤ (r.at_ : Int)) = true := decide_eq_true (by omega)
      clear hb
      go_enter Try.func49, Try.ntmps49
      go_wp2_with fail
      go_quiet (fail)
      go_wp2
      go_ret2
      rw [HV.out, HT.out]
      exact ⟨rfl, rdb_drew H.out _, frR_drew H.out hB _⟩

end Go.Proofs.Ytipkbkhnaekceaa
