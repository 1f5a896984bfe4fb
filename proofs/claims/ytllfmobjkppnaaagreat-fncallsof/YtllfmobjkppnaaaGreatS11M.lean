/- The specification's reader behind its pointer: is, sign, want, kind, down, up. -/
import Derived.Test.YtllfmobjkppnaaaGreatS11P
import Derived.Test.YtllfmobjkppnaaaGreatFrK
import Derived.Deep.QuietTactic
import Derived.BigQuiet
namespace Go.Proofs.YtllfmobjkppnaaaGreat
open Go.RowKit
set_option linter.unusedVariables false

def rdC (lv ov : Value) (r : RdD) : Array Value := #[lv, .int .i64 r.at_, .int .i64 r.deep, .bool r.bad, ov]
def RdB (p : Nat) (lv ov : Value) (r : RdD) (w : World) : Prop := w.heap[p]? = some (.cells (rdC lv ov r) 85 (0, 0))
abbrev FrR (B : Nat) (w w' : World) : Prop := FrT [85] B w w'
theorem tokV_stable : StableE TokV := fun _ _ _ _ h _ => h
theorem isT_bad {tk : List TokD} {r : RdD} {s : ByteArray} (h : r.bad = true) : isT tk r s = false := by rw [isT, h]; rfl
theorem isT_end {tk : List TokD} {r : RdD} {s : ByteArray} (h : tk.length ≤ r.at_) : isT tk r s = false := by rw [isT, List.getElem?_eq_none h]; simp
theorem isT_at {tk : List TokD} {r : RdD} {s : ByteArray} (hb : r.bad = false) (h : r.at_ < tk.length) : isT tk r s = (decide (tk[r.at_].kind = 5) && decide (tk[r.at_].text = s)) := by rw [isT, hb, List.getElem?_eq_getElem h]; rfl

set_option maxHeartbeats 3200000 in
set_option maxRecDepth 100000 in
theorem is_any (p : Nat) (lv ov : Value) (tk : List TokD) (r : RdD) (s : ByteArray) (w : World) (hl : tk.length ≤ 1048576) (h : RdB p lv ov r w) (ht : RowC 2 TokV w lv tk) :
    Calls Tryz.prog 61 #[.pointer (some ⟨p, 0, none⟩), .string s] w fun e w' => e = .returned (.bool (isT tk r s)) ∧ ∃ q, w' = w.drewN q := by
  obtain ⟨a, cap, rfl⟩ := ht.slice
  have e0 : w.cell? ⟨p, 0, none⟩ = some (.slice a tk.length cap) := run_cell h rfl
  have e1 : w.cell? ⟨p, 1, none⟩ = some (.int .i64 r.at_) := run_cell h rfl
  have e3 : w.cell? ⟨p, 3, none⟩ = some (.bool r.bad) := run_cell h rfl
  clear h
  cases hb : r.bad with
  | true =>
    have HV : Hid (isT tk r s = false) := isT_bad hb
    rw [hb] at e3
    clear hb
    go_enter Tryz.func61, Tryz.ntmps61
    go_wp2_with fail
    go_quiet (fail)
    go_wp2
    go_ret
    rw [HV.out]
    exact ⟨rfl, _, rfl⟩
  | false =>
    rw [hb] at e3
    by_cases hlt : r.at_ < tk.length
    · have HV : Hid (_ = _) := isT_at (s := s) hb hlt
      obtain ⟨b, off, vs, rfl, _, hc, hE⟩ := ht.at hlt
      obtain rfl : vs = [.int .i64 tk[r.at_].kind, .string tk[r.at_].text] := hE
      have t0 : w.cell? ⟨b, off + r.at_ * 2, none⟩ = some (.int .i64 tk[r.at_].kind) := hc 0 (by simp)
      have t1 : w.cell? ⟨b, off + r.at_ * 2 + 1, none⟩ = some (.string tk[r.at_].text) := hc 1 (by simp)
      have i1 : (r.at_ : Int) < (tk.length : Int) := by omega
      have d1 : decide ((r.at_ : Int) < (tk.length : Int)) = true := decide_eq_true i1
      clear hc hb ht
      generalize tk[r.at_].kind = kd at *
      generalize tk[r.at_].text = tx at *
      generalize r.at_ = ra at *
      by_cases h5 : kd = 5
      · have q5 : (kd == 5) = true := by rw [beq_iff_eq]; exact h5
        rw [decide_eq_true h5, Bool.true_and] at HV
        clear h5
        by_cases hs : tx = s
        · have qs := beq_yes hs
          rw [decide_eq_true hs] at HV
          clear hs
          go_enter Tryz.func61, Tryz.ntmps61
          go_wp2_with fail
          go_quiet (fail)
          go_wp2
          go_ret
          rw [HV.out]
          exact ⟨by first | rfl | (rw [qs]; rfl), _, rfl⟩
        · have qs := beq_no hs
          rw [decide_eq_false hs] at HV
          clear hs
          go_enter Tryz.func61, Tryz.ntmps61
          go_wp2_with fail
          go_quiet (fail)
          go_wp2
          go_ret
          rw [HV.out]
          exact ⟨by first | rfl | (rw [qs]; rfl), _, rfl⟩
      · have q5 : (kd == 5) = false := by rw [beq_eq_false_iff_ne]; exact h5
        rw [decide_eq_false h5, Bool.false_and] at HV
        clear h5
        go_enter Tryz.func61, Tryz.ntmps61
        go_wp2_with fail
        go_quiet (fail)
        go_wp2
        go_ret
        rw [HV.out]
        exact ⟨rfl, _, rfl⟩
    · have HV : Hid (isT tk r s = false) := isT_end (by omega)
      have d1 : decide ((r.at_ : Int) < (tk.length : Int)) = false := decide_eq_false (by omega)
      clear hb
      go_enter Tryz.func61, Tryz.ntmps61
      go_wp2_with fail
      go_quiet (fail)
      go_wp2
      go_ret
      rw [HV.out]
      exact ⟨rfl, _, rfl⟩

end Go.Proofs.YtllfmobjkppnaaaGreat
