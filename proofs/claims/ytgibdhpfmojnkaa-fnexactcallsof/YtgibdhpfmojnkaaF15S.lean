/- The specification's CallsOf. -/
import Derived.Test.YtgibdhpfmojnkaaGData
import Derived.Test.YtgibdhpfmojnkaaXFree
import Derived.BigQuiet
import Derived.Deep.Onto
namespace Go.Proofs.Ytgibdhpfmojnkaa
open Go.RowKit
set_option linter.unusedVariables false

def callsS (out : List ByteArray) : List SymD → List ByteArray
  | [] => out
  | y :: ys => callsS (if y.kind = 3 then putS out y.text else out) ys
def callsA (out : List ByteArray) : List (List SymD) → List ByteArray
  | [] => out
  | e :: es => callsA (callsS out e) es
def callsB (g : List RuleD) (r : Int) : List ByteArray := if 0 ≤ r ∧ r < (g.length : Int) then callsA [] (g.getD r.toNat default).alts else []
theorem callsS_drop (out : List ByteArray) (ys : List SymD) (j : Nat) (h : j < ys.length) : callsS out (ys.drop j) = callsS (if ys[j].kind = 3 then putS out ys[j].text else out) (ys.drop (j + 1)) := by
  rw [List.drop_eq_getElem_cons h]
  rfl
theorem callsA_drop (out : List ByteArray) (es : List (List SymD)) (j : Nat) (h : j < es.length) : callsA out (es.drop j) = callsA (callsS out es[j]) (es.drop (j + 1)) := by
  rw [List.drop_eq_getElem_cons h]
  rfl
theorem putS_one (ss : List ByteArray) (s : ByteArray) : (putS ss s).length ≤ ss.length + 1 := by
  have h : ∀ l : List ByteArray, (l.filter (fun t => ltS t s)).length + (l.filter (fun t => gtS t s)).length ≤ l.length := by
    intro l
    induction l with
    | nil => simp
    | cons t l ih =>
      simp only [List.filter_cons, List.length_cons]
      cases h1 : ltS t s with
      | true =>
        have h2 : gtS t s = false := by
          unfold ltS at h1
          unfold gtS
          rw [h1]
          rfl
        rw [h2]
        simp
        omega
      | false =>
        cases gtS t s
        · simp; omega
        · simp; omega
  have := h ss
  unfold putS
  simp only [List.length_append, List.length_singleton]
  omega
theorem sum_take15 (es : List (List SymD)) : ∀ i, (hi : i < es.length) → ((es.take i).map List.length).sum + es[i].length ≤ rowTot altTot es := by
  intro i hi
  have h1 : ((es.take (i + 1)).map List.length).sum = ((es.take i).map List.length).sum + es[i].length := rowTot_next List.length es i hi
  have h2 : ((es.take (i + 1)).map List.length).sum ≤ (es.map List.length).sum := by
    have e : es.map List.length = (es.take (i + 1)).map List.length ++ (es.drop (i + 1)).map List.length := by rw [← List.map_append, List.take_append_drop]
    rw [e, List.sum_append]
    omega
  have h3 : ∀ l : List (List SymD), (l.map List.length).sum ≤ (l.map altTot).sum := by
    intro l
    induction l with
    | nil => simp
    | cons e l ih =>
      simp only [List.map_cons, List.sum_cons]
      have : e.length ≤ altTot e := rowTot_len symTot e
      omega
  have h4 := h3 es
  unfold rowTot
  omega

set_option maxHeartbeats 6400000 in
set_option maxRecDepth 100000 in
theorem specCallsOf_any (v : Value) (g : List RuleD) (r : Int) (w : World) (hn : grammarTot g ≤ 1048576) (h : RowC 3 RuleE w v g) :
    Calls Try.prog 5 #[.agg #[v], .int .i64 r] w fun e w' => ∃ o, e = .returned o ∧ OwnB w.heap.size o (callsB g r) w' ∧ Below w.heap.size w w' := by
  obtain ⟨a, cap, rfl⟩ := h.slice
  have B0 : Hid (Below w.heap.size w (w.alloc (.cells #[.slice a g.length cap] 30))) := (Below.refl _ _).alloc (Nat.le_refl _) _
  have HR : Hid (RowC 3 RuleE (w.alloc (.cells #[.slice a g.length cap] 30)) (.slice a g.length cap) g) := RowC.below RuleE_stable h B0.out
  have hE0 : (w.alloc (.cells #[.slice a g.length cap] 30)).cell? ⟨w.heap.size, 0, none⟩ = some (.slice a g.length cap) := box_at _ _ _ 0 _ rfl
  have HS0 : Hid ((w.alloc (.cells #[.slice a g.length cap] 30)).heap.size = w.heap.size + 1) := by rw [Hid]; simp
  have hgl : g.length ≤ 1048576 := Nat.le_trans (rowTot_len ruleTot g) hn
  have HIn : Hid (∀ W, _) := fun W => in_any r 0 ((g.length : Int) - 1) W
  have wk1 : IntKind.i64.wrap ((g.length : Int) - 1) = (g.length : Int) - 1 := by rw [IntKind.wrap_i64]; omega
  have HN : Hid (grammarTot g ≤ 1048576) := hn
  have HO0 : Hid (OwnB (w.heap.size + 1) (.slice (some ⟨w.heap.size + 1, 0, none⟩) 0 0) [] ((w.alloc (.cells #[.slice a g.length cap] 30)).alloc (.cells #[] 9))) := by
    have := World.ownsRow_made (base := (w.alloc (.cells #[.slice a g.length cap] 30)).heap.size) (w.alloc (.cells #[.slice a g.length cap] 30)) #[] 0 (e := 9) (size := 1) (Nat.le_refl _) (by decide) rfl
    rw [HS0.out] at this
    exact this
  have HB0 : Hid (Below (w.heap.size + 1) (w.alloc (.cells #[.slice a g.length cap] 30)) ((w.alloc (.cells #[.slice a g.length cap] 30)).alloc (.cells #[] 9))) := (Below.refl _ _).alloc (by rw [HS0.out]; exact Nat.le_refl _) _
  clear h hn
  by_cases hr : 0 ≤ r ∧ r ≤ (g.length : Int) - 1
  · obtain ⟨q, rfl⟩ : ∃ q : Nat, r = (q : Int) := ⟨r.toNat, by omega⟩
    have hq : q < g.length := by omega
    rw [decide_eq_true hr] at HIn
    have HV : Hid (callsB g (q : Int) = callsA [] g[q].alts) := by
      rw [Hid, callsB, if_pos ⟨by omega, by omega⟩, Int.toNat_natCast, List.getD_eq_getElem?_getD, List.getElem?_eq_getElem hq]
      rfl
    have hat : rowTot altTot g[q].alts ≤ 1048576 := by
      have h1 := rowTot_mem ruleTot (List.getElem_mem hq)
      have h2 : rowTot altTot g[q].alts ≤ ruleTot g[q] := by unfold ruleTot; omega
      have h3 : rowTot ruleTot g ≤ 1048576 := HN.out
      omega
    obtain ⟨b, off, vs, rfl, _, hc, hEl⟩ := HR.out.at hq
    obtain ⟨r0, r1, rfl, hp, ha⟩ := hEl
    have n2 : (w.alloc (.cells #[.slice (some ⟨b, off, none⟩) g.length cap] 30)).cell? ⟨b, off + q * 3 + 2, none⟩ = some r1 := hc 2 (by simp)
    obtain ⟨aa, ca, rfl⟩ := ha.slice
    have HA : Hid (RowC 1 AltE (w.alloc (.cells #[.slice (some ⟨b, off, none⟩) g.length cap] 30)) (.slice aa g[q].alts.length ca) g[q].alts) := ha
    have hal : g[q].alts.length ≤ 1048576 := Nat.le_trans (rowTot_len altTot _) hat
    have HAt : Hid (rowTot altTot g[q].alts ≤ 1048576) := hat
    have i2 : (q : Int) < (g.length : Int) := by omega
    clear hr hc hp ha hat
    generalize g[q].alts = es at *
    go_enter Try.func5, Try.ntmps5
    go_wp2_with (go_at_call 14; refine (HIn.out _).mono ?_; rintro e wq ⟨rfl, hw⟩; rw [hw]; clear hw)
    generalize (w.alloc (.cells #[.slice (some ⟨b, off, none⟩) g.length cap] 30)) = w0 at *
    go_loopw [5, 6] (fun ov iv wr => ∃ (i : Nat) (out : List ByteArray), iv = .int .i64 i ∧ i ≤ es.length ∧ callsA out (es.drop i) = callsA [] es ∧ out.length ≤ ((es.take i).map List.length).sum ∧ OwnB (w.heap.size + 1) ov out wr ∧ Below (w.heap.size + 1) w0 wr) (fun _ iv _ => es.length - (intOf iv).toNat)
    case atStart => exact ⟨0, [], rfl, Nat.zero_le _, rfl, Nat.zero_le _, HO0.out, HB0.out⟩
    case round =>
      clear HO0 HB0
      obtain ⟨i, out, rfl, hi, hC, hL, hown, hbw⟩ := hrel
      obtain ⟨wa, rfl⟩ : ∃ W, W = wr := ⟨wr, rfl⟩
      have HC : Hid (callsA out (es.drop i) = callsA [] es) := hC
      have HL : Hid (out.length ≤ ((es.take i).map List.length).sum) := hL
      have HO : Hid (OwnB (w.heap.size + 1) u5 out wa) := hown
      have HB : Hid (Below w0.heap.size w0 wa) := by rw [Hid, HS0.out]; exact hbw
      have hE := cell_keep hE0 HB.out
      have n2a := cell_keep n2 HB.out
      clear hC hL hown hbw
      by_cases hlt : i < es.length
      · obtain ⟨be, oe, vse, rfl, _, hce, hEe⟩ := HA.out.at hlt
        obtain ⟨re, rfl, hsy⟩ := hEe
        have m0 : w0.cell? ⟨be, oe + i * 1 + 0, none⟩ = some re := hce 0 (by simp)
        rw [Nat.mul_one, Nat.add_zero] at m0
        have m0a := cell_keep m0 HB.out
        obtain ⟨as9, cs9, rfl⟩ := hsy.slice
        have HSy : Hid (RowC 4 SymE w0 (.slice as9 es[i].length cs9) es[i]) := hsy
        have hsm := sum_take15 es i hlt
        have HCx : Hid (callsA (callsS out es[i]) (es.drop (i + 1)) = callsA [] es) := by rw [Hid, ← callsA_drop out es i hlt]; exact HC.out
        have HLx : Hid (((es.take (i + 1)).map List.length).sum = ((es.take i).map List.length).sum + es[i].length) := rowTot_next List.length es i hlt
        have i4 : (i : Int) < (es.length : Int) := by omega
        have hat := HAt.out
        have HSm : Hid (((es.take i).map List.length).sum + es[i].length ≤ 1048576) := Nat.le_trans hsm hat
        have hyl : es[i].length ≤ 1048576 := by have := HSm.out; omega
        clear hce hsy hsm hat HC
        generalize ((es.take i).map List.length).sum = base at *
        generalize es[i] = ys at *
        go_wp2
        go_loopw [5, 8] (fun ov kv wr => ∃ (k : Nat) (o2 : List ByteArray), kv = .int .i64 k ∧ k ≤ ys.length ∧ callsS o2 (ys.drop k) = callsS out ys ∧ o2.length ≤ base + k ∧ OwnB (w.heap.size + 1) ov o2 wr ∧ Below w0.heap.size w0 wr) (fun _ kv _ => ys.length - (intOf kv).toNat)
        case atStart => exact ⟨0, out, rfl, Nat.zero_le _, rfl, HL.out, HO.out, HB.out⟩
        case round =>
          clear HL HO HB hE n2a m0a
          obtain ⟨k, o2, rfl, hk, hC, hL, hown, hbw⟩ := hrel
          obtain ⟨wb, rfl⟩ : ∃ W, W = wr := ⟨wr, rfl⟩
          have HC : Hid (callsS o2 (ys.drop k) = callsS out ys) := hC
          have HL : Hid (o2.length ≤ base + k) := hL
          have HO : Hid (OwnB (w.heap.size + 1) u5 o2 wb) := hown
          have HB : Hid (Below w0.heap.size w0 wb) := hbw
          have hE := cell_keep hE0 hbw
          have n2b := cell_keep n2 hbw
          clear hC hL hown hbw
          by_cases hkl : k < ys.length
          · obtain ⟨bs, os, vss, rfl, _, hcs, hEs⟩ := HSy.out.at hkl
            obtain ⟨rs, rfl, hxs⟩ := hEs
            have s0 : w0.cell? ⟨bs, os + k * 4, none⟩ = some (.int .i64 ys[k].kind) := hcs 0 (by simp)
            have s1 : w0.cell? ⟨bs, os + k * 4 + 1, none⟩ = some (.string ys[k].text) := hcs 1 (by simp)
            have s0b := cell_keep s0 HB.out
            have s1b := cell_keep s1 HB.out
            have HCx : Hid (callsS (if ys[k].kind = 3 then putS o2 ys[k].text else o2) (ys.drop (k + 1)) = callsS out ys) := by rw [Hid, ← callsS_drop o2 ys k hkl]; exact HC.out
            have i6 : (k : Int) < (ys.length : Int) := by omega
            have HPl : Hid ((putS o2 ys[k].text).length ≤ base + (k + 1)) := by
              have h1 := putS_one o2 ys[k].text
              have h2 := HL.out
              rw [Hid]
              omega
            have HPu : Hid (∀ V : World, SRow V u5 o2 → _) := fun V hV => l03Put_any u5 o2 ys[k].text V (by have h1 := HL.out; have h2 := HSm.out; omega) hV
            clear hcs hxs HC s0 s1
            by_cases h3 : ys[k].kind = 3
            · rw [h3] at s0b
              rw [if_pos h3] at HCx
              clear h3
              generalize ys[k].text = tx at *
              go_wp2_with (go_at_call 15; refine (HPu.out _ HO.out.row).mono ?_; rintro e w3 ⟨o3, rfl, ho3, hb3⟩)
              have HO3 : Hid (OwnB (w.heap.size + 1) o3 (putS o2 tx) w3) := World.ownsRow.mono ho3 (by have := HB.out.size; rw [HS0.out] at this; exact this)
              have HB3 : Hid (Below w0.heap.size w0 w3) := HB.out.trans (hb3.mono HB.out.size)
              clear ho3 hb3 HO HB hE n2b s0b s1b HPu
              go_roundw
              case rel => exact ⟨k + 1, _, by go_num, by omega, HCx.out, HPl.out, HO3.out, HB3.out⟩
              case measure => simp [intOf]; omega
            · have b3 : (ys[k].kind == 3) = false := beq_eq_false_iff_ne.2 h3
              rw [if_neg h3] at HCx
              have HL2 : Hid (o2.length ≤ base + (k + 1)) := by have := HL.out; rw [Hid]; omega
              clear h3
              generalize ys[k].kind = kk at *
              go_wp2
              go_roundw
              case rel => exact ⟨k + 1, o2, by go_num, by omega, HCx.out, HL2.out, HO.out, HB.out⟩
              case measure => simp [intOf]; omega
          · obtain rfl : k = ys.length := by omega
            have HCe : Hid (o2 = callsS out ys) := by
              have := HC.out
              rwa [List.drop_of_length_le (Nat.le_refl _)] at this
            have HCn : Hid (callsA o2 (es.drop (i + 1)) = callsA [] es) := by rw [Hid, HCe.out]; exact HCx.out
            have HLn : Hid (o2.length ≤ ((es.take (i + 1)).map List.length).sum) := by rw [Hid, HLx.out]; exact HL.out
            have HBn : Hid (Below (w.heap.size + 1) w0 wb) := by rw [Hid, ← HS0.out]; exact HB.out
            have i6 : ¬ (ys.length : Int) < (ys.length : Int) := by omega
            go_wp2
            go_roundw
            case rel => exact ⟨i + 1, o2, by go_num, by omega, HCn.out, HLn.out, HO.out, HBn.out⟩
            case measure => simp [intOf]; omega
      · obtain rfl : i = es.length := by omega
        have HCe : Hid (out = callsB g (q : Int)) := by
          have := HC.out
          rw [List.drop_of_length_le (Nat.le_refl _)] at this
          rw [Hid, HV.out]
          exact this
        have HBf : Hid (Below w.heap.size w wa) := B0.out.trans (HB.out.mono B0.out.size)
        have HOf : Hid (OwnB w.heap.size u5 (callsB g (q : Int)) wa) := by rw [← HCe.out]; exact World.ownsRow.mono HO.out (Nat.le_succ _)
        have i4 : ¬ (es.length : Int) < (es.length : Int) := by omega
        go_wp2
        go_ret
        exact ⟨_, rfl, HOf.out, HBf.out⟩
  · rw [decide_eq_false hr] at HIn
    have HV : Hid (callsB g r = []) := by rw [Hid, callsB, if_neg (fun h => hr ⟨h.1, by omega⟩)]
    have HBf : Hid (Below w.heap.size w ((w.alloc (.cells #[.slice a g.length cap] 30)).alloc (.cells #[] 9))) := B0.out.trans ((Below.refl _ _).alloc (by simp) _)
    have HOf : Hid (OwnB w.heap.size (.slice (some ⟨w.heap.size + 1, 0, none⟩) 0 0) [] ((w.alloc (.cells #[.slice a g.length cap] 30)).alloc (.cells #[] 9))) := World.ownsRow.mono HO0.out (Nat.le_succ _)
    clear hr
    go_enter Try.func5, Try.ntmps5
    go_wp2_with (go_at_call 14; refine (HIn.out _).mono ?_; rintro e wq ⟨rfl, hw⟩; rw [hw]; clear hw)
    go_ret
    rw [HV.out]
    exact ⟨_, rfl, HOf.out, HBf.out⟩

end Go.Proofs.Ytgibdhpfmojnkaa
